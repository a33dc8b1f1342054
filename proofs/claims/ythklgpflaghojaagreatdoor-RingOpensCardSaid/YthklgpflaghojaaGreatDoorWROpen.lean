/-
  The contract of the document's Open.
-/
import Derived.Test.YthklgpflaghojaaGreatDoorWPD
import Derived.Test.YthklgpflaghojaaGreatDoorWRObj
import Derived.Test.YthklgpflaghojaaGreatDoorWPB
import Derived.Test.YthklgpflaghojaaGreatDoorQX1
import Derived.Deep.RegionHeld
namespace Go.Proofs.YthklgpflaghojaaGreatDoor
open Go.RowKit

theorem open_bad' {res : Except Nat Wq.Tok} {m : Nat} {w W : World} (h : res = .error m) (hm : 0 < m) (hb : Below w.heap.size w W) :
    OpenEnd res w (.returned (.tuple #[tokv ByteArray.empty 0 false 0 ByteArray.empty (.slice none 0 0) (.slice none 0 0) ByteArray.empty (.slice none 0 0), .int .i64 (m : Int)])) W :=
  ⟨hb, by rw [h]; exact ⟨rfl, hm⟩⟩

theorem open_good' {res : Except Nat Wq.Tok} {w W : World} {kid sg C : List Nat} {cl : Jq.J} {B1 B2 PC : Option Addr} {d1 d2 cc : Nat} {S : ByteArray} (h : res = .ok ⟨kid, cl, sg, C⟩) (hb : Below w.heap.size w W)
    (hT : Lies W w.heap.size 29 tok0) (hJ : IsJ W (w.heap.size + 1 ≤ ·) (jv cl.kind cl.bool cl.int (strOf cl.text) (.slice B1 cl.names.length d1) (.slice B2 cl.list.length d2)) cl) (hA : ArgIs W PC cc C)
    (hk : ∀ x ∈ kid, x < 256) (hs : (∀ x ∈ sg, x < 256) ∧ sg.length ≤ 12288) (hS : S = strOf sg) :
    OpenEnd res w (.returned (.tuple #[tokv (strOf kid) cl.kind cl.bool cl.int (strOf cl.text) (.slice B1 cl.names.length d1) (.slice B2 cl.list.length d2) S (.slice PC C.length cc), .int .i64 0])) (put9 W w.heap.size (.string (strOf kid)) (.int .i64 cl.kind) (.bool cl.bool) (.int .i64 cl.int) (.string (strOf cl.text)) (.slice B1 cl.names.length d1) (.slice B2 cl.list.length d2) (.string S) (.slice PC C.length cc)).drew := by
  subst hS
  exact open_good h hb hT hJ hA hk hs
theorem cell_drew9 {W : World} {p : Addr} {v : Value} (h : W.cell? p = some v) : W.drew.cell? p = some v := h
theorem put9_cell {w : World} {g k o : Nat} {a b c d e f x y z v : Value} (hne : k ≠ g) (h : w.cell? ⟨k, o, none⟩ = some v) : (put9 w g a b c d e f x y z).cell? ⟨k, o, none⟩ = some v :=
  (World.cell?_of_block (a := ⟨k, o, none⟩) (put9_far hne)).trans h
theorem tok0_strings : ∀ (p : Nat) (a b : ByteArray), tok0[p]? = some (.string a) → tok0[p + 1]? = some (.string b) → False
  | 0, _, _, _, h => by simp at h
  | 1, _, _, h, _ => by simp at h
  | 2, _, _, h, _ => by simp at h
  | 3, _, _, h, _ => by simp at h
  | 4, _, _, _, h => by simp at h
  | 5, _, _, h, _ => by simp at h
  | 6, _, _, h, _ => by simp at h
  | 7, _, _, _, h => by simp at h
  | 8, _, _, h, _ => by simp at h
  | n + 9, _, _, h, _ => by simp at h
/-- What an answer of Get shows: its kind and its text. -/
theorem get_shows {ok : Nat → Prop} {RG : Option Jq.J} {w w' : World} {e : Ending} (h : RGetEnd ok RG w e w') (hgood : ∀ y, RG = some y → Jq.Good 15 y) :
    Below w.heap.size w w' ∧ ∃ (k : Int) (b : Bool) (n : Int) (t : List Nat) (A1 A2 : Option Addr) (n1 n2 c1 c2 : Nat) (r : Bool), e = .returned (.tuple #[jv k b n (strOf t) (.slice A1 n1 c1) (.slice A2 n2 c2), .bool r]) ∧ (∀ x ∈ t, x < 256) ∧
      (k = 3 → RG = some (Jq.textJ t)) ∧ (∀ u, RG = some u → u.kind = k ∧ u.text = t) := by
  obtain ⟨hb, h⟩ := h
  refine ⟨hb, ?_⟩
  cases RG with
  | none => exact ⟨0, false, 0, [], none, none, 0, 0, 0, 0, false, h, (fun _ hx => nomatch hx), (fun h => absurd h (by decide)), fun u hu => by cases hu⟩
  | some y =>
    obtain ⟨u, rfl, hJ⟩ := h
    have hyt : ∀ b ∈ y.text, b < 256 := by obtain ⟨_, _, _, _, _, ht, _⟩ := hJ.parts; exact ht.2
    obtain ⟨B1, d1, B2, d2, rfl⟩ := hJ.form
    exact ⟨_, _, _, _, _, _, _, _, _, _, _, rfl, hyt, (fun hk => by rw [← Wq.text_form (hgood y rfl) hk]), fun u hu => by injection hu with hu; subst hu; exact ⟨rfl, rfl⟩⟩
theorem list_beq (t c : List Nat) (ht : ∀ x ∈ t, x < 256) (hc : ∀ x ∈ c, x < 256) (r : Bool) (hr : r = true ↔ t = c) : ((strOf t).toList == (strOf c).toList) = r := by
  rw [str_beq ht hc]
  cases r with
  | true => exact decide_eq_true (hr.1 rfl)
  | false => exact decide_eq_false fun h => by cases hr.2 h

set_option maxHeartbeats 4000000 in
set_option maxRecDepth 100000 in
theorem refOpen_any (s : ByteArray) (w : World) :
    Calls Tryz.prog 15 #[.string s] w (OpenEnd (Wq.openP (numsOf s)) w) := by
  have Hlen := Lib.hid (numsOf_length s)
  have HOne := Lib.hid (fun A B C sg => @Wq.openP_of (numsOf s) A B C sg)
  have HNone := Lib.hid (@Wq.openP_none (numsOf s))
  obtain ⟨RES, eRES⟩ : ∃ RES, Wq.openP (numsOf s) = RES := ⟨_, rfl⟩
  rw [eRES] at HOne HNone ⊢
  clear eRES
  have hb0 : Below w.heap.size w (w.alloc (.cells tok0.toArray 29)) := (Below.refl _ _).alloc (Nat.le_refl _) _
  have hl0 : Lies (w.alloc (.cells tok0.toArray 29)) w.heap.size 29 tok0 := Lies.made w _ tok0
  by_cases h12 : 12288 < s.size
  · have hd : decide ((12288 : Int) < (s.size : Int)) = true := decide_eq_true (by omega)
    have HE := Lib.hid (open_bad' (res := RES) (m := 80) (by rw [HNone.out fun A B C sg h => absurd h.1 (by rw [Hlen.out]; omega)]) (by decide) hb0)
    obtain ⟨⟨q0, q1, q2, q3, q4, q5, q6, q7, q8⟩, _⟩ := hl0.nine
    clear hl0 hb0 h12
    go_enter Tryz.func15, Tryz.ntmps15
    go_wp2
    exact bodyPost_ret (v := .tuple #[tokv ByteArray.empty 0 false 0 ByteArray.empty (.slice none 0 0) (.slice none 0 0) ByteArray.empty (.slice none 0 0), .int .i64 80]) (by simp [results, Tryz.results15, go_sem, q0, q1, q2, q3, q4, q5, q6, q7, q8]; rfl) rfl HE.out
  have hd : decide ((12288 : Int) < (s.size : Int)) = false := decide_eq_false (by omega)
  obtain ⟨W0, eW0⟩ : ∃ W0, W0 = w.alloc (.cells tok0.toArray 29) := ⟨_, rfl⟩
  rw [← eW0] at hb0 hl0
  have hPt := refPartsDot_any s W0 (by omega)
  have HT := Lib.hid (fun a b c => @Wq.three_text (numsOf s) a b c)
  obtain ⟨P, eP⟩ : ∃ P, Uq.parts 46 (numsOf s) = P := ⟨_, rfl⟩
  have HP := Lib.hid eP
  simp only [eP] at hPt
  rw [eW0] at hPt
  have HW0 := Lib.hid eW0
  have HB0 := Lib.hid hb0
  have HL0 := Lib.hid hl0
  have HS12 : Hid (s.size ≤ 12288) := by unfold Hid; omega
  clear hb0 hl0 eW0 eP h12
  by_cases h3 : P.length = 3
  rotate_left
  · have hd2 : ((P.length : Int) != 3) = true := by rw [bne_iff_ne]; omega
    have HNo : Hid (∀ A B C sg, ¬ Wq.Three (numsOf s) A B C sg) := fun A B C sg h => by
      obtain ⟨_, a, b, c, hp, _⟩ := h
      rw [HP.out] at hp
      exact h3 (by rw [hp]; rfl)
    clear h3
    go_enter Tryz.func15, Tryz.ntmps15
    go_wp2_with fail
    refine hPt.mono ?_
    rintro e w1 ⟨A, c, rfl, hR, hb1⟩
    rw [← HW0.out] at hb1
    have hbw := below_more HB0.out hb1
    have hl1 := HL0.out.below hb1 HL0.out.lt
    have HE := Lib.hid (open_bad (res := RES) (m := 80) (HNone.out HNo.out) (by decide) hbw)
    obtain ⟨⟨y0, y1, y2, y3, y4, y5, y6, y7, y8⟩, g0, g1, g2, g3, g4, g5, g6, g7, g8⟩ := hl1.nine
    have hE := hl1.put9 (a := .string { data := #[] }) (b := .int .i64 0) (c := .bool false) (d := .int .i64 0) (e := .string { data := #[] }) (f := .slice none 0 0) (x := .slice none 0 0) (y := .string { data := #[] }) (z := .slice none 0 0)
    obtain ⟨⟨q0, q1, q2, q3, q4, q5, q6, q7, q8⟩, _⟩ := hE.nine
    clear hR hb1 hbw hl1 hE hPt
    go_wp2
    exact bodyPost_ret (v := .tuple #[tokv ByteArray.empty 0 false 0 ByteArray.empty (.slice none 0 0) (.slice none 0 0) ByteArray.empty (.slice none 0 0), .int .i64 80]) (by simp [results, Tryz.results15, go_sem, q0, q1, q2, q3, q4, q5, q6, q7, q8]; rfl) rfl HE.out
  obtain ⟨a, b, c, rfl⟩ : ∃ a b c, P = [a, b, c] := by
    match P, h3 with
    | [a, b, c], _ => exact ⟨a, b, c, rfl⟩
  have HPl : Hid (∀ j, j < 3 → ∀ x ∈ [a, b, c].getD j [], x < 256) := fun j hj x hx => by
    refine numsOf_lt s x ((Uq.parts_mem (b := 46) (l := numsOf s) (p := [a, b, c].getD j []) ?_).2 x hx)
    rw [HP.out, List.getD_eq_getElem?_getD, List.getElem?_eq_getElem (by simpa using hj)]
    exact List.getElem_mem _
  have HPs : Hid (∀ j, j < 3 → ([a, b, c].getD j []).length ≤ 12288) := fun j hj => by
    have := (Uq.parts_mem (b := 46) (l := numsOf s) (p := [a, b, c].getD j []) (by
      rw [HP.out, List.getD_eq_getElem?_getD, List.getElem?_eq_getElem (by simpa using hj)]
      exact List.getElem_mem _)).1
    have := HS12.out
    rw [Hlen.out] at *
    omega
  have HTc : Hid (∀ j, j < 3 → (tcells [a, b, c])[j]? = some (.string (strOf ([a, b, c].getD j [])))) := fun j hj => by
    match j, hj with
    | 0, _ => rfl
    | 1, _ => rfl
    | 2, _ => rfl
  have HNo : Hid (∀ j, j < 3 → B64.IsDec ([a, b, c].getD j []) none → ∀ A B C sg, ¬ Wq.Three (numsOf s) A B C sg) := fun j hj hn A B C sg h => by
    obtain ⟨_, a', b', c', hp, h1, h2, h3, _⟩ := h
    rw [HP.out] at hp
    injection hp with e1 e2
    injection e2 with e2 e3
    injection e3 with e3 _
    subst e1 e2 e3
    match j, hj with
    | 0, _ => cases B64.isDec_one h1 hn
    | 1, _ => cases B64.isDec_one h2 hn
    | 2, _ => cases B64.isDec_one h3 hn
  have HYes : Hid (∀ A B C, B64.IsDec a (some A) → B64.IsDec b (some B) → B64.IsDec c (some C) → RES = Wq.openBytes A B C (a ++ 46 :: b)) := fun A B C h1 h2 h3 =>
    HOne.out _ _ _ _ ⟨by rw [Hlen.out]; exact HS12.out, a, b, c, HP.out, h1, h2, h3, rfl⟩
  simp only [List.length_cons, List.length_nil, Nat.zero_add, Nat.reduceAdd] at hPt
  clear h3 HOne
  go_enter Tryz.func15, Tryz.ntmps15
  go_wp2_with fail
  refine hPt.mono ?_
  rintro e w1 ⟨PA, pc, rfl, hR, hb1⟩
  rw [← HW0.out] at hb1
  clear hPt
  obtain ⟨pb, po, rfl, hpb, hcell⟩ := hR (by simp [tcells])
  have HC := Lib.hid hcell
  have HBw1 := Lib.hid (below_more HB0.out hb1)
  have HL1 := Lib.hid (HL0.out.below hb1 HL0.out.lt)
  have HPB := Lib.hid hpb
  clear hR hcell hb1 hpb HL0 HB0 HW0
  go_wp2_with fail
  go_loopw [5, 6, 7] (fun i _ _ wr => ∃ k : Nat, i = .int .i64 k ∧ k ≤ 3 ∧ Hid (∀ j, j < k → ∃ q, B64.IsDec ([a, b, c].getD j []) (some q)) ∧ Below w1.heap.size w1 wr) (fun i _ _ _ => 3 - (intOf i).toNat)
  case atStart => exact ⟨0, rfl, Nat.zero_le _, fun j hj => absurd hj (Nat.not_lt_zero _), Below.refl _ _⟩
  case round =>
    obtain ⟨k, rfl, hk, HR, hb⟩ := hrel
    by_cases hlt : k < 3
    · have ht := (hb.cell (p := ⟨pb, po + k, none⟩) HPB.out).trans (HC.out k _ (HTc.out k hlt))
      have hDec := refDecode_any (strOf ([a, b, c].getD k [])) wr (by rw [strOf_size]; have := HPs.out k hlt; omega)
      rw [numsOf_strOf (HPl.out k hlt)] at hDec
      obtain ⟨p, ep⟩ : ∃ p, [a, b, c].getD k [] = p := ⟨_, rfl⟩
      have Hp := Lib.hid ep
      rw [ep] at ht hDec
      clear ep
      go_wp2_with fail
      refine hDec.mono ?_
      intro e w3 hh
      clear hDec ht
      rcases hh with ⟨q, A, cq, hq, rfl, hA, hb3⟩ | ⟨hq, rfl, hb3⟩
      · have hbb := below_more hb hb3
        rw [← Hp.out] at hq
        have HR4 : Hid (∀ j, j < k + 1 → ∃ q, B64.IsDec ([a, b, c].getD j []) (some q)) := fun j hj => by
          rcases Nat.eq_or_lt_of_le (Nat.le_of_lt_succ hj) with rfl | h
          · exact ⟨q, hq⟩
          · exact HR.out j h
        clear hq hA hb3 hb HR
        go_wp2
        go_roundw
        case rel => exact ⟨k + 1, by go_num, by omega, HR4, hbb⟩
        case measure => simp [intOf]; omega
      · have hbb := below_more hb hb3
        have hbw := below_more HBw1.out hbb
        have hl3 := HL1.out.below hbb HL1.out.lt
        rw [← Hp.out] at hq
        have HE := Lib.hid (open_bad (res := RES) (m := 80) (HNone.out (HNo.out k hlt hq)) (by decide) hbw)
        obtain ⟨⟨y0, y1, y2, y3, y4, y5, y6, y7, y8⟩, g0, g1, g2, g3, g4, g5, g6, g7, g8⟩ := hl3.nine
        have hE := hl3.put9 (a := .string { data := #[] }) (b := .int .i64 0) (c := .bool false) (d := .int .i64 0) (e := .string { data := #[] }) (f := .slice none 0 0) (x := .slice none 0 0) (y := .string { data := #[] }) (z := .slice none 0 0)
        obtain ⟨⟨q0, q1, q2, q3, q4, q5, q6, q7, q8⟩, _⟩ := hE.nine
        clear hq hb3 hb HR hbb hbw hl3 hE
        go_wp2
        exact bodyPost_ret (v := .tuple #[tokv ByteArray.empty 0 false 0 ByteArray.empty (.slice none 0 0) (.slice none 0 0) ByteArray.empty (.slice none 0 0), .int .i64 80]) (by simp [results, Tryz.results15, go_sem, q0, q1, q2, q3, q4, q5, q6, q7, q8]; rfl) rfl HE.out
    · obtain rfl : k = 3 := by omega
      obtain ⟨qa, da⟩ := HR.out 0 (by decide)
      obtain ⟨qb, db⟩ := HR.out 1 (by decide)
      obtain ⟨qc, dc⟩ := HR.out 2 (by decide)
      have da : B64.IsDec a (some qa) := da
      have db : B64.IsDec b (some qb) := db
      have dc : B64.IsDec c (some qc) := dc
      have HO := Lib.hid (HYes.out qa qb qc da db dc)
      have hPa := HPl.out 0 (by decide)
      have hPb := HPl.out 1 (by decide)
      have hPc := HPl.out 2 (by decide)
      simp only [List.getD_cons_zero, List.getD_cons_succ] at hPa hPb hPc
      have hsa := HPs.out 0 (by decide)
      have hsb := HPs.out 1 (by decide)
      have hsc := HPs.out 2 (by decide)
      simp only [List.getD_cons_zero, List.getD_cons_succ] at hsa hsb hsc
      have HP0 : Hid (∀ W, Below w1.heap.size w1 W → W.cell? ⟨pb, po, none⟩ = some (.string (strOf a)) ∧ W.cell? ⟨pb, po + 1, none⟩ = some (.string (strOf b)) ∧ W.cell? ⟨pb, po + 2, none⟩ = some (.string (strOf c))) := fun W hW =>
        ⟨(hW.cell (p := ⟨pb, po, none⟩) HPB.out).trans (HC.out 0 _ rfl), (hW.cell (p := ⟨pb, po + 1, none⟩) HPB.out).trans (HC.out 1 _ rfl), (hW.cell (p := ⟨pb, po + 2, none⟩) HPB.out).trans (HC.out 2 _ rfl)⟩
      have HSA : Hid ((a ++ 46 :: b).length ≤ 12288 ∧ ∀ x ∈ a ++ 46 :: b, x < 256) := by
        obtain ⟨h1, _⟩ := HT.out a b c HP.out
        have hl := Hlen.out
        have hn := numsOf_lt s
        rw [h1] at hl hn
        rw [List.length_append] at hl
        exact ⟨by have := HS12.out; omega, fun x hx => hn x (List.mem_append_left _ hx)⟩
      have hO1 := refObject8_any a qa hPa (by omega) da wr
      have HO2 := Lib.hid (fun W => refObject8_any b qb hPb (by omega) db W)
      have HO3 := Lib.hid (fun W => refDecode_any (strOf c) W (by rw [strOf_size]; omega))
      rw [numsOf_strOf hPc] at HO3
      have HDc := Lib.hid dc
      have HPN : Hid (pb ≠ w.heap.size) := fun h => by
        have e0 := HC.out 0 _ rfl
        have e1 := HC.out 1 _ rfl
        rw [h, HL1.out.cell] at e0 e1
        exact tok0_strings po _ _ e0 e1
      obtain ⟨t0, t1, t2⟩ := HP0.out wr hb
      clear da db dc HYes HR hPa hPb hPc hsa hsb hsc HNo HPl HPs HTc HNone HT HC
      go_wp2_with fail
      refine hO1.mono ?_
      intro e w2 hh
      clear hO1 t0 t1 t2
      obtain ⟨hb2, k1, b1, n1, x1, A1, A2, l1, l2, c1, c2, r1, rfl, hyes1, hno1⟩ := hh
      have hbb2 := below_more hb hb2
      obtain ⟨W2, eW2⟩ : ∃ W2, W2 = w2.alloc (.cells #[.int .i64 k1, .bool b1, .int .i64 n1, .string x1, .slice A1 l1 c1, .slice A2 l2 c2] 26) := ⟨_, rfl⟩
      have hbW2 : Below w2.heap.size w2 W2 := by rw [eW2]; exact (Below.refl _ _).alloc (Nat.le_refl _) _
      have hv2 : Lies W2 w2.heap.size 26 [.int .i64 k1, .bool b1, .int .i64 n1, .string x1, .slice A1 l1 c1, .slice A2 l2 c2] := by rw [eW2]; exact Lies.new_ rfl
      have HBW2 := Lib.hid (below_more hbb2 hbW2)
      have HV2 := Lib.hid hv2
      have HY1 : Hid (r1 = true → ∃ x, Wq.obj qa = some x ∧ IsJ W2 (fun _ => True) (jv k1 b1 n1 x1 (.slice A1 l1 c1) (.slice A2 l2 c2)) x) := fun h => by
        obtain ⟨x, h1, h2⟩ := hyes1 h
        exact ⟨x, h1, (h2.on hbW2).keep (fun b hb' hlt => ⟨trivial, rfl⟩) (Nat.le_refl _)⟩
      have HN1 := Lib.hid hno1
      obtain ⟨t0, t1, t2⟩ := HP0.out W2 HBW2.out
      have hO2 := HO2.out W2
      rw [eW2] at t0 t1 t2 hO2
      have HW2 := Lib.hid eW2
      clear hb hb2 hbb2 hbW2 hv2 hyes1 hno1 eW2 HO2
      go_wp2_with fail
      refine hO2.mono ?_
      intro e w3 hh
      clear hO2 t0 t1 t2
      rw [← HW2.out] at hh
      obtain ⟨hb3, k2, b2, n2, x2, B1, B2, m1, m2, d1, d2, r2, rfl, hyes2, hno2⟩ := hh
      have hbb3 := below_more HBW2.out hb3
      have hv3 := HV2.out.below hb3 HV2.out.lt
      obtain ⟨W3, eW3⟩ : ∃ W3, W3 = w3.alloc (.cells #[.int .i64 k2, .bool b2, .int .i64 n2, .string x2, .slice B1 m1 d1, .slice B2 m2 d2] 26) := ⟨_, rfl⟩
      have hbW3 : Below w3.heap.size w3 W3 := by rw [eW3]; exact (Below.refl _ _).alloc (Nat.le_refl _) _
      have hc3 : Lies W3 w3.heap.size 26 [.int .i64 k2, .bool b2, .int .i64 n2, .string x2, .slice B1 m1 d1, .slice B2 m2 d2] := by rw [eW3]; exact Lies.new_ rfl
      have hbB3 := below_more hbb3 hbW3
      have HBW3 := Lib.hid hbB3
      have HS3 : Hid (w.heap.size < w3.heap.size) := Nat.lt_of_lt_of_le HL1.out.lt hbb3.size
      have HV3 := Lib.hid (hv3.below hbW3 hv3.lt)
      have HC3 := Lib.hid hc3
      have HY2 : Hid (r2 = true → ∃ x, Wq.obj qb = some x ∧ IsJ W3 (w.heap.size + 1 ≤ ·) (jv k2 b2 n2 x2 (.slice B1 m1 d1) (.slice B2 m2 d2)) x) := fun h => by
        obtain ⟨x, h1, h2⟩ := hyes2 h
        have hle : w.heap.size + 1 ≤ W2.heap.size := Nat.le_trans HL1.out.lt HBW2.out.size
        exact ⟨x, h1, (h2.on hbW3).from hle⟩
      have HN2 := Lib.hid hno2
      have HB23 := Lib.hid (below_more hb3 hbW3)
      cases hr : (!r1 || !r2) with
      | true =>
        have hwhy : Wq.openBytes qa qb qc (a ++ 46 :: b) = .error 80 := by
          cases r1 with
          | false => exact Wq.openBytes_no1 (HN1.out rfl)
          | true =>
            cases r2 with
            | false => exact Wq.openBytes_no2 (HN2.out rfl)
            | true => cases hr
        have hbw := below_more HBw1.out hbB3
        have hlE := HL1.out.below hbB3 HL1.out.lt
        have HE := Lib.hid (open_bad (res := RES) (m := 80) (by rw [HO.out]; exact hwhy) (by decide) hbw)
        obtain ⟨⟨y0, y1, y2, y3, y4, y5, y6, y7, y8⟩, g0, g1, g2, g3, g4, g5, g6, g7, g8⟩ := hlE.nine
        have hE := hlE.put9 (a := .string { data := #[] }) (b := .int .i64 0) (c := .bool false) (d := .int .i64 0) (e := .string { data := #[] }) (f := .slice none 0 0) (x := .slice none 0 0) (y := .string { data := #[] }) (z := .slice none 0 0)
        obtain ⟨⟨q0, q1, q2, q3, q4, q5, q6, q7, q8⟩, _⟩ := hE.nine
        rw [eW3] at y0 y1 y2 y3 y4 y5 y6 y7 y8 g0 g1 g2 g3 g4 g5 g6 g7 g8 q0 q1 q2 q3 q4 q5 q6 q7 q8 HE
        clear hwhy hbw hlE hE eW3 hbB3 hc3 hbW3 hbb3 hb3 hv3 hyes2 hno2
        cases r1 with
        | false =>
          go_wp2
          exact bodyPost_ret (v := .tuple #[tokv ByteArray.empty 0 false 0 ByteArray.empty (.slice none 0 0) (.slice none 0 0) ByteArray.empty (.slice none 0 0), .int .i64 80]) (by simp [results, Tryz.results15, go_sem, q0, q1, q2, q3, q4, q5, q6, q7, q8]; rfl) rfl HE.out
        | true =>
          obtain rfl : r2 = false := by cases r2 with | false => rfl | true => cases hr
          go_wp2
          exact bodyPost_ret (v := .tuple #[tokv ByteArray.empty 0 false 0 ByteArray.empty (.slice none 0 0) (.slice none 0 0) ByteArray.empty (.slice none 0 0), .int .i64 80]) (by simp [results, Tryz.results15, go_sem, q0, q1, q2, q3, q4, q5, q6, q7, q8]; rfl) rfl HE.out
      | false =>
        obtain rfl : r1 = true := by cases r1 with | true => rfl | false => cases hr
        obtain rfl : r2 = true := by cases r2 with | true => rfl | false => cases hr
        obtain ⟨hd, ho1, hJ1⟩ := HY1.out rfl
        obtain ⟨cl, ho2, hJ2⟩ := HY2.out rfl
        obtain ⟨A1', c1', A2', c2', eq1⟩ := hJ1.form
        injection eq1 with eq1
        obtain ⟨rfl, rfl, rfl, rfl, ⟨rfl, rfl, rfl⟩, rfl, rfl, rfl⟩ : k1 = hd.kind ∧ b1 = hd.bool ∧ n1 = hd.int ∧ x1 = strOf hd.text ∧ (A1 = A1' ∧ l1 = hd.names.length ∧ c1 = c1') ∧ A2 = A2' ∧ l2 = hd.list.length ∧ c2 = c2' := by simpa using eq1
        obtain ⟨B1', d1', B2', d2', eq2⟩ := hJ2.form
        injection eq2 with eq2
        obtain ⟨rfl, rfl, rfl, rfl, ⟨rfl, rfl, rfl⟩, rfl, rfl, rfl⟩ : k2 = cl.kind ∧ b2 = cl.bool ∧ n2 = cl.int ∧ x2 = strOf cl.text ∧ (B1 = B1' ∧ m1 = cl.names.length ∧ d1 = d1') ∧ B2 = B2' ∧ m2 = cl.list.length ∧ d2 = d2' := by simpa using eq2
        have hG : Jq.Good 16 hd := Jq.parse_good (Wq.obj_some ho1).1
        have HOY := Lib.hid (Wq.openBytes_yes (C := qc) (sg := a ++ 46 :: b) ho1 ho2)
        have HG := Lib.hid (fun t y (h : getP hd t = some y) => Wq.good_get hG h)
        have HJH := Lib.hid (hJ1.on HB23.out)
        have HJ2 := Lib.hid hJ2
        have hGet := refGet_any hd _ Wq.algN (by decide) W3 HJH.out
        have hAl : Hid (Wq.AlgOk hd ↔ ∃ v, getP hd Wq.algN = some v ∧ v = Jq.textJ Wq.hsN) := Iff.rfl
        obtain ⟨RG, eRG⟩ : ∃ RG, getP hd Wq.algN = RG := ⟨_, rfl⟩
        have HRG := Lib.hid eRG
        rw [eRG] at hGet hAl
        obtain ⟨⟨y0, y1, y2, y3, y4, y5⟩, _⟩ := HV3.out.six
        rw [eW3] at y0 y1 y2 y3 y4 y5 hGet
        have HW3 := Lib.hid eW3
        clear hr eq1 eq2 hG ho1 ho2 hJ1 hJ2 eRG eW3 HY1 HY2 HN1 HN2 HB23 hb3 hbb3 hv3 hbW3 hc3 hbB3 hyes2 hno2 HV2
        go_wp2_with fail
        refine hGet.mono ?_
        intro e w4 hh
        clear hGet y0 y1 y2 y3 y4 y5
        rw [← HW3.out] at hh
        obtain ⟨hb4, ak, ab, an, at', D1, D2, s1, s2, h1, h2, ar, rfl, hat, ha3, hau⟩ := get_shows hh fun y hy => HG.out Wq.algN y (by rw [HRG.out]; exact hy)
        have hbb4 := below_more HBW3.out hb4
        obtain ⟨W4, eW4⟩ : ∃ W4, W4 = w4.alloc (.cells #[.int .i64 ak, .bool ab, .int .i64 an, .string (strOf at'), .slice D1 s1 h1, .slice D2 s2 h2] 26) := ⟨_, rfl⟩
        have hbW4 : Below w4.heap.size w4 W4 := by rw [eW4]; exact (Below.refl _ _).alloc (Nat.le_refl _) _
        have ha4 : Lies W4 w4.heap.size 26 [.int .i64 ak, .bool ab, .int .i64 an, .string (strOf at'), .slice D1 s1 h1, .slice D2 s2 h2] := by rw [eW4]; exact Lies.new_ rfl
        have hbB4 := below_more hbb4 hbW4
        have hb34 := below_more hb4 hbW4
        have HV4 := Lib.hid (HV3.out.below hb34 HV3.out.lt)
        have HC4 := Lib.hid (HC3.out.below hb34 HC3.out.lt)
        have HJH4 := Lib.hid (HJH.out.on hb34)
        have HJ4 := Lib.hid (HJ2.out.on hb34)
        obtain ⟨⟨a0, a1, a2, a3, a4, a5⟩, _⟩ := ha4.six
        have hteq : ((strOf at').toList == [72, 83, 50, 53, 54]) = decide (at' = Wq.hsN) := by
          have := list_beq at' Wq.hsN hat (by decide) (decide (at' = Wq.hsN)) (by simp)
          rw [show (strOf Wq.hsN).toList = [72, 83, 50, 53, 54] from by rw [ByteArray.toList_eq]; rfl] at this
          exact this
        by_cases halg : ak = 3 ∧ at' = Wq.hsN
        rotate_left
        · have hno : ¬ Wq.AlgOk hd := fun h => by
            obtain ⟨v, hv1, hv2⟩ := hAl.out.1 h
            obtain ⟨e1, e2⟩ := hau v hv1
            rw [hv2] at e1 e2
            exact halg ⟨e1.symm, e2.symm⟩
          have hbw := below_more HBw1.out hbB4
          have hlE := HL1.out.below hbB4 HL1.out.lt
          have HE := Lib.hid (open_bad (res := RES) (m := 81) (by rw [HO.out, HOY.out]; exact Wq.openHead_alg hno) (by decide) hbw)
          obtain ⟨⟨v0, v1, v2, v3, v4, v5, v6, v7, v8⟩, g0, g1, g2, g3, g4, g5, g6, g7, g8⟩ := hlE.nine
          have hE := hlE.put9 (a := .string { data := #[] }) (b := .int .i64 0) (c := .bool false) (d := .int .i64 0) (e := .string { data := #[] }) (f := .slice none 0 0) (x := .slice none 0 0) (y := .string { data := #[] }) (z := .slice none 0 0)
          obtain ⟨⟨q0, q1, q2, q3, q4, q5, q6, q7, q8⟩, _⟩ := hE.nine
          rw [eW4] at v0 v1 v2 v3 v4 v5 v6 v7 v8 g0 g1 g2 g3 g4 g5 g6 g7 g8 q0 q1 q2 q3 q4 q5 q6 q7 q8 a0 a1 a2 a3 a4 a5 HE
          have hd3 : (ak != 3) = true ∨ ((ak != 3) = false ∧ ((strOf at').toList == [72, 83, 50, 53, 54]) = false) := by
            by_cases h3 : ak = 3
            · refine .inr ⟨by rw [h3]; rfl, ?_⟩
              rw [hteq]
              exact decide_eq_false fun h => halg ⟨h3, h⟩
            · exact .inl (by rw [bne_iff_ne]; exact h3)
          clear hteq halg hno hbw hlE hE eW4 hh hb4 hat ha3 hau hbb4 hbW4 ha4 hbB4 hb34
          rcases hd3 with h3 | ⟨h3, h4⟩
          · go_wp2
            exact bodyPost_ret (v := .tuple #[tokv ByteArray.empty 0 false 0 ByteArray.empty (.slice none 0 0) (.slice none 0 0) ByteArray.empty (.slice none 0 0), .int .i64 81]) (by simp [results, Tryz.results15, go_sem, q0, q1, q2, q3, q4, q5, q6, q7, q8]; rfl) rfl HE.out
          · go_wp2
            exact bodyPost_ret (v := .tuple #[tokv ByteArray.empty 0 false 0 ByteArray.empty (.slice none 0 0) (.slice none 0 0) ByteArray.empty (.slice none 0 0), .int .i64 81]) (by simp [results, Tryz.results15, go_sem, q0, q1, q2, q3, q4, q5, q6, q7, q8]; rfl) rfl HE.out
        have hAlg : Wq.AlgOk hd := hAl.out.2 ⟨_, by rw [ha3 halg.1, halg.2], rfl⟩
        have HAlg := Lib.hid hAlg
        obtain ⟨h3, h4⟩ := halg
        have hd3 : (ak != 3) = false := by rw [h3]; rfl
        have hd4 : ((strOf at').toList == [72, 83, 50, 53, 54]) = true := by rw [hteq]; exact decide_eq_true h4
        have hGet2 := refGet_any hd _ Wq.kidN (by decide) W4 HJH4.out
        have HNo2 := Lib.hid (@Wq.kidOf_none hd)
        have HYes2 : Hid (∀ v, getP hd Wq.kidN = some v → v.kind = 3 ∧ Wq.KidOk v.text ∧ hd.names.length = 2 → Wq.kidOf hd = some v.text) := fun v h => Wq.kidOf_yes h
        have HBad2 : Hid (∀ v, getP hd Wq.kidN = some v → ¬ (v.kind = 3 ∧ Wq.KidOk v.text ∧ hd.names.length = 2) → Wq.kidOf hd = none) := fun v h => Wq.kidOf_no h
        obtain ⟨RK, eRK⟩ : ∃ RK, getP hd Wq.kidN = RK := ⟨_, rfl⟩
        have HRK := Lib.hid eRK
        rw [eRK] at hGet2 HNo2 HYes2 HBad2
        obtain ⟨⟨y0, y1, y2, y3, y4, y5⟩, _⟩ := HV4.out.six
        have HB4 := Lib.hid hbB4
        rw [eW4] at y0 y1 y2 y3 y4 y5 a0 a1 a2 a3 a4 a5 hGet2
        have HW4 := Lib.hid eW4
        clear hAlg h3 h4 hteq hh hb4 hat ha3 hau hbb4 hbW4 ha4 hb34 eRK eW4 hbB4 hAl HRG
        go_wp2_with fail
        refine hGet2.mono ?_
        intro e w5 hh
        clear hGet2 y0 y1 y2 y3 y4 y5 a0 a1 a2 a3 a4 a5
        rw [← HW4.out] at hh
        obtain ⟨hb5, kk, kb, kn, kt, E1, E2, u1, u2, i1, i2, kr, rfl, hkt, hk3, hku⟩ := get_shows hh fun y hy => HG.out Wq.kidN y (by rw [HRK.out]; exact hy)
        have hbb5 := below_more HB4.out hb5
        obtain ⟨W5, eW5⟩ : ∃ W5, W5 = w5.alloc (.cells #[.int .i64 kk, .bool kb, .int .i64 kn, .string (strOf kt), .slice E1 u1 i1, .slice E2 u2 i2] 26) := ⟨_, rfl⟩
        have hbW5 : Below w5.heap.size w5 W5 := by rw [eW5]; exact (Below.refl _ _).alloc (Nat.le_refl _) _
        have hk5 : Lies W5 w5.heap.size 26 [.int .i64 kk, .bool kb, .int .i64 kn, .string (strOf kt), .slice E1 u1 i1, .slice E2 u2 i2] := by rw [eW5]; exact Lies.new_ rfl
        have hbB5 := below_more hbb5 hbW5
        have hb45 := below_more hb5 hbW5
        have hv5 := HV4.out.below hb45 HV4.out.lt
        have HC5 := Lib.hid (HC4.out.below hb45 HC4.out.lt)
        have HJ5 := Lib.hid (HJ4.out.on hb45)
        have HK5 := Lib.hid hk5
        have HB5 := Lib.hid hbB5
        have HS5 : Hid (w.heap.size < w5.heap.size) := Nat.lt_of_lt_of_le HL1.out.lt hbb5.size
        obtain ⟨⟨a0, a1, a2, a3, a4, a5⟩, _⟩ := hk5.six
        obtain ⟨⟨y0, y1, y2, y3, y4, y5⟩, _⟩ := hv5.six
        have hkno : ¬ (kk = 3 ∧ Wq.KidOk kt ∧ hd.names.length = 2) → Wq.kidOf hd = none := fun h => by
          cases hRK : RK with
          | none => exact HNo2.out hRK
          | some v =>
            obtain ⟨e1, e2⟩ := hku v hRK
            exact HBad2.out v hRK (by rw [e1, e2]; exact h)
        have hkyes : kk = 3 ∧ Wq.KidOk kt ∧ hd.names.length = 2 → Wq.kidOf hd = some kt := fun h => HYes2.out (Jq.textJ kt) (hk3 h.1) ⟨rfl, h.2⟩
        have HKno := Lib.hid hkno
        have HKyes := Lib.hid hkyes
        by_cases hk : kk = 3
        rotate_left
        · have hd5 : (kk != 3) = true := by rw [bne_iff_ne]; exact hk
          have hbw := below_more HBw1.out hbB5
          have hlE := HL1.out.below hbB5 HL1.out.lt
          have HE := Lib.hid (open_bad (res := RES) (m := 80) (by rw [HO.out, HOY.out]; exact Wq.openHead_kid HAlg.out (HKno.out fun h => hk h.1)) (by decide) hbw)
          obtain ⟨⟨v0, v1, v2, v3, v4, v5, v6, v7, v8⟩, g0, g1, g2, g3, g4, g5, g6, g7, g8⟩ := hlE.nine
          have hE := hlE.put9 (a := .string { data := #[] }) (b := .int .i64 0) (c := .bool false) (d := .int .i64 0) (e := .string { data := #[] }) (f := .slice none 0 0) (x := .slice none 0 0) (y := .string { data := #[] }) (z := .slice none 0 0)
          obtain ⟨⟨q0, q1, q2, q3, q4, q5, q6, q7, q8⟩, _⟩ := hE.nine
          rw [eW5] at v0 v1 v2 v3 v4 v5 v6 v7 v8 g0 g1 g2 g3 g4 g5 g6 g7 g8 q0 q1 q2 q3 q4 q5 q6 q7 q8 HE a0 a1 a2 a3 a4 a5 y0 y1 y2 y3 y4 y5
          clear hk hkno hkyes hbw hlE hE eW5 hh hb5 hkt hk3 hku hbb5 hbW5 hk5 hbB5 hb45 hv5
          go_wp2
          exact bodyPost_ret (v := .tuple #[tokv ByteArray.empty 0 false 0 ByteArray.empty (.slice none 0 0) (.slice none 0 0) ByteArray.empty (.slice none 0 0), .int .i64 80]) (by simp [results, Tryz.results15, go_sem, q0, q1, q2, q3, q4, q5, q6, q7, q8]; rfl) rfl HE.out
        have hd5 : (kk != 3) = false := by rw [hk]; rfl
        have HK3 := Lib.hid hk
        have hN := named8_any (strOf kt) W5
        rw [numsOf_strOf hkt, eW5] at hN
        have HKt := Lib.hid hkt
        have hvE := eW5
        rw [eW5] at a0 a1 a2 a3 a4 a5 y0 y1 y2 y3 y4 y5
        have HW5 := Lib.hid eW5
        clear hk hkno hkyes eW5 hvE hh hb5 hkt hk3 hku hbb5 hbW5 hk5 hbB5 hb45 hv5
        go_wp2_with fail
        refine hN.mono ?_
        intro e w6 hh
        clear hN
        obtain ⟨hw, ⟨hkid, rfl⟩ | ⟨hkid, rfl⟩⟩ := hh
        rotate_left
        · subst hw
          have hbw := below_more HBw1.out HB5.out
          have hlE := HL1.out.below HB5.out HL1.out.lt
          have HE := Lib.hid (open_bad (res := RES) (m := 80) (by rw [HO.out, HOY.out]; exact Wq.openHead_kid HAlg.out (HKno.out fun h => hkid h.2.1)) (by decide) hbw)
          obtain ⟨⟨v0, v1, v2, v3, v4, v5, v6, v7, v8⟩, g0, g1, g2, g3, g4, g5, g6, g7, g8⟩ := hlE.nine
          have hE := hlE.put9 (a := .string { data := #[] }) (b := .int .i64 0) (c := .bool false) (d := .int .i64 0) (e := .string { data := #[] }) (f := .slice none 0 0) (x := .slice none 0 0) (y := .string { data := #[] }) (z := .slice none 0 0)
          obtain ⟨⟨q0, q1, q2, q3, q4, q5, q6, q7, q8⟩, _⟩ := hE.nine
          rw [HW5.out] at v0 v1 v2 v3 v4 v5 v6 v7 v8 g0 g1 g2 g3 g4 g5 g6 g7 g8 q0 q1 q2 q3 q4 q5 q6 q7 q8 HE
          clear hkid hbw hlE hE
          go_wp2
          exact bodyPost_ret (v := .tuple #[tokv ByteArray.empty 0 false 0 ByteArray.empty (.slice none 0 0) (.slice none 0 0) ByteArray.empty (.slice none 0 0), .int .i64 80]) (by simp [results, Tryz.results15, go_sem, q0, q1, q2, q3, q4, q5, q6, q7, q8]; rfl) rfl HE.out
        subst hw
        by_cases hn2 : hd.names.length = 2
        rotate_left
        · have hd6 : ((hd.names.length : Int) != 2) = true := by rw [bne_iff_ne]; omega
          have hbw := below_more HBw1.out HB5.out
          have hlE := HL1.out.below HB5.out HL1.out.lt
          have HE := Lib.hid (open_bad (res := RES) (m := 80) (by rw [HO.out, HOY.out]; exact Wq.openHead_kid HAlg.out (HKno.out fun h => hn2 h.2.2)) (by decide) hbw)
          obtain ⟨⟨v0, v1, v2, v3, v4, v5, v6, v7, v8⟩, g0, g1, g2, g3, g4, g5, g6, g7, g8⟩ := hlE.nine
          have hE := hlE.put9 (a := .string { data := #[] }) (b := .int .i64 0) (c := .bool false) (d := .int .i64 0) (e := .string { data := #[] }) (f := .slice none 0 0) (x := .slice none 0 0) (y := .string { data := #[] }) (z := .slice none 0 0)
          obtain ⟨⟨q0, q1, q2, q3, q4, q5, q6, q7, q8⟩, _⟩ := hE.nine
          rw [HW5.out] at v0 v1 v2 v3 v4 v5 v6 v7 v8 g0 g1 g2 g3 g4 g5 g6 g7 g8 q0 q1 q2 q3 q4 q5 q6 q7 q8 HE
          clear hkid hn2 hbw hlE hE
          go_wp2
          exact bodyPost_ret (v := .tuple #[tokv ByteArray.empty 0 false 0 ByteArray.empty (.slice none 0 0) (.slice none 0 0) ByteArray.empty (.slice none 0 0), .int .i64 80]) (by simp [results, Tryz.results15, go_sem, q0, q1, q2, q3, q4, q5, q6, q7, q8]; rfl) rfl HE.out
        have hd6 : ((hd.names.length : Int) != 2) = false := by rw [hn2]; rfl
        have HKid := Lib.hid (HKyes.out ⟨HK3.out, hkid, hn2⟩)
        clear hkid hn2
        obtain ⟨t0, t1, t2⟩ := HP0.out W5 HB5.out
        have hO3 := HO3.out W5
        rw [HW5.out] at t0 t1 t2 hO3
        go_wp2_with fail
        refine hO3.mono ?_
        intro e w7 hh
        clear hO3 t0 t1 t2 a0 a1 a2 a3 a4 a5 y0 y1 y2 y3 y4 y5
        rw [← HW5.out] at hh
        obtain ⟨M1, mc, rfl, hM, hb7⟩ : ∃ A c, e = .returned (.tuple #[.slice A qc.length c, .bool true]) ∧ ArgIs w7 A c qc ∧ Below W5.heap.size W5 w7 := by
          rcases hh with ⟨q', A, c', h1, h2, h3, h4⟩ | ⟨h1, _⟩
          · obtain rfl : q' = qc := Option.some.inj (B64.isDec_one h1 HDc.out)
            exact ⟨A, c', h2, h3, h4⟩
          · cases B64.isDec_one h1 HDc.out
        clear hh
        have hb7b := below_more HB5.out hb7
        by_cases hC : qc.length = 32
        rotate_left
        · have hd7 : ((qc.length : Int) != 32) = true := by rw [bne_iff_ne]; omega
          have hbw := below_more HBw1.out hb7b
          have hlE := HL1.out.below hb7b HL1.out.lt
          have HE := Lib.hid (open_bad (res := RES) (m := 82) (by rw [HO.out, HOY.out]; exact Wq.openHead_mac HAlg.out HKid.out hC) (by decide) hbw)
          obtain ⟨⟨v0, v1, v2, v3, v4, v5, v6, v7, v8⟩, g0, g1, g2, g3, g4, g5, g6, g7, g8⟩ := hlE.nine
          have hE := hlE.put9 (a := .string { data := #[] }) (b := .int .i64 0) (c := .bool false) (d := .int .i64 0) (e := .string { data := #[] }) (f := .slice none 0 0) (x := .slice none 0 0) (y := .string { data := #[] }) (z := .slice none 0 0)
          obtain ⟨⟨q0, q1, q2, q3, q4, q5, q6, q7, q8⟩, _⟩ := hE.nine
          clear hC hbw hlE hE hM hb7 hb7b
          go_wp2
          exact bodyPost_ret (v := .tuple #[tokv ByteArray.empty 0 false 0 ByteArray.empty (.slice none 0 0) (.slice none 0 0) ByteArray.empty (.slice none 0 0), .int .i64 82]) (by simp [results, Tryz.results15, go_sem, q0, q1, q2, q3, q4, q5, q6, q7, q8]; rfl) rfl HE.out
        have hd7 : ((qc.length : Int) != 32) = false := by rw [hC]; rfl
        have hl7 := HL1.out.below hb7b HL1.out.lt
        have hRk : RES = .ok ⟨kt, cl, a ++ 46 :: b, qc⟩ := by rw [HO.out, HOY.out]; exact Wq.openHead_yes HAlg.out HKid.out hC
        have hE := hl7.put9 (a := .string (strOf kt)) (b := .int .i64 cl.kind) (c := .bool cl.bool) (d := .int .i64 cl.int) (e := .string (strOf cl.text)) (f := .slice B1 cl.names.length d1) (x := .slice B2 cl.list.length d2) (y := .string (strOf (a ++ 46 :: b))) (z := .slice M1 qc.length mc)
        obtain ⟨⟨q0, q1, q2, q3, q4, q5, q6, q7, q8⟩, _⟩ := hE.nine
        obtain ⟨⟨v0, v1, v2, v3, v4, v5, v6, v7, v8⟩, g0, g1, g2, g3, g4, g5, g6, g7, g8⟩ := hl7.nine
        obtain ⟨⟨c0, c1', c2', c3, c4, c5⟩, _⟩ := (HC5.out.below hb7 HC5.out.lt).six
        have k3 := (HK5.out.below hb7 HK5.out.lt).cell 3
        simp only [List.getElem?_cons_zero, List.getElem?_cons_succ] at k3
        obtain ⟨t0, t1, _⟩ := HP0.out w7 hb7b
        have hsA := strOf_size a
        have hsB := strOf_size b
        have hab := HSA.out.1
        rw [List.length_append, List.length_cons] at hab
        have hDot := strOf_dot a b
        obtain ⟨X, eX⟩ : ∃ X, strOf a = X := ⟨_, rfl⟩
        obtain ⟨Y, eY⟩ : ∃ Y, strOf b = Y := ⟨_, rfl⟩
        rw [eX] at hsA hDot t0
        rw [eY] at hsB hDot t1
        have HE := Lib.hid (open_good' hRk (below_more HBw1.out hb7b) hl7 (HJ5.out.on hb7) hM HKt.out ⟨HSA.out.2, HSA.out.1⟩ hDot)
        rw [← hDot] at q0 q1 q2 q3 q4 q5 q6 q7 q8
        have hz1 : ¬ 9223372036854775807 < X.size + 1 := by omega
        have hz2 : ¬ 9223372036854775807 < X.size + 1 + Y.size := by omega
        have hz3 : X.size ≤ 12288 := by omega
        have hz4 : Y.size ≤ 12288 := by omega
        have hn3 : w3.heap.size ≠ w.heap.size := by have := HS3.out; omega
        have hn5 : w5.heap.size ≠ w.heap.size := by have := HS5.out; omega
        have HN9 : Hid ((fun W => W.cell? ⟨w5.heap.size, 3, none⟩ = some (.string (strOf kt)) ∧ W.cell? ⟨pb, po, none⟩ = some (.string X) ∧ W.cell? ⟨pb, po + 1, none⟩ = some (.string Y) ∧
            W.cell? ⟨w3.heap.size, 0, none⟩ = some (.int .i64 cl.kind) ∧ W.cell? ⟨w3.heap.size, 1, none⟩ = some (.bool cl.bool) ∧ W.cell? ⟨w3.heap.size, 2, none⟩ = some (.int .i64 cl.int) ∧ W.cell? ⟨w3.heap.size, 3, none⟩ = some (.string (strOf cl.text)) ∧ W.cell? ⟨w3.heap.size, 4, none⟩ = some (.slice B1 cl.names.length d1) ∧ W.cell? ⟨w3.heap.size, 5, none⟩ = some (.slice B2 cl.list.length d2)) (put9 w7 w.heap.size (.string (strOf kt)) (.int .i64 cl.kind) (.bool cl.bool) (.int .i64 cl.int) (.string (strOf cl.text)) (.slice B1 cl.names.length d1) (.slice B2 cl.list.length d2) (.string (X ++ { data := #[46] } ++ Y)) (.slice M1 qc.length mc)).drew) := ⟨cell_drew9 (put9_cell hn5 k3), cell_drew9 (put9_cell HPN.out t0), cell_drew9 (put9_cell HPN.out t1), cell_drew9 (put9_cell hn3 c0), cell_drew9 (put9_cell hn3 c1'), cell_drew9 (put9_cell hn3 c2'), cell_drew9 (put9_cell hn3 c3), cell_drew9 (put9_cell hn3 c4), cell_drew9 (put9_cell hn3 c5)⟩
        clear hRk hl7 hE hM hC hb7 hb7b hsA hsB hab hDot eX eY hn3 hn5
        go_upto_region 25 with (fail)
        refine wp_region_held_drew (S := (fun W => W.cell? ⟨w5.heap.size, 3, none⟩ = some (.string (strOf kt)) ∧ W.cell? ⟨pb, po, none⟩ = some (.string X) ∧ W.cell? ⟨pb, po + 1, none⟩ = some (.string Y) ∧ W.cell? ⟨w3.heap.size, 0, none⟩ = some (.int .i64 cl.kind) ∧ W.cell? ⟨w3.heap.size, 1, none⟩ = some (.bool cl.bool) ∧ W.cell? ⟨w3.heap.size, 2, none⟩ = some (.int .i64 cl.int) ∧ W.cell? ⟨w3.heap.size, 3, none⟩ = some (.string (strOf cl.text)) ∧ W.cell? ⟨w3.heap.size, 4, none⟩ = some (.slice B1 cl.names.length d1) ∧ W.cell? ⟨w3.heap.size, 5, none⟩ = some (.slice B2 cl.list.length d2))) (by kernel_rfl) ⟨cell_drew9 k3, cell_drew9 t0, cell_drew9 t1, cell_drew9 c0, cell_drew9 c1', cell_drew9 c2', cell_drew9 c3, cell_drew9 c4, cell_drew9 c5⟩ (fun hHeld => ?_)
        refine wpAnyH_take (i := 0) (v := ?_) (by simp only [List.getElem?_toArray, List.getElem?_cons_zero]; rfl) (by kernel_rfl) (by kernel_rfl) (by kernel_rfl) (by intro _ _ _ h; exact h) (Or.inl ⟨by rfl, ?_⟩) hHeld ?_
        rotate_left
        · (intro w hSw; (try dsimp only at hSw); go_split_ands; go_simp; try (with_reducible rfl))
        try simp only [Act.put, List.setIfInBounds_toArray, List.set_cons_zero, List.set_cons_succ]
        refine wpAnyH_take (i := 1) (v := ?_) (by simp only [List.getElem?_toArray, List.getElem?_cons_zero, List.getElem?_cons_succ]; rfl) (by kernel_rfl) (by kernel_rfl) (by kernel_rfl) (by intro _ _ _ h; exact h) (Or.inl ⟨by rfl, ?_⟩) hHeld ?_
        rotate_left
        · (intro w hSw; (try dsimp only at hSw); go_split_ands; go_simp; try (with_reducible rfl))
        try simp only [Act.put, List.setIfInBounds_toArray, List.set_cons_zero, List.set_cons_succ]
        refine wpAnyH_take (i := 2) (v := ?_) (by simp only [List.getElem?_toArray, List.getElem?_cons_zero, List.getElem?_cons_succ]; rfl) (by kernel_rfl) (by kernel_rfl) (by kernel_rfl) (by intro _ _ _ h; exact h) (Or.inl ⟨by rfl, ?_⟩) hHeld ?_
        rotate_left
        · (intro w hSw; (try dsimp only at hSw); go_split_ands; go_simp; try (with_reducible rfl))
        try simp only [Act.put, List.setIfInBounds_toArray, List.set_cons_zero, List.set_cons_succ]
        refine wpAnyH_take (i := 3) (v := ?_) (by simp only [List.getElem?_toArray, List.getElem?_cons_zero, List.getElem?_cons_succ]; rfl) (by kernel_rfl) (by kernel_rfl) (by kernel_rfl) (by intro _ _ _ h; exact h) (Or.inl ⟨by rfl, ?_⟩) hHeld ?_
        rotate_left
        · (intro w hSw; (try dsimp only at hSw); go_split_ands; go_simp; try (with_reducible rfl))
        try simp only [Act.put, List.setIfInBounds_toArray, List.set_cons_zero, List.set_cons_succ]
        refine wpAnyH_take (i := 4) (v := ?_) (by simp only [List.getElem?_toArray, List.getElem?_cons_zero, List.getElem?_cons_succ]; rfl) (by kernel_rfl) (by kernel_rfl) (by kernel_rfl) (by intro _ _ _ h; exact h) (Or.inl ⟨by rfl, ?_⟩) hHeld ?_
        rotate_left
        · (intro w hSw; (try dsimp only at hSw); go_split_ands; go_simp; try (with_reducible rfl))
        try simp only [Act.put, List.setIfInBounds_toArray, List.set_cons_zero, List.set_cons_succ]
        refine wpAnyH_take (i := 5) (v := ?_) (by simp only [List.getElem?_toArray, List.getElem?_cons_zero, List.getElem?_cons_succ]; rfl) (by kernel_rfl) (by kernel_rfl) (by kernel_rfl) (by intro _ _ _ h; exact h) (Or.inl ⟨by rfl, ?_⟩) hHeld ?_
        rotate_left
        · (intro w hSw; (try dsimp only at hSw); go_split_ands; go_simp; try (with_reducible rfl))
        try simp only [Act.put, List.setIfInBounds_toArray, List.set_cons_zero, List.set_cons_succ]
        refine wpAnyH_take (i := 6) (v := ?_) (by simp only [List.getElem?_toArray, List.getElem?_cons_zero, List.getElem?_cons_succ]; rfl) (by kernel_rfl) (by kernel_rfl) (by kernel_rfl) (by intro _ _ _ h; exact h) (Or.inl ⟨by rfl, ?_⟩) hHeld ?_
        rotate_left
        · (intro w hSw; (try dsimp only at hSw); go_split_ands; go_simp; try (with_reducible rfl))
        try simp only [Act.put, List.setIfInBounds_toArray, List.set_cons_zero, List.set_cons_succ]
        refine wpAnyH_take (i := 7) (v := ?_) (by simp only [List.getElem?_toArray, List.getElem?_cons_zero, List.getElem?_cons_succ]; rfl) (by kernel_rfl) (by kernel_rfl) (by kernel_rfl) (by intro _ _ _ h; exact h) (Or.inl ⟨by rfl, ?_⟩) hHeld ?_
        rotate_left
        · (intro w hSw; (try dsimp only at hSw); go_split_ands; go_simp; try (with_reducible rfl))
        try simp only [Act.put, List.setIfInBounds_toArray, List.set_cons_zero, List.set_cons_succ]
        refine wpAnyH_take (i := 8) (v := ?_) (by simp only [List.getElem?_toArray, List.getElem?_cons_zero, List.getElem?_cons_succ]; rfl) (by kernel_rfl) (by kernel_rfl) (by kernel_rfl) (by intro _ _ _ h; exact h) (Or.inl ⟨by rfl, ?_⟩) hHeld ?_
        rotate_left
        · (intro w hSw; (try dsimp only at hSw); go_split_ands; go_simp; try (with_reducible rfl))
        try simp only [Act.put, List.setIfInBounds_toArray, List.set_cons_zero, List.set_cons_succ]
        refine wpAnyH_take (i := 9) (v := ?_) (by simp only [List.getElem?_toArray, List.getElem?_cons_zero, List.getElem?_cons_succ]; rfl) (by kernel_rfl) (by kernel_rfl) (by kernel_rfl) (by intro _ _ _ h; exact h) (Or.inl ⟨by rfl, ?_⟩) hHeld ?_
        rotate_left
        · (intro w hSw; (try dsimp only at hSw); go_split_ands; go_simp; try (with_reducible rfl))
        try simp only [Act.put, List.setIfInBounds_toArray, List.set_cons_zero, List.set_cons_succ]
        refine wpAnyH_take (i := 10) (v := ?_) (by simp only [List.getElem?_toArray, List.getElem?_cons_zero, List.getElem?_cons_succ]; rfl) (by kernel_rfl) (by kernel_rfl) (by kernel_rfl) (by intro _ _ _ h; exact h) (Or.inl ⟨by rfl, ?_⟩) hHeld ?_
        rotate_left
        · (intro w hSw; (try dsimp only at hSw); go_split_ands; go_simp; try (with_reducible rfl))
        try simp only [Act.put, List.setIfInBounds_toArray, List.set_cons_zero, List.set_cons_succ]
        refine wpAnyH_take (i := 11) (v := ?_) (by simp only [List.getElem?_toArray, List.getElem?_cons_zero, List.getElem?_cons_succ]; rfl) (by kernel_rfl) (by kernel_rfl) (by kernel_rfl) (by intro _ _ _ h; exact h) (Or.inl ⟨by rfl, ?_⟩) hHeld ?_
        rotate_left
        · (intro w hSw; (try dsimp only at hSw); go_split_ands; go_simp; try (with_reducible rfl))
        try simp only [Act.put, List.setIfInBounds_toArray, List.set_cons_zero, List.set_cons_succ]
        refine wpAnyH_take (i := 12) (v := ?_) (by simp only [List.getElem?_toArray, List.getElem?_cons_zero, List.getElem?_cons_succ]; rfl) (by kernel_rfl) (by kernel_rfl) (by kernel_rfl) (by intro _ _ _ h; exact h) (Or.inl ⟨by rfl, ?_⟩) hHeld ?_
        rotate_left
        · (intro w hSw; (try dsimp only at hSw); go_split_ands; go_simp; try (with_reducible rfl))
        try simp only [Act.put, List.setIfInBounds_toArray, List.set_cons_zero, List.set_cons_succ]
        refine wpAnyH_ready (rs := [13]) (by kernel_rfl) (by simp) ?_
        refine AllReadyH.cons (by simp only [List.getElem?_toArray, List.getElem?_cons_zero, List.getElem?_cons_succ]; rfl) (fun K hK => ?_) AllReadyH.nil
        go_simp
        refine hK.out _ _ HN9.out (fun hHeld => ?_)
        clear hK K
        try simp only [Act.put, List.setIfInBounds_toArray, List.set_cons_zero, List.set_cons_succ]
        refine wpAnyH_take (i := 14) (v := ?_) (by simp only [List.getElem?_toArray, List.getElem?_cons_zero, List.getElem?_cons_succ]; rfl) (by kernel_rfl) (by kernel_rfl) (by kernel_rfl) (by intro _ _ _ h; exact h) (Or.inl ⟨by rfl, ?_⟩) hHeld ?_
        rotate_left
        · (intro w hSw; (try dsimp only at hSw); go_split_ands; go_simp; try (with_reducible rfl))
        try simp only [Act.put, List.setIfInBounds_toArray, List.set_cons_zero, List.set_cons_succ]
        refine wpAnyH_done (by kernel_rfl) ?_ _
        clear hHeld HN9
        go_wp2
        exact bodyPost_ret (v := .tuple #[tokv (strOf kt) cl.kind cl.bool cl.int (strOf cl.text) (.slice B1 cl.names.length d1) (.slice B2 cl.list.length d2) (X ++ { data := #[46] } ++ Y) (.slice M1 qc.length mc), .int .i64 0]) (by simp [results, Tryz.results15, go_sem, q0, q1, q2, q3, q4, q5, q6, q7, q8]) rfl HE.out
end Go.Proofs.YthklgpflaghojaaGreatDoor
