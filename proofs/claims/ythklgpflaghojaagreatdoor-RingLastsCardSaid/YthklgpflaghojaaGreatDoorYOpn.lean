/-
  The contracts of ring.Open and of the document's Open.
-/
import Derived.Test.YthklgpflaghojaaGreatDoorYC
import Derived.Test.YthklgpflaghojaaGreatDoorWRSame
import Derived.Test.YthklgpflaghojaaGreatDoorWROpen
import Derived.Test.YthklgpflaghojaaGreatDoorWRSmall
namespace Go.Proofs.YthklgpflaghojaaGreatDoor
open Go.RowKit

/-- What Open answers, plain. -/
noncomputable def openR (l : List Kq.K) (s : List Nat) (now : Int) : Except Nat Wq.Tok := match Wq.openP s with
  | .error m => .error m
  | .ok t => match Kq.find l (strOf t.kid) now with
    | none => .error 90
    | some k => if t.mac = Sha.mac k.secret t.signed then .ok t else .error 82
theorem openR_error {l : List Kq.K} {s : List Nat} {now : Int} {m : Nat} (h : Wq.openP s = .error m) : openR l s now = .error m := by unfold openR; rw [h]
theorem openR_none {l : List Kq.K} {s : List Nat} {now : Int} {t : Wq.Tok} (h : Wq.openP s = .ok t) (hf : Kq.find l (strOf t.kid) now = none) : openR l s now = .error 90 := by unfold openR; rw [h]; simp only; rw [hf]
theorem openR_bad {l : List Kq.K} {s : List Nat} {now : Int} {t : Wq.Tok} {k : Kq.K} (h : Wq.openP s = .ok t) (hf : Kq.find l (strOf t.kid) now = some k) (hm : ¬ t.mac = Sha.mac k.secret t.signed) : openR l s now = .error 82 := by unfold openR; rw [h]; simp only; rw [hf]; simp only; rw [if_neg hm]
theorem openR_ok {l : List Kq.K} {s : List Nat} {now : Int} {t : Wq.Tok} {k : Kq.K} (h : Wq.openP s = .ok t) (hf : Kq.find l (strOf t.kid) now = some k) (hm : t.mac = Sha.mac k.secret t.signed) : openR l s now = .ok t := by unfold openR; rw [h]; simp only; rw [hf]; simp only; rw [if_pos hm]
theorem find_mem {l : List Kq.K} {id : ByteArray} {now : Int} {k : Kq.K} (h : Kq.find l id now = some k) : k ∈ l := by
  unfold Kq.find at h
  exact List.mem_of_find?_eq_some h
theorem open9_good {res : Except Nat Wq.Tok} {w W : World} {kid sg C : List Nat} {cl : Jq.J} {B1 B2 PC : Option Addr} {d1 d2 cc : Nat} (h : res = .ok ⟨kid, cl, sg, C⟩) (hb : Below w.heap.size w W)
    (hT : Lies W w.heap.size 29 tok0) (hJ : IsJ W (w.heap.size + 1 ≤ ·) (jv cl.kind cl.bool cl.int (strOf cl.text) (.slice B1 cl.names.length d1) (.slice B2 cl.list.length d2)) cl) (hA : ArgIs W PC cc C)
    (hk : ∀ x ∈ kid, x < 256) (hs : (∀ x ∈ sg, x < 256) ∧ sg.length ≤ 12288) :
    OpenEnd res w (.returned (.tuple #[tokv (strOf kid) cl.kind cl.bool cl.int (strOf cl.text) (.slice B1 cl.names.length d1) (.slice B2 cl.list.length d2) (strOf sg) (.slice PC C.length cc), .int .i64 0])) (outGood w W kid cl B1 B2 d1 d2 sg (.slice PC C.length cc)) := by
  have h1 : Below w.heap.size w (outGood w W kid cl B1 B2 d1 d2 sg (.slice PC C.length cc)) := below_put9 hb (Nat.le_refl _)
  have h2 : IsJ (outGood w W kid cl B1 B2 d1 d2 sg (.slice PC C.length cc)) (w.heap.size + 1 ≤ ·) (jv cl.kind cl.bool cl.int (strOf cl.text) (.slice B1 cl.names.length d1) (.slice B2 cl.list.length d2)) cl := hJ.put9 (by omega)
  have h3 : ArgIs (outGood w W kid cl B1 B2 d1 d2 sg (.slice PC C.length cc)) PC cc C := arg_off hA hT no_tok0 put9_size fun k hk => put9_far hk
  subst h
  exact ⟨h1, B1, B2, PC, d1, d2, cc, rfl, h2.from (by omega), h3, hk, hs.1, hs.2⟩

set_option maxHeartbeats 1000000 in
set_option maxRecDepth 100000 in
theorem open9_any {ok : Nat → Prop} (l : List Kq.K) (A : Option Addr) (c n : Nat) (s : ByteArray) (now : Int) (w : World) (hH : Held w) (hT : Tab w) (hs : s.size ≤ 140737488355328) (hL : KsIs w ok (.slice A n c) l) (hn : l.length = n) :
    Calls Tryz.prog 5 #[.slice A n c, .string s, .int .i64 now] w (OpenEnd (openR l (numsOf s) now) w) := by
  obtain ⟨W1, eW1⟩ : ∃ W1, W1 = w.alloc (.cells #[.string { data := #[] }, .int .i64 0, .bool false, .int .i64 0, .string { data := #[] }, .slice none 0 0, .slice none 0 0, .string { data := #[] }, .slice none 0 0] 29) := ⟨_, rfl⟩
  have hb1 : Below w.heap.size w W1 := by rw [eW1]; exact below_new _ _
  have hl1 : Lies W1 w.heap.size 29 tok0 := by rw [eW1]; exact Lies.new_ rfl
  have hsz : W1.heap.size = w.heap.size + 1 := by rw [eW1]; simp
  have hO := open_any s W1 (hH.below hb1) hs
  have HKS := Lib.hid (hL.on hb1)
  have HN := Lib.hid hn
  have HB1 := Lib.hid hb1
  have HL1 := Lib.hid hl1
  have HSZ := Lib.hid hsz
  have HTT := Lib.hid (hT.below hb1 hT.lt)
  have HER := Lib.hid (fun m => @openR_error l (numsOf s) now m)
  have HNO := Lib.hid (fun t => @openR_none l (numsOf s) now t)
  have HBD := Lib.hid (fun t k => @openR_bad l (numsOf s) now t k)
  have HGD := Lib.hid (fun t k => @openR_ok l (numsOf s) now t k)
  obtain ⟨P, eP⟩ : ∃ P, Wq.openP (numsOf s) = P := ⟨_, rfl⟩
  obtain ⟨RES, eR⟩ : ∃ RES, openR l (numsOf s) now = RES := ⟨_, rfl⟩
  rw [eP] at hO HER HNO HBD HGD
  rw [eR] at HER HNO HBD HGD ⊢
  rw [eW1] at hO
  have HW1 := Lib.hid eW1
  clear hb1 hl1 hsz hL hn eP eR eW1
  go_enter Tryz.func5, Tryz.ntmps5
  go_wp2_with fail
  refine hO.mono ?_
  intro e w2 hh
  rw [← HW1.out] at hh
  clear hO
  cases P with
  | error m =>
    obtain ⟨hb2, rfl, hm0⟩ := hh
    have hne : ((m : Int) != 0) = true := by rw [bne_iff_ne]; omega
    have hm1 : (m == 0) = false := by rw [beq_eq_false_iff_ne]; omega
    obtain ⟨W3, eW3⟩ : ∃ W3, W3 = w2.alloc (.cells #[.string ByteArray.empty, .int .i64 0, .bool false, .int .i64 0, .string ByteArray.empty, .slice none 0 0, .slice none 0 0, .string ByteArray.empty, .slice none 0 0] 29) := ⟨_, rfl⟩
    have hb3 : Below w2.heap.size w2 W3 := by rw [eW3]; exact below_new _ _
    have hl3 := (HL1.out.below hb2 HL1.out.lt).below hb3 (HL1.out.below hb2 HL1.out.lt).lt
    have HB3 := Lib.hid (below_more (below_more HB1.out hb2) hb3)
    have HL3 := Lib.hid hl3
    have HM0 := Lib.hid hm0
    have HEQ := Lib.hid (HER.out m rfl)
    have hrw := Lib.hid eW3
    clear hb2 hb3 hl3
    go_upto_region 3 with (fail)
    rw [← hrw.out]
    clear eW3
    have hq0 := HL3.out.nine
    obtain ⟨_, f0, f1, f2, f3, f4, f5, f6, f7, f8⟩ := hq0
    obtain ⟨⟨q0, q1, q2, q3, q4, q5, q6, q7, q8⟩, _⟩ := (HL3.out.put9 (a := .string { data := #[] }) (b := .int .i64 0) (c := .bool false) (d := .int .i64 0) (e := .string { data := #[] }) (f := .slice none 0 0) (x := .slice none 0 0) (y := .string { data := #[] }) (z := .slice none 0 0)).nine
    have HE := Lib.hid (open_bad (HEQ.out) (HM0.out) (HB3.out))
    clear hm0
    go_wp2
    exact bodyPost_ret (v := .tuple #[tokv ByteArray.empty 0 false 0 ByteArray.empty (.slice none 0 0) (.slice none 0 0) ByteArray.empty (.slice none 0 0), .int .i64 (m : Int)]) (by simp [results, Tryz.results5, go_sem, q0, q1, q2, q3, q4, q5, q6, q7, q8]; rfl) rfl HE.out
  | ok t =>
    obtain ⟨kid, cl, sg, C⟩ := t
    obtain ⟨hb2, A1, A2, A3, c1, c2, c3, rfl, hJ2, hA2, hk256, hs256, hs12⟩ := hh
    simp only at hJ2 hA2 hk256 hs256 hs12 ⊢
    obtain ⟨W3, eW3⟩ : ∃ W3, W3 = w2.alloc (.cells #[.string (strOf kid), .int .i64 cl.kind, .bool cl.bool, .int .i64 cl.int, .string (strOf cl.text), .slice A1 cl.names.length c1, .slice A2 cl.list.length c2, .string (strOf sg), .slice A3 C.length c3] 29) := ⟨_, rfl⟩
    have hb3 : Below w2.heap.size w2 W3 := by rw [eW3]; exact below_new _ _
    have hl3 := (HL1.out.below hb2 HL1.out.lt).below hb3 (HL1.out.below hb2 HL1.out.lt).lt
    have hlt3 : Lies W3 w2.heap.size 29 [.string (strOf kid), .int .i64 cl.kind, .bool cl.bool, .int .i64 cl.int, .string (strOf cl.text), .slice A1 cl.names.length c1, .slice A2 cl.list.length c2, .string (strOf sg), .slice A3 C.length c3] := by rw [eW3]; exact Lies.new_ rfl
    have HB3 := Lib.hid (below_more (below_more HB1.out hb2) hb3)
    have HB13 := Lib.hid (below_more hb2 hb3)
    have HL3 := Lib.hid hl3
    have HLT3 := Lib.hid hlt3
    have HJ3 := Lib.hid (hJ2.on hb3)
    have HA3 := Lib.hid (hA2.below hb3 (Nat.le_refl _))
    have HK := Lib.hid (And.intro hk256 (And.intro hs256 hs12))
    have hks3 := (HKS.out.on hb2).on hb3
    have hF := find_any l A c n (strOf kid) now W3 hks3 HN.out
    have HNO' : Hid (Kq.find l (strOf kid) now = none → RES = .error 90) := fun h => HNO.out ⟨kid, cl, sg, C⟩ rfl h
    have HBD' : Hid (∀ k, Kq.find l (strOf kid) now = some k → ¬ C = Sha.mac k.secret sg → RES = .error 82) := fun k h1 h2 => HBD.out ⟨kid, cl, sg, C⟩ k rfl h1 h2
    have HGD' : Hid (∀ k, Kq.find l (strOf kid) now = some k → C = Sha.mac k.secret sg → RES = .ok ⟨kid, cl, sg, C⟩) := fun k h1 h2 => HGD.out ⟨kid, cl, sg, C⟩ k rfl h1 h2
    have HMEM : Hid (∀ k, Kq.find l (strOf kid) now = some k → k ∈ l) := fun k h => find_mem h
    obtain ⟨FO, eFO⟩ : ∃ FO, Kq.find l (strOf kid) now = FO := ⟨_, rfl⟩
    rw [eFO] at hF HNO' HBD' HGD' HMEM
    rw [eW3] at hF
    have HW3 := Lib.hid eW3
    clear hb2 hb3 hl3 hlt3 hJ2 hA2 hk256 hs256 hs12 hks3 eFO eW3
    go_wp2_with fail
    refine hF.mono ?_
    intro e w4 hh
    rw [← HW3.out] at hh
    clear hF
    cases FO with
    | none =>
      obtain ⟨hb4, rfl⟩ := hh
      obtain ⟨W5, eW5⟩ : ∃ W5, W5 = w4.alloc (.cells #[.string ByteArray.empty, nilS, .int .i64 0, .int .i64 0] 37) := ⟨_, rfl⟩
      have hb5 : Below w4.heap.size w4 W5 := by rw [eW5]; exact below_new _ _
      have HB5 := Lib.hid (below_more (below_more HB3.out hb4) hb5)
      have HL5 := Lib.hid ((HL3.out.below hb4 HL3.out.lt).below hb5 (HL3.out.below hb4 HL3.out.lt).lt)
      have HEQ := Lib.hid (HNO'.out rfl)
      have hrw := Lib.hid eW5
      clear hb4 hb5 eW5
      go_upto_region 6 with (fail)
      rw [← hrw.out]
      have hq0 := HL5.out.nine
      obtain ⟨_, f0, f1, f2, f3, f4, f5, f6, f7, f8⟩ := hq0
      obtain ⟨⟨q0, q1, q2, q3, q4, q5, q6, q7, q8⟩, _⟩ := (HL5.out.put9 (a := .string { data := #[] }) (b := .int .i64 0) (c := .bool false) (d := .int .i64 0) (e := .string { data := #[] }) (f := .slice none 0 0) (x := .slice none 0 0) (y := .string { data := #[] }) (z := .slice none 0 0)).nine
      have HE := Lib.hid (open_bad (HEQ.out) (by decide) (HB5.out))
      clear hrw
      go_wp2
      exact bodyPost_ret (v := .tuple #[tokv ByteArray.empty 0 false 0 ByteArray.empty (.slice none 0 0) (.slice none 0 0) ByteArray.empty (.slice none 0 0), .int .i64 90]) (by simp [results, Tryz.results5, go_sem, q0, q1, q2, q3, q4, q5, q6, q7, q8]; rfl) rfl HE.out
    | some k =>
      obtain ⟨hb4, A4, c4, rfl, hK4⟩ := hh
      have hA4 : ArgIs w4 A4 c4 k.secret := hK4.arg.1
      obtain ⟨W5, eW5⟩ : ∃ W5, W5 = w4.alloc (.cells #[.string k.id, .slice A4 k.secret.length c4, .int .i64 k.made, .int .i64 k.ends] 37) := ⟨_, rfl⟩
      have hb5 : Below w4.heap.size w4 W5 := by rw [eW5]; exact below_new _ _
      have hk5 : Lies W5 w4.heap.size 37 [.string k.id, .slice A4 k.secret.length c4, .int .i64 k.made, .int .i64 k.ends] := by rw [eW5]; exact Lies.new_ rfl
      have ht5 := (HLT3.out.below hb4 HLT3.out.lt).below hb5 (HLT3.out.below hb4 HLT3.out.lt).lt
      have HB5 := Lib.hid (below_more (below_more HB3.out hb4) hb5)
      have HB15 := Lib.hid (below_more (below_more HB13.out hb4) hb5)
      have HL5 := Lib.hid ((HL3.out.below hb4 HL3.out.lt).below hb5 (HL3.out.below hb4 HL3.out.lt).lt)
      have HT5 := Lib.hid ht5
      have HJ5 := Lib.hid ((HJ3.out.on hb4).on hb5)
      have HA5 := Lib.hid ((HA3.out.below hb4 (Nat.le_refl _)).below hb5 (Nat.le_refl _))
      have hV := verify_any (strOf kid) (strOf sg) cl.kind cl.bool cl.int (strOf cl.text) A1 A2 cl.names.length c1 cl.list.length c2 C k.secret A3 A4 c3 c4 W5 (HTT.out.below HB15.out HTT.out.lt) HA5.out (hA4.below hb5 (Nat.le_refl _)) hK4.arg.2.2.1 (by rw [strOf_size]; have := HK.out.2.2; omega)
      rw [numsOf_strOf HK.out.2.1] at hV
      obtain ⟨⟨y0, y1, y2, y3, y4, y5, y6, y7, y8⟩, _⟩ := ht5.nine
      obtain ⟨⟨z0, z1, z2, z3⟩, _⟩ := hk5.four
      have HBDk := Lib.hid (HBD'.out k rfl)
      have HGDk := Lib.hid (HGD'.out k rfl)
      have hrw := Lib.hid eW5
      clear hb4 hb5 hK4 hA4 hk5 ht5 eW5
      go_upto_region 7 with (fail)
      rw [← hrw.out]
      by_cases hmac : C = Sha.mac k.secret sg
      · have HEQ := Lib.hid (HGDk.out hmac)
        rw [decide_eq_true hmac] at hV
        clear hmac
        go_wp2_with fail
        refine hV.mono ?_
        rintro e w6 ⟨rfl, hb6⟩
        clear hV y0 y1 y2 y3 y4 y5 y6 y7 y8 z0 z1 z2 z3
        have hl6 := HL5.out.below hb6 HL5.out.lt
        obtain ⟨_, f0, f1, f2, f3, f4, f5, f6, f7, f8⟩ := hl6.nine
        obtain ⟨⟨y0, y1, y2, y3, y4, y5, y6, y7, y8⟩, _⟩ := (HT5.out.below hb6 HT5.out.lt).nine
        obtain ⟨⟨q0, q1, q2, q3, q4, q5, q6, q7, q8⟩, _⟩ := (hl6.put9 (a := .string (strOf kid)) (b := .int .i64 cl.kind) (c := .bool cl.bool) (d := .int .i64 cl.int) (e := .string (strOf cl.text)) (f := .slice A1 cl.names.length c1) (x := .slice A2 cl.list.length c2) (y := .string (strOf sg)) (z := .slice A3 C.length c3)).nine
        have HE := Lib.hid (open9_good HEQ.out (below_more HB5.out hb6) hl6 ((HJ5.out.on hb6).from (Nat.le_of_eq HSZ.out.symm)) (HA5.out.below hb6 (Nat.le_refl _)) HK.out.1 HK.out.2)
        clear hl6 hb6
        go_wp2
        exact bodyPost_ret (v := .tuple #[tokv (strOf kid) cl.kind cl.bool cl.int (strOf cl.text) (.slice A1 cl.names.length c1) (.slice A2 cl.list.length c2) (strOf sg) (.slice A3 C.length c3), .int .i64 0]) (by simp [results, Tryz.results5, go_sem, q0, q1, q2, q3, q4, q5, q6, q7, q8]) rfl HE.out
      · have HEQ := Lib.hid (HBDk.out hmac)
        rw [decide_eq_false hmac] at hV
        clear hmac
        go_wp2_with fail
        refine hV.mono ?_
        rintro e w6 ⟨rfl, hb6⟩
        clear hV y0 y1 y2 y3 y4 y5 y6 y7 y8 z0 z1 z2 z3
        have HB6 := Lib.hid (below_more HB5.out hb6)
        have HL6 := Lib.hid (HL5.out.below hb6 HL5.out.lt)
        clear hb6
        have hq0 := HL6.out.nine
        obtain ⟨_, f0, f1, f2, f3, f4, f5, f6, f7, f8⟩ := hq0
        obtain ⟨⟨q0, q1, q2, q3, q4, q5, q6, q7, q8⟩, _⟩ := (HL6.out.put9 (a := .string { data := #[] }) (b := .int .i64 0) (c := .bool false) (d := .int .i64 0) (e := .string { data := #[] }) (f := .slice none 0 0) (x := .slice none 0 0) (y := .string { data := #[] }) (z := .slice none 0 0)).nine
        have HE := Lib.hid (open_bad (HEQ.out) (by decide) (HB6.out))
        clear hrw
        go_wp2
        exact bodyPost_ret (v := .tuple #[tokv ByteArray.empty 0 false 0 ByteArray.empty (.slice none 0 0) (.slice none 0 0) ByteArray.empty (.slice none 0 0), .int .i64 82]) (by simp [results, Tryz.results5, go_sem, q0, q1, q2, q3, q4, q5, q6, q7, q8]; rfl) rfl HE.out

end Go.Proofs.YthklgpflaghojaaGreatDoor
