/-
  A text as bytes of which one is written; the law JwsTurned.
-/
import Derived.Test.YtgojpcoaahcbeaaGreatDoorWLawV
import Derived.Test.YtgojpcoaahcbeaaGreatDoorQJ
import Derived.Test.YtgojpcoaahcbeaaGreatDoorWWr
import Derived.Lib.ConvBytes
import Derived.Deep.QuietTactic
namespace Go.Proofs.YtgojpcoaahcbeaaGreatDoor
open Go.RowKit

theorem conv_new (s : ByteArray) (W : World) (hs : s.size ≤ 140737488355328) : ∃ c w', (convert 9 26 (.string s)).run Tryz.prog W = .ok (.slice (some ⟨W.heap.size, 0, none⟩) s.size c) w' ∧ ArgIs w' (some ⟨W.heap.size, 0, none⟩) c (numsOf s) ∧ Below W.heap.size W w' ∧ (∀ j, j < s.size → w'.frozen? ⟨W.heap.size, j, none⟩ = false) := by
  refine ⟨_, _, Lib.run_convert_string_bytes (P := Tryz.prog) W 9 26 5 s Tryz.underlying9 Tryz.underlying26 Tryz.underlying5, ?_, ⟨rfl, rfl, rfl, by rw [Lib.bytesWorld_size]; omega, fun j hj => Lib.bytesWorld_at_old W _ s j hj⟩, fun j hj => ?_⟩
  · have h1 := grownCap_ge W s.size 0 5
    have h2 := grownCap_le_maxLen W s.size 0 5 (by unfold maxLen; omega)
    unfold maxLen at h2
    refine ⟨by rw [numsOf_length]; exact h1, by omega, numsOf_lt s, fun _ => ⟨W.heap.size, 0, rfl, by rw [Lib.bytesWorld_size]; omega, fun j x hj => ?_⟩⟩
    have hjl : j < s.size := by
      have := (List.getElem?_eq_some_iff.1 hj).1
      rwa [numsOf_length] at this
    refine ⟨numsOf_lt s x (List.mem_of_getElem? hj), ?_⟩
    rw [Nat.zero_add, Lib.bytesWorld_cell W _ s j hjl]
    congr 2
    have h' : j < s.data.toList.length := by simpa using hjl
    simp only [numsOf, List.getElem?_map, List.getElem?_eq_getElem h', Option.map_some, Option.some.injEq] at hj
    rw [← hj, List.getD_eq_getElem?_getD, List.getElem?_eq_getElem h']
    rfl
  · unfold World.frozen?
    simp only [Lib.bytesWorld_at_new, Lib.bytesCells, Array.size_append, Array.size_map]
    have : s.data.size = s.size := rfl
    simp
    omega
section
variable {ops : Array Oper} {rest : List Oper} {o : Oper} {a : Act} {Q : Exit → Act → World → Prop} {w : World}
theorem conv_here_new (hgd : o.guard = none) (x : Operand) (ho : o.op = .convert 9 26 x) (X : ByteArray) (hx : a.eval x = .string X) (hs : X.size ≤ 140737488355328)
    (hK : ∀ w' c, ArgIs w' (some ⟨w.heap.size, 0, none⟩) c (numsOf X) → Below w.heap.size w w' → (∀ j, j < X.size → w'.frozen? ⟨w.heap.size, j, none⟩ = false) → wpList Tryz.prog ops Q rest (a.put o.dst (.slice (some ⟨w.heap.size, 0, none⟩) X.size c)) w') : wpList Tryz.prog ops Q (o :: rest) a w := by
  refine wpList_plain hgd fun K hK' => ?_
  obtain ⟨c, w', hr, harg, hb, hf⟩ := conv_new X w hs
  unfold Oper.wp
  rw [execOp, ho]
  simp [hx, hr, Result.andThen]
  exact hK' _ _ (hK _ _ harg hb hf)
end
theorem arg_turned {w : World} {g c a v : Nat} {q : List Nat} (h : ArgIs w (some ⟨g, 0, none⟩) c q) (ha : a < q.length) (hv : v < 256) : ArgIs (w.setCell ⟨g, a, none⟩ (.int .u8 (v : Int))) (some ⟨g, 0, none⟩) c (q.set a v) := by
  obtain ⟨h1, h2, h3, h4⟩ := h
  obtain ⟨b, off, e, hb, hby⟩ := h4 (by omega)
  injection e with e
  injection e with e1 e2
  subst e1 e2
  refine ⟨by rw [List.length_set]; exact h1, h2, fun x hx => ?_, fun _ => ⟨g, 0, rfl, by simpa [World.setCell] using hb, fun j x hj => ?_⟩⟩
  · rcases List.mem_or_eq_of_mem_set hx with hx | rfl
    · exact h3 x hx
    · exact hv
  · rw [List.getElem?_set] at hj
    by_cases hja : a = j
    · subst hja
      rw [if_pos rfl, if_pos ha] at hj
      injection hj with hj
      subst hj
      refine ⟨hv, ?_⟩
      rw [Nat.zero_add]
      obtain ⟨_, hc⟩ := hby a (q[a]) (List.getElem?_eq_getElem ha)
      rw [Nat.zero_add] at hc
      exact World.cell?_setCell_same' _ _ _ (by rw [hc]; rfl)
    · rw [if_neg hja] at hj
      obtain ⟨hx, hc⟩ := hby j x hj
      refine ⟨hx, ?_⟩
      refine (World.cell?_setCell_other (h := fun e => ?_) ..).trans hc
      injection e with _ e _
      omega

set_option maxHeartbeats 4000000 in
set_option maxRecDepth 100000 in
theorem lawTurned_any {ok : Nat → Prop} (x : Jq.J) (v : Value) (key : List Nat) (A : Option Addr) (c : Nat) (n0 n1 : Int) (w : World) (hH : Held w) (hT : Tab w) (hJ : IsJ w ok v x) (hk : ArgIs w A c key) (hn : key.length ≤ 140737488353000) (hn0 : -9223372036854775808 ≤ n0 ∧ n0 ≤ 9223372036854775807) (hn1 : -9223372036854775808 ≤ n1 ∧ n1 ≤ 9223372036854775807) :
    Calls Tryz.prog 7 #[v, .slice A key.length c, .agg #[.int .i64 n0, .int .i64 n1]] w (IsTrue w) := by
  obtain ⟨A1, c1, A2, c2, rfl⟩ := hJ.form
  obtain ⟨W0, eW0⟩ : ∃ W0, W0 = (w.alloc (.cells #[.int .i64 x.kind, .bool x.bool, .int .i64 x.int, .string (strOf x.text), .slice A1 x.names.length c1, .slice A2 x.list.length c2] 25)).alloc (.cells #[.int .i64 n0, .int .i64 n1] 41) := ⟨_, rfl⟩
  have hb0 : Below w.heap.size w W0 := by rw [eW0]; exact ((Below.refl _ _).alloc (Nat.le_refl _) _).alloc (by simp) _
  have hl0 : Lies W0 w.heap.size 25 [.int .i64 x.kind, .bool x.bool, .int .i64 x.int, .string (strOf x.text), .slice A1 x.names.length c1, .slice A2 x.list.length c2] := by rw [eW0]; exact (Lies.new_ rfl).alloc _
  have hm0 : Lies W0 (w.heap.size + 1) 41 [.int .i64 n0, .int .i64 n1] := by rw [eW0]; exact Lies.new_ (by simp)
  have hS := small_any x _ W0 (hJ.on hb0)
  obtain ⟨⟨z0, z1, z2, z3, z4, z5⟩, _⟩ := hl0.six
  rw [eW0] at hS z0 z1 z2 z3 z4 z5
  have HW0 := Lib.hid eW0
  have HB0 := Lib.hid hb0
  have HL0 := Lib.hid hl0
  have HM0 := Lib.hid hm0
  have HH := Lib.hid hH
  have HTt := Lib.hid hT
  have HS := Lib.hid hS
  have HJ := Lib.hid hJ
  have HK := Lib.hid hk
  have HN := Lib.hid hn
  have HP := Lib.hid (fun W (h : Below w.heap.size w W) => sign_any { data := #[107] } x _ key A c W (hH.below h) (hT.below h hT.lt) (hJ.on h) (hk.below h (Nat.le_refl _)) (by omega))
  obtain ⟨RES, eR⟩ : ∃ RES, Wq.signP (numsOf { data := #[107] }) x key = RES := ⟨_, rfl⟩
  simp only [eR] at HP
  have HSg := Lib.hid eR
  clear hJ hH hT hk hn hb0 hl0 hm0 hS eW0 eR
  go_enter Tryz.func7, Tryz.ntmps7
  go_wp2_with fail
  refine HS.out.mono ?_
  rintro e w1 ⟨⟨r, rfl⟩, hb1⟩
  clear HS z0 z1 z2 z3 z4 z5
  rw [← HW0.out] at hb1
  have hb2 := below_more HB0.out hb1
  have hl1 := HL0.out.below hb1 HL0.out.lt
  have hm1 := HM0.out.below hb1 HM0.out.lt
  cases r
  · have hA := alive8_any w1 (HH.out.below hb2) (HTt.out.below hb2 HTt.out.lt)
    clear hb1 hl1 hm1
    go_wp2_with fail
    refine hA.mono ?_
    rintro e w2 ⟨rfl, hb3⟩
    have HE : Hid (IsTrue w (.returned (.bool true)) w2) := ⟨rfl, below_more hb2 hb3⟩
    clear hA hb2 hb3
    go_wp2
    go_ret
    exact HE.out
  have hP := HP.out w1 hb2
  obtain ⟨⟨z0, z1, z2, z3, z4, z5⟩, _⟩ := hl1.six
  have HM1 := Lib.hid hm1
  clear hb1 hl1 hm1
  go_wp2_with fail
  refine hP.mono ?_
  intro e w2 hh
  clear hP HP z0 z1 z2 z3 z4 z5
  cases RES with
  | none =>
    obtain ⟨hb3, rfl⟩ := hh
    have hb4 := below_more hb2 hb3
    have hm2 := HM1.out.below hb3 HM1.out.lt
    have y0 := hm2.cell 0
    have y1 := hm2.cell 1
    clear hb2 hb3 hm2
    go_upto_region 4 with (fail)
    go_quiet (fail)
    all_goals
      generalize hw3 : World.drewN w2 _ = w3
      have hb5 : Below w.heap.size w w3 := by rw [← hw3]; exact hb4.trans (drewN_below8 _ _)
      have hA := alive8_any _ (HH.out.below hb5) (HTt.out.below hb5 HTt.out.lt)
      clear y0 y1
      go_wp2_with fail
      refine hA.mono ?_
      rintro e w3 ⟨rfl, hb6⟩
      have HE : Hid (IsTrue w (.returned (.bool true)) w3) := ⟨rfl, below_more hb5 hb6⟩
      clear hA hb5 hb6
      go_wp2
      go_ret
      exact HE.out
  | some S =>
    obtain ⟨hb3, rfl⟩ := hh
    have hb4 := below_more hb2 hb3
    have hm2 := HM1.out.below hb3 HM1.out.lt
    have y0 := hm2.cell 0
    have y1 := hm2.cell 1
    obtain ⟨G0, hOp, hSl, hGl, hSn, hGn⟩ := Wq.open_signed HSg.out
    have Hn := Lib.hid (numsOf_strOf hSl)
    have HXs : Hid ((strOf S).size ≤ 5710) := by unfold Hid; rw [strOf_size]; exact hSn
    obtain ⟨X, eX⟩ : ∃ X, strOf S = X := ⟨_, rfl⟩
    rw [eX] at Hn HXs ⊢
    clear hb2 hb3 hm2 hOp hSl hGl hSn hGn eX
    go_upto_region 4 with (fail)
    go_quiet (fail)
    generalize hw3 : World.drewN w2 _ = w3
    have hb5 : Below w.heap.size w w3 := by rw [← hw3]; exact hb4.trans (drewN_below8 _ _)
    clear hw3 hb4 y0 y1
    by_cases hneg : n0 < 0
    · have hd : decide (n0 < 0) = true := decide_eq_true hneg
      have hA := alive8_any w3 (HH.out.below hb5) (HTt.out.below hb5 HTt.out.lt)
      go_wp2_with fail
      refine hA.mono ?_
      rintro e w4 ⟨rfl, hb6⟩
      have HE : Hid (IsTrue w (.returned (.bool true)) w4) := ⟨rfl, below_more hb5 hb6⟩
      clear hA hb5 hb6
      go_wp2
      go_ret
      exact HE.out
    have hd : decide (n0 < 0) = false := decide_eq_false hneg
    obtain ⟨a, rfl⟩ : ∃ a : Nat, n0 = (a : Int) := ⟨n0.toNat, by omega⟩
    by_cases ha : X.size ≤ a
    · have hd2 : decide ((X.size : Int) ≤ (a : Int)) = true := decide_eq_true (by omega)
      have hA := alive8_any w3 (HH.out.below hb5) (HTt.out.below hb5 HTt.out.lt)
      clear hneg
      go_wp2_with fail
      refine hA.mono ?_
      rintro e w4 ⟨rfl, hb6⟩
      have HE : Hid (IsTrue w (.returned (.bool true)) w4) := ⟨rfl, below_more hb5 hb6⟩
      clear hA hb5 hb6
      go_wp2
      go_ret
      exact HE.out
    have hd2 : decide ((X.size : Int) ≤ (a : Int)) = false := decide_eq_false (by omega)
    have ha2 : a < X.size := by omega
    clear hneg
    repeat ((fail_if_success (with_reducible show wpList _ _ _ (⟨some 42, _, _, _, _, _⟩ :: _) _ _)); first | go_values | go_skip | go_guarded | go_step | go_upon | go_back | go_simp)
    with_reducible refine conv_here_new rfl (.tmp 41) rfl X ?s1 ?s2 ?_
    case s1 => rfl
    case s2 => have := HXs.out; omega
    intro w4 cc hA4 hb6 hfr
    have hb7 := below_more hb5 hb6
    have hf := hfr a ha2
    obtain ⟨b, off, eo, hbl, hby⟩ := hA4.2.2.2 (by rw [numsOf_length]; omega)
    injection eo with eo
    injection eo with e1 e2
    subst e1 e2
    have hcell := (hby a _ (List.getElem?_eq_getElem (by rw [numsOf_length]; exact ha2))).2
    rw [Nat.zero_add] at hcell
    obtain ⟨b, hb⟩ : ∃ b : Nat, n1 % 256 = (b : Int) := ⟨(n1 % 256).toNat, by omega⟩
    have hb256 : b < 256 := by omega
    have hA5 := arg_turned hA4 (a := a) (v := b) (by rw [numsOf_length]; exact ha2) hb256
    have hcv := conv_str hA5
    have hlen : ((numsOf X).set a b).length = X.size := by rw [List.length_set, numsOf_length]
    have hQlt : ∀ y ∈ (numsOf X).set a b, y < 256 := hA5.2.2.1
    obtain ⟨Q, eQ⟩ : ∃ Q, (numsOf X).set a b = Q := ⟨_, rfl⟩
    rw [eQ] at hcv hlen hQlt
    have hYn := numsOf_strOf hQlt
    have hYs : (strOf Q).size ≤ 5710 := by rw [strOf_size, hlen]; exact HXs.out
    rw [hlen] at hcv
    obtain ⟨Y, eY⟩ : ∃ Y, strOf Q = Y := ⟨_, rfl⟩
    rw [eY] at hcv hYn hYs
    have HYn := Lib.hid hYn
    have HYs := Lib.hid hYs
    obtain ⟨W5, eW5⟩ : ∃ W5, W5 = w4.setCell ⟨w3.heap.size, a, none⟩ (.int .u8 (b : Int)) := ⟨_, rfl⟩
    have hb8 : Below w.heap.size w W5 := by rw [eW5]; exact hb7.setCell hb5.size _
    have hO := open_any Y W5 (HH.out.below hb8) (by omega)
    obtain ⟨RO, eRO⟩ : ∃ RO, Wq.openP (numsOf Y) = RO := ⟨_, rfl⟩
    rw [eRO] at hO
    have HB8 := Lib.hid hb8
    rw [eW5] at hO
    have HW5 := Lib.hid eW5
    clear hA4 hb6 hfr hby hbl hA5 eQ eY hYn hYs hQlt hlen hb256 eW5 hb8 eRO hb7 hb5 Hn HYn HXs
    go_frame
    go_wp2_with fail
    refine hO.mono ?_
    intro e w6 hh
    rw [← HW5.out] at hh
    clear hO hcv hcell hf
    cases RO with
    | error m =>
      obtain ⟨hb9, rfl, hm⟩ := hh
      have hb10 := below_more HB8.out hb9
      have hm0 : ((m : Int) != 0) = true := by rw [bne_iff_ne]; omega
      have hA := alive8_any (w6.alloc (.cells tok0.toArray 34)) (HH.out.below (below_alloc hb10 _)) (HTt.out.below (below_alloc hb10 _) HTt.out.lt)
      have hb11 := below_alloc hb10 (.cells tok0.toArray 34)
      clear hm hb9 hb10
      go_wp2_with fail
      refine hA.mono ?_
      rintro e w7 ⟨rfl, hb12⟩
      have HE : Hid (IsTrue w (.returned (.bool true)) w7) := ⟨rfl, below_more hb11 hb12⟩
      clear hA hb11 hb12
      go_wp2
      go_ret
      exact HE.out
    | ok t =>
      obtain ⟨hb9, B1, B2, B3, d1, d2, d3, rfl, hJ9, hM, hkl, hsl0, hsl⟩ := hh
      have hb10 := below_more HB8.out hb9
      have hsg : (strOf t.signed).size ≤ 12288 := by rw [strOf_size]; exact hsl
      obtain ⟨kid, ek⟩ : ∃ K, strOf t.kid = K := ⟨_, rfl⟩
      obtain ⟨sg, es⟩ : ∃ K, strOf t.signed = K := ⟨_, rfl⟩
      obtain ⟨q, eq⟩ : ∃ K, t.mac = K := ⟨_, rfl⟩
      obtain ⟨cl, ec⟩ : ∃ K, t.claims = K := ⟨_, rfl⟩
      rw [es] at hsg
      rw [eq] at hM
      rw [ek, es, eq, ec]
      clear ek es eq ec hsl hJ9 hkl hsl0 t
      obtain ⟨W7, eW7⟩ : ∃ W7, W7 = w6.alloc (.cells #[.string kid, .int .i64 cl.kind, .bool cl.bool, .int .i64 cl.int, .string (strOf cl.text), .slice B1 cl.names.length d1, .slice B2 cl.list.length d2, .string sg, .slice B3 q.length d3] 34) := ⟨_, rfl⟩
      have hb11 : Below w6.heap.size w6 W7 := by rw [eW7]; exact (Below.refl _ _).alloc (Nat.le_refl _) _
      have hl7 : Lies W7 w6.heap.size 34 [.string kid, .int .i64 cl.kind, .bool cl.bool, .int .i64 cl.int, .string (strOf cl.text), .slice B1 cl.names.length d1, .slice B2 cl.list.length d2, .string sg, .slice B3 q.length d3] := by rw [eW7]; exact Lies.new_ rfl
      obtain ⟨⟨y0, y1, y2, y3, y4, y5, y6, y7, y8⟩, _⟩ := hl7.nine
      have hM7 := hM.below hb11 (Nat.le_refl _)
      have hn := HN.out
      have hV := fun W (hW : Below w.heap.size w W) (hq : ArgIs W B3 d3 q) => verify_any kid sg cl.kind cl.bool cl.int (strOf cl.text) B1 B2 cl.names.length d1 cl.list.length d2 q key B3 A d3 c W (HTt.out.below hW HTt.out.lt) hq (HK.out.below hW (Nat.le_refl _)) (by omega) (by omega)
      have hR := fun W (hW : Below w.heap.size w W) (hq : ArgIs W B3 d3 q) => refVerify_any kid sg cl.kind cl.bool cl.int (strOf cl.text) B1 B2 cl.names.length d1 cl.list.length d2 q key B3 A d3 c W hq (HK.out.below hW (Nat.le_refl _)) hn (by omega)
      have hAl := fun W (hW : Below w.heap.size w W) => alive8_any W (HH.out.below hW) (HTt.out.below hW HTt.out.lt)
      obtain ⟨R, eR⟩ : ∃ R, decide (q = Sha.mac key (numsOf sg)) = R := ⟨_, rfl⟩
      rw [eR] at hV hR
      have HAl := Lib.hid hAl
      have HV := Lib.hid hV
      have HR := Lib.hid hR
      have HB7 := Lib.hid (below_more hb10 hb11)
      have HM7 := Lib.hid hM7
      rw [eW7] at y0 y1 y2 y3 y4 y5 y6 y7 y8 HB7 HM7
      clear hb9 hb10 hb11 hsg hM hM7 hl7 hn hV hR hAl eR eW7
      go_upto_region 12 with (fail)
      go_region_held3 (fun W => W.cell? ⟨w6.heap.size, 0, none⟩ = some (.string kid) ∧ W.cell? ⟨w6.heap.size, 1, none⟩ = some (.int .i64 cl.kind) ∧ W.cell? ⟨w6.heap.size, 2, none⟩ = some (.bool cl.bool) ∧ W.cell? ⟨w6.heap.size, 3, none⟩ = some (.int .i64 cl.int) ∧ W.cell? ⟨w6.heap.size, 4, none⟩ = some (.string (strOf cl.text)) ∧ W.cell? ⟨w6.heap.size, 5, none⟩ = some (.slice B1 cl.names.length d1) ∧ W.cell? ⟨w6.heap.size, 6, none⟩ = some (.slice B2 cl.list.length d2) ∧ W.cell? ⟨w6.heap.size, 7, none⟩ = some (.string sg) ∧ W.cell? ⟨w6.heap.size, 8, none⟩ = some (.slice B3 q.length d3) ∧ Below w.heap.size w W ∧ ArgIs W B3 d3 q)
        (first
          | (go_split_ands; exact ⟨cell_on (by assumption) hba, cell_on (by assumption) hba, cell_on (by assumption) hba, cell_on (by assumption) hba, cell_on (by assumption) hba, cell_on (by assumption) hba, cell_on (by assumption) hba, cell_on (by assumption) hba, cell_on (by assumption) hba, below_more (by assumption : Below w.heap.size w _) hba, ArgIs.below (by assumption : ArgIs _ B3 d3 q) hba (Nat.le_refl _)⟩)
          | (exact ⟨y0, y1, y2, y3, y4, y5, y6, y7, y8, HB7.out.drew, HM7.out.drew⟩)
          | (go_split_ands; exact ⟨by assumption, by assumption, by assumption, by assumption, by assumption, by assumption, by assumption, by assumption, by assumption, Below.drew (by assumption), ArgIs.drew (by assumption)⟩))
        (first
          | (go_at_call 10; go_split_ands; refine (HAl.out _ (by assumption : Below w.heap.size w _)).mono ?_; rintro e wa ⟨rfl, hba⟩)
          | (go_at_call 16; go_split_ands; with_reducible refine (HV.out _ (by assumption : Below w.heap.size w _) (by assumption : ArgIs _ B3 d3 q)).mono ?_; rintro e wa ⟨rfl, hba⟩)
          | (go_at_call 17; go_split_ands; with_reducible refine (HR.out _ (by assumption : Below w.heap.size w _) (by assumption : ArgIs _ B3 d3 q)).mono ?_; rintro e wa ⟨rfl, hba⟩))
      go_split_ands
      have HE : Hid (IsTrue w (.returned (.bool true)) wa) := ⟨rfl, below_more (by assumption : Below w.heap.size w _) hba⟩
      go_wp2
      go_ret
      exact HE.out
end Go.Proofs.YtgojpcoaahcbeaaGreatDoor
