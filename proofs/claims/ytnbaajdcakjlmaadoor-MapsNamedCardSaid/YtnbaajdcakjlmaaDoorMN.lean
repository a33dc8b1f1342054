/-
  The law package's alive, small and few.
-/
import Derived.Test.YtnbaajdcakjlmaaDoorML
import Derived.Test.YtnbaajdcakjlmaaDoorQJ
namespace Go.Proofs.YtnbaajdcakjlmaaDoor
open Go.RowKit

theorem NsE.liesM {w : World} {g : Nat} {t : TypeId} {ns : List Zq.Nd} (h : Lies w g t (ncells ns)) (hl : ns.length ≤ 9223372036854775807) (ht : ∀ n ∈ ns, ∀ x ∈ n.text, x < 256) : NsE w (fun _ => True) (.slice (some ⟨g, 0, none⟩) ns.length ns.length) ns :=
  ⟨_, _, rfl, Nat.le_refl _, hl, ht, fun _ => ⟨g, 0, rfl, trivial, h.lt, fun j x hj => by rw [Nat.zero_add, h.cell]; exact hj⟩⟩
theorem NsE.nilM (w : World) (ok : Nat → Prop) : NsE w ok (.slice none 0 0) [] := ⟨none, 0, rfl, Nat.le_refl _, by show (0 : Nat) ≤ 9223372036854775807; omega, fun _ h => (nomatch h), fun h => absurd h (Nat.lt_irrefl _)⟩
theorem RsE.oneM {w : World} {g : Nat} {t : TypeId} {r : Zq.Rl} {v1 v2 : Value} (h : Lies w g t [.string (strOf r.name), v1, v2]) (ht : ∀ x ∈ r.name, x < 256) (h1 : NsE w (fun _ => True) v1 r.expr) (h2 : NsE w (fun _ => True) v2 r.cond) : RsE w (fun _ => True) (.slice (some ⟨g, 0, none⟩) 1 1) [r] :=
  ⟨_, _, rfl, Nat.le_refl _, by show (1 : Nat) ≤ 9223372036854775807; omega, [(r.name, v1, v2)], rfl, fun i u q e1 e2 => by
    have hi : i = 0 := by
      have := (List.getElem?_eq_some_iff.1 e1).1
      simp at this; omega
    subst hi
    simp at e1 e2
    subst e1 e2
    exact ⟨rfl, ht, h1, h2⟩, fun _ => ⟨g, 0, rfl, trivial, h.lt, fun j x hj => by rw [Nat.zero_add, h.cell]; simpa [rcells3] using hj⟩⟩
def alVM : Jq.J := Jq.objJ [[101]] [Jq.textJ [65, 64, 98]]
def alNodesM : List Zq.Nd := [⟨3, 0, 0, 0, [101]⟩, ⟨9, 0, 0, 0, []⟩]
def alRuleM : Zq.Rl := ⟨[], [], [⟨4, 0, 0, 0, [101]⟩]⟩
theorem alNodesM_cells : ncells alNodesM = [.int .i64 3, .int .i64 0, .int .i64 0, .int .i64 0, .string { data := #[101] }, .int .i64 9, .int .i64 0, .int .i64 0, .int .i64 0, .string { data := #[] }] := rfl
theorem alCondM_cells : ncells alRuleM.cond = [.int .i64 4, .int .i64 0, .int .i64 0, .int .i64 0, .string { data := #[101] }] := rfl
theorem al_valueM (S : Mq.Same) : Mq.valueV S alVM alNodesM = Jq.textJ [98] := by kernel_rfl
theorem al_runM (S : Mq.Same) : Mq.runV S alVM [alRuleM] = (Jq.nullJ, 130) := by kernel_rfl
set_option maxHeartbeats 2000000 in
set_option maxRecDepth 100000 in
theorem alive13_any (w : World) (hH : Held w) : Calls Tryd.prog 8 #[] w (IsTrue w) := by
  obtain ⟨S, _⟩ := Mq.some_same
  obtain ⟨W0, eW0⟩ : ∃ W0, W0 = w.alloc (.cells #[.string { data := #[101] }] 9) := ⟨_, rfl⟩
  have hb0 : Below w.heap.size w W0 := by rw [eW0]; exact below_new _ _
  have hl0 : Lies W0 w.heap.size 9 [.string { data := #[101] }] := by rw [eW0]; exact Lies.new_ rfl
  have hC := refText_any { data := #[65, 64, 98] } W0
  have HH : Hid (Held w) := hH
  have HB0 := Lib.hid hb0
  have HL0 := Lib.hid hl0
  have HW0 := Lib.hid eW0
  rw [eW0] at hC
  clear hH hb0 hl0 eW0
  go_enter Tryd.func8, Tryd.ntmps8
  go_wp2_with fail
  refine hC.mono ?_
  rintro e w1 ⟨rfl, hb1⟩
  clear hC
  rw [← HW0.out] at hb1
  obtain ⟨W1, eW1⟩ : ∃ W1, W1 = w1.alloc (.cells #[.int .i64 3, .bool false, .int .i64 0, .string { data := #[65, 64, 98] }, nilS, nilS] 27) := ⟨_, rfl⟩
  have hbW1 : Below w1.heap.size w1 W1 := by rw [eW1]; exact below_new _ _
  have hl1 : Lies W1 w1.heap.size 27 [.int .i64 3, .bool false, .int .i64 0, .string { data := #[65, 64, 98] }, nilS, nilS] := by rw [eW1]; exact Lies.new_ rfl
  have hb01 := below_more hb1 hbW1
  have hC := refObject_any (some ⟨w.heap.size, 0, none⟩) (some ⟨w1.heap.size, 0, none⟩) 1 1 1 1 W1
  have HL1 := Lib.hid hl1
  have HW1 := Lib.hid eW1
  have HN1 := Lib.hid (HL0.out.below hb01 HL0.out.lt)
  have HB1 := Lib.hid (below_more HB0.out hb01)
  rw [eW1] at hC
  clear hb1 hbW1 hl1 hb01 eW1
  go_wp2_with fail
  refine hC.mono ?_
  rintro e w2 ⟨rfl, hb2⟩
  clear hC
  rw [← HW1.out] at hb2
  obtain ⟨W2, eW2⟩ : ∃ W2, W2 = w2.alloc (.cells #[.int .i64 5, .bool false, .int .i64 0, .string ByteArray.empty, .slice (some ⟨w.heap.size, 0, none⟩) 1 1, .slice (some ⟨w1.heap.size, 0, none⟩) 1 1] 27) := ⟨_, rfl⟩
  have hbW2 : Below w2.heap.size w2 W2 := by rw [eW2]; exact below_new _ _
  have hv2 : Lies W2 w2.heap.size 27 [.int .i64 5, .bool false, .int .i64 0, .string ByteArray.empty, .slice (some ⟨w.heap.size, 0, none⟩) 1 1, .slice (some ⟨w1.heap.size, 0, none⟩) 1 1] := by rw [eW2]; exact Lies.new_ rfl
  have hb12 := below_more hb2 hbW2
  have hn2 := HN1.out.below hb12 HN1.out.lt
  have hl2 := HL1.out.below hb12 HL1.out.lt
  have hJ2 : IsJ W2 (fun _ => True) (jv alVM.kind alVM.bool alVM.int (strOf alVM.text) (.slice (some ⟨w.heap.size, 0, none⟩) alVM.names.length 1) (.slice (some ⟨w1.heap.size, 0, none⟩) alVM.list.length 1)) alVM := by
    refine isJ_obj ⟨_, _, rfl, Nat.le_refl _, by omega, fun _ => ⟨_, 0, rfl, trivial, hn2.lt, fun j x hj => by rw [Nat.zero_add, hn2.cell]; exact hj⟩⟩ (by decide) (by decide) ⟨[jv 3 false 0 (strOf [65, 64, 98]) nilS nilS], ⟨_, _, rfl, Nat.le_refl _, by omega, fun _ => ⟨_, 0, rfl, trivial, hl2.lt, fun j x hj => by rw [Nat.zero_add, hl2.cell]; exact hj⟩⟩, rfl, by decide, fun i v x e1 e2 => ?_⟩
    have hi : i = 0 := by
      have := (List.getElem?_eq_some_iff.1 e1).1
      simp at this; omega
    subst hi
    simp at e1 e2
    subst e1 e2
    exact isJ_text _ _ (by decide)
  have HJ2 := Lib.hid hJ2
  have HV2 := Lib.hid hv2
  have HB2 := Lib.hid (below_more HB1.out hb12)
  have HW2 := Lib.hid eW2
  clear hb2 hbW2 hv2 hb12 hn2 hl2 hJ2 eW2
  go_upto_region 2 with (fail)
  rw [← HW2.out]
  obtain ⟨W3, eW3⟩ : ∃ W3, W3 = W2.alloc (.cells #[.int .i64 3, .int .i64 0, .int .i64 0, .int .i64 0, .string { data := #[101] }, .int .i64 9, .int .i64 0, .int .i64 0, .int .i64 0, .string { data := #[] }] 44) := ⟨_, rfl⟩
  have hbW3 : Below W2.heap.size W2 W3 := by rw [eW3]; exact below_new _ _
  have hn3 : Lies W3 W2.heap.size 44 (ncells alNodesM) := by rw [eW3, alNodesM_cells]; exact Lies.new_ rfl
  have hC := valueM_any S alNodesM (some ⟨W2.heap.size, 0, none⟩) 2 2 alVM (some ⟨w.heap.size, 0, none⟩) (some ⟨w1.heap.size, 0, none⟩) 1 1 W3 (NsE.liesM hn3 (by decide) (by decide)) rfl (by decide) (by unfold NodesOk; decide) (HJ2.out.on hbW3)
  rw [al_valueM] at hC
  have HW3 := Lib.hid eW3
  have HBW3 := Lib.hid hbW3
  rw [eW3] at hC
  have za := fun o => (HV2.out.alloc o).six.1
  have za0 := fun o => (za o).1
  have za1 := fun o => (za o).2.1
  have za2 := fun o => (za o).2.2.1
  have za3 := fun o => (za o).2.2.2.1
  have za4 := fun o => (za o).2.2.2.2.1
  have za5 := fun o => (za o).2.2.2.2.2
  clear za eW3 hbW3 hn3
  go_wp2_with fail
  refine hC.mono ?_
  rintro e w4 ⟨u, rfl, hJu, hb4⟩
  clear hC za0 za1 za2 za3 za4 za5
  rw [← HW3.out] at hb4
  obtain ⟨A1, c1, A2, c2, rfl⟩ : ∃ A1 c1 A2 c2, u = jv 3 false 0 { data := #[98] } (.slice A1 0 c1) (.slice A2 0 c2) := hJu.form
  obtain ⟨W5, eW5⟩ : ∃ W5, W5 = w4.alloc (.cells #[.int .i64 3, .bool false, .int .i64 0, .string { data := #[98] }, .slice A1 0 c1, .slice A2 0 c2] 27) := ⟨_, rfl⟩
  have hbW5 : Below w4.heap.size w4 W5 := by rw [eW5]; exact below_new _ _
  have hx5 : Lies W5 w4.heap.size 27 [.int .i64 3, .bool false, .int .i64 0, .string { data := #[98] }, .slice A1 0 c1, .slice A2 0 c2] := by rw [eW5]; exact Lies.new_ rfl
  have hb25 := below_more HBW3.out (below_more hb4 hbW5)
  have HX5 := Lib.hid hx5
  have HV5 := Lib.hid (HV2.out.below hb25 HV2.out.lt)
  have HJ5 := Lib.hid (HJ2.out.on hb25)
  have HB5 := Lib.hid (below_more HB2.out hb25)
  have HW5 := Lib.hid eW5
  clear hJu hb4 hbW5 hx5 hb25 eW5
  go_upto_region 3 with (fail)
  rw [← HW5.out]
  obtain ⟨W6, eW6⟩ : ∃ W6, W6 = (W5.alloc (.cells #[.int .i64 4, .int .i64 0, .int .i64 0, .int .i64 0, .string { data := #[101] }] 44)).alloc (.cells #[.string { data := #[] }, .slice none 0 0, .slice (some ⟨W5.heap.size, 0, none⟩) 1 1] 42) := ⟨_, rfl⟩
  have hbW6 : Below W5.heap.size W5 W6 := by rw [eW6]; exact below_new2 _ _ _
  have hn6 : Lies W6 W5.heap.size 44 (ncells alRuleM.cond) := by rw [eW6, alCondM_cells]; exact (Lies.new_ rfl).alloc _
  have hr6 : Lies W6 (W5.heap.size + 1) 42 [.string { data := #[] }, .slice none 0 0, .slice (some ⟨W5.heap.size, 0, none⟩) 1 1] := by rw [eW6]; exact Lies.new_ (by simp)
  have hC := runM_any S [alRuleM] (some ⟨W5.heap.size + 1, 0, none⟩) 1 1 alVM (some ⟨w.heap.size, 0, none⟩) (some ⟨w1.heap.size, 0, none⟩) 1 1 W6 (HH.out.below (below_more HB5.out hbW6)) (RsE.oneM (r := alRuleM) hr6 (by decide) (NsE.nilM _ _) (NsE.liesM hn6 (by decide) (by decide))) rfl (by decide) (by
    intro r hr
    rw [List.mem_singleton.1 hr]
    refine ⟨by decide, by decide, ?_, ?_⟩ <;> unfold NodesOk <;> decide) (HJ5.out.on hbW6)
  rw [al_runM] at hC
  have HW6 := Lib.hid eW6
  have HBW6 := Lib.hid hbW6
  rw [eW6] at hC
  have za := fun o o' => ((HV5.out.alloc o).alloc o').six.1
  have za0 := fun o o' => (za o o').1
  have za1 := fun o o' => (za o o').2.1
  have za2 := fun o o' => (za o o').2.2.1
  have za3 := fun o o' => (za o o').2.2.2.1
  have za4 := fun o o' => (za o o').2.2.2.2.1
  have za5 := fun o o' => (za o o').2.2.2.2.2
  clear za eW6 hbW6 hn6 hr6
  go_wp2_with fail
  refine hC.mono ?_
  rintro e w7 ⟨u, rfl, hJu, hb7⟩
  clear hC za0 za1 za2 za3 za4 za5
  rw [← HW6.out] at hb7
  have hx7 := (HX5.out.below HBW6.out HX5.out.lt).below hb7 (HX5.out.below HBW6.out HX5.out.lt).lt
  obtain ⟨B1, d1, B2, d2, rfl⟩ : ∃ A1 c1 A2 c2, u = jv 0 false 0 ByteArray.empty (.slice A1 0 c1) (.slice A2 0 c2) := hJu.form
  have ya := fun o => (hx7.alloc o).six.1.2.2.2.1
  have HE : Hid (∀ o, IsTrue w (.returned (.bool true)) (w7.alloc o)) := fun o => ⟨rfl, below_alloc (below_more HB5.out (below_more HBW6.out hb7)) o⟩
  clear hJu hb7 hx7
  go_wp2
  go_ret
  exact HE.out _
end Go.Proofs.YtnbaajdcakjlmaaDoor
