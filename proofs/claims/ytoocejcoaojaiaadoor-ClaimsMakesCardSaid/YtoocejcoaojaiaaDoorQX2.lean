/-
  QX2: JForm0 JFormA JFormB JFormC JForm, side by side.
-/
import Derived.Test.YtoocejcoaojaiaaDoorQX1
import Derived.Test.YtoocejcoaojaiaaDoorQS
import Derived.Deep.RegionHeld3
import Derived.Lib.QuietBelow

/-
  The document's form: can a value be, as far as its own fields say?
-/
namespace Go.Proofs.YtoocejcoaojaiaaDoor
open Go.RowKit

theorem form_mk {n : Nat} {k : Int} {b : Bool} {i : Int} {t : List Nat} {ns : List (List Nat)} {l : List Jq.J} : Jq.Form n (.mk k b i t ns l) ↔ (0 ≤ k ∧ k ≤ 5 ∧ (k ≠ 1 → b = false) ∧ (k ≠ 2 → i = 0) ∧ (k ≠ 3 → t = []) ∧ i ≤ 9007199254740991 ∧ -9007199254740991 ≤ i ∧ t.length ≤ 4096 ∧ Jq.valid t = true ∧
    (k < 4 → ns = [] ∧ l = []) ∧ (4 ≤ k → 0 < n ∧ l.length ≤ 4096) ∧ (k = 4 → ns = []) ∧ (k = 5 → ns.length = l.length ∧ (∀ t ∈ ns, t.length ≤ 4096 ∧ Jq.valid t = true) ∧ ns.Nodup)) := Iff.rfl
theorem valid_nil_any (w : World) : Calls Tryd.prog 59 #[.string { data := #[] }] w fun e w' => e = .returned (.bool true) ∧ Below w.heap.size w w' := refValid_any { data := #[] } (by decide) w
theorem size_big (t : List Nat) : ((strOf t).size : Int) = (t.length : Int) := by rw [strOf_size]
/-- Names under way: all so far are right, and no two are the same. -/
def NamesOk (ns : List (List Nat)) : Prop := (∀ t ∈ ns, t.length ≤ 4096 ∧ Jq.valid t = true) ∧ ns.Nodup
theorem names_snoc {ns : List (List Nat)} {t : List Nat} (h : NamesOk ns) (h1 : t.length ≤ 4096) (h2 : Jq.valid t = true) (h3 : t ∉ ns) : NamesOk (ns ++ [t]) := by
  refine ⟨fun p hp => ?_, ?_⟩
  · rcases List.mem_append.1 hp with hp | hp
    · exact h.1 p hp
    · rw [List.mem_singleton.1 hp]; exact ⟨h1, h2⟩
  · rw [List.nodup_append]
    refine ⟨h.2, by simp, fun a ha b hb => ?_⟩
    rw [List.mem_singleton.1 hb]
    exact fun e => h3 (e ▸ ha)
theorem nodup_take {ns : List (List Nat)} {i : Nat} {t : List Nat} (h : ns.Nodup) (hi : ns[i]? = some t) : t ∉ ns.take i := fun hm => by
  obtain ⟨hl, e⟩ := List.getElem?_eq_some_iff.1 hi
  have h2 : (ns.take i ++ ns.drop i).Nodup := by rw [List.take_append_drop]; exact h
  rw [List.nodup_append] at h2
  refine h2.2.2 t hm t ?_ rfl
  rw [List.drop_eq_getElem_cons hl, e]
  simp
theorem below_of_eq {w : World} {f : FuncId} {args : Array Value} {b : Bool} (h : Calls Tryd.prog f args w fun e w' => e = .returned (.bool b) ∧ w = w') : Calls Tryd.prog f args w fun e w' => e = .returned (.bool b) ∧ Below w.heap.size w w' :=
  h.mono fun _ _ ⟨he, hw⟩ => ⟨he, by rw [← hw]; exact Below.refl _ _⟩

end Go.Proofs.YtoocejcoaojaiaaDoor

/-
  The form of values that are no lists.
-/
namespace Go.Proofs.YtoocejcoaojaiaaDoor
open Go.RowKit

set_option maxHeartbeats 16000000 in
set_option maxRecDepth 100000 in
theorem form_kind0 {ok : Nat → Prop} (lv : Nat) (_hlv : lv ≤ 16) (b : Bool) (q : Int) (t : List Nat) (ns : List (List Nat)) (l : List Jq.J) (names list : Value) (w : World) (h : IsJ w ok (jv 0 b q (strOf t) names list) (.mk 0 b q t ns l)) :
    Calls Tryd.prog 49 #[jv 0 b q (strOf t) names list, .int .i64 ((16 - lv : Nat) : Int)] w (Tells (Jq.Form lv (.mk 0 b q t ns l)) w) := by
  obtain ⟨nv, lvv, eqv, h1, h2, ht', hS', hns', hnl', hLL⟩ := h.parts
  injection eqv with eqv
  obtain ⟨-, -, -, -, en, el⟩ : _ ∧ _ ∧ _ ∧ _ ∧ _ ∧ _ := by simpa using eqv
  subst en el
  have hll : l.length * 88 ≤ 140737488355328 := by
    obtain ⟨_, _, _, h1, _⟩ := hLL
    exact h1
  have ht : t.length ≤ 140737488355328 ∧ ∀ y ∈ t, y < 256 := ht'
  have hS : SlIs w ok names ns.length (tcells ns) := hS'
  have hL : ListIs w ok list l := hLL
  have hns : ∀ p ∈ ns, p.length ≤ 140737488355328 ∧ ∀ y ∈ p, y < 256 := hns'
  have hnl : ns.length * 16 ≤ 140737488355328 := hnl'
  clear hLL eqv ht' hS' hns' hnl'
  obtain ⟨A1, c1, rfl⟩ := hS.form
  obtain ⟨A2, c2, rfl⟩ := hL.form
  have HB0 : Hid (∀ o, Below w.heap.size w (w.alloc o)) := fun o => (Below.refl _ _).alloc (Nat.le_refl _) o
  have NO : Hid (¬ Jq.Form lv (.mk 0 b q t ns l) → ∀ o, Tells (Jq.Form lv (.mk 0 b q t ns l)) w (.returned (.bool false)) (w.alloc o)) := fun hn o => Tells.no hn (HB0.out o)
  have HT := Lib.hid (str_empty t)
  have HV : Hid (∀ w', Calls Tryd.prog 59 #[.string (strOf t)] w' fun e w2 => e = .returned (.bool (Jq.valid t)) ∧ Below w'.heap.size w' w2) := fun w' => by
    have := refValid_any (strOf t) (by rw [strOf_size]; omega) w'
    rw [numsOf_strOf ht.2] at this
    exact this
  have hT := size_big t
  clear h
  -- kind 0
  cases b with
  | true =>
    have HQ := Lib.hid (NO.out (fun h => by obtain ⟨f0, f5, fb, fi, ft, i1, i2, tl, tv, fp, fl, f4, fo⟩ := form_mk.1 h; exact absurd (fb (by decide)) (by decide)))
    clear hS hL hns hnl hll hT HV
    go_enter Tryd.func49, Tryd.ntmps49
    go_wp2
    go_ret
    exact HQ.out _
  | false =>
  by_cases hq : q = 0
  rotate_left
  · have d3 : (q != 0) = true := by rw [bne_iff_ne]; exact hq
    have HQ := Lib.hid (NO.out (fun h => by obtain ⟨f0, f5, fb, fi, ft, i1, i2, tl, tv, fp, fl, f4, fo⟩ := form_mk.1 h; exact hq (fi (by decide))))
    clear hS hL hns hnl hll hT HV
    go_enter Tryd.func49, Tryd.ntmps49
    go_wp2
    go_ret
    exact HQ.out _
  subst hq
  rcases HT.out with ⟨t1, t2, t3⟩ | ⟨t1, t2, t3⟩
  rotate_left
  · have T3 := Lib.hid t3
    clear t3
    have HQ := Lib.hid (NO.out (fun h => by obtain ⟨f0, f5, fb, fi, ft, i1, i2, tl, tv, fp, fl, f4, fo⟩ := form_mk.1 h; exact T3.out (ft (by decide))))
    clear hS hL hns hnl hll hT HV
    go_enter Tryd.func49, Tryd.ntmps49
    go_wp2
    go_ret
    exact HQ.out _
  subst t3
  have hV0 := fun w => valid_nil_any w
  have hE : strOf [] = { data := #[] } := rfl
  rw [hE] at *
  clear HT HV hT t1 t2
  have hl0 : Lies (w.alloc (.cells #[.int .i64 0, .bool false, .int .i64 0, .string { data := #[] }, .slice A1 ns.length c1, .slice A2 l.length c2] 28)) w.heap.size 28 [.int .i64 0, .bool false, .int .i64 0, .string { data := #[] }, .slice A1 ns.length c1, .slice A2 l.length c2] := Lies.new_ rfl
  have hV := hV0 (w.alloc (.cells #[.int .i64 0, .bool false, .int .i64 0, .string { data := #[] }, .slice A1 ns.length c1, .slice A2 l.length c2] 28))
  have HL0 := Lib.hid hl0
  have HB1 := Lib.hid (HB0.out (.cells #[.int .i64 0, .bool false, .int .i64 0, .string { data := #[] }, .slice A1 ns.length c1, .slice A2 l.length c2] 28))
  clear hl0
  have hN := len_zero ns
  have hM := len_zero l
  have HYES : Hid (ns = [] → l = [] → Jq.Form lv (.mk 0 false 0 [] ns l)) := fun e1 e2 => form_mk.2 ⟨by decide, by decide, fun _ => rfl, fun _ => rfl, fun _ => rfl, (by decide), (by decide), Nat.zero_le _, rfl, fun _ => ⟨e1, e2⟩, fun h => absurd h (by decide), fun h => absurd h (by decide), fun h => absurd h (by decide)⟩
  have HNO1 : Hid (ns ≠ [] → ¬ Jq.Form lv (.mk 0 false 0 [] ns l)) := fun e h => by
    obtain ⟨_, _, _, _, _, _, _, _, _, fp, _⟩ := form_mk.1 h
    exact e (fp (show (0 : Int) < 4 by decide)).1
  have HNO2 : Hid (l ≠ [] → ¬ Jq.Form lv (.mk 0 false 0 [] ns l)) := fun e h => by
    obtain ⟨_, _, _, _, _, _, _, _, _, fp, _⟩ := form_mk.1 h
    exact e (fp (show (0 : Int) < 4 by decide)).2
  rcases hN with ⟨n1, n2⟩ | ⟨n1, n2⟩
  · rcases hM with ⟨m1, m2⟩ | ⟨m1, m2⟩
    · have HQ : Hid (Jq.Form lv (.mk 0 false 0 [] ns l)) := HYES.out n2 m2
      clear n2 m2 hS hL hns hnl hll hV0
      go_enter Tryd.func49, Tryd.ntmps49
      go_wp2_with fail
      refine hV.mono ?_
      rintro e w1 ⟨rfl, hb1⟩
      obtain ⟨⟨z0, z1, z2, z3, z4, z5⟩, _⟩ := (HL0.out.below hb1 HL0.out.lt).six
      have hbw := below_more HB1.out hb1
      clear hV hb1
      go_wp2
      go_ret
      exact Tells.yes HQ.out hbw
    · have HQ : Hid (¬ Jq.Form lv (.mk 0 false 0 [] ns l)) := HNO2.out m2
      clear n2 m2 hS hL hns hnl hll hV0
      go_enter Tryd.func49, Tryd.ntmps49
      go_wp2_with fail
      refine hV.mono ?_
      rintro e w1 ⟨rfl, hb1⟩
      obtain ⟨⟨z0, z1, z2, z3, z4, z5⟩, _⟩ := (HL0.out.below hb1 HL0.out.lt).six
      have hbw := below_more HB1.out hb1
      clear hV hb1
      go_wp2
      go_ret
      exact Tells.no HQ.out hbw
  · have HQ : Hid (¬ Jq.Form lv (.mk 0 false 0 [] ns l)) := HNO1.out n2
    clear n2 hM hS hL hns hnl hll hV0
    go_enter Tryd.func49, Tryd.ntmps49
    go_wp2_with fail
    refine hV.mono ?_
    rintro e w1 ⟨rfl, hb1⟩
    obtain ⟨⟨z0, z1, z2, z3, z4, z5⟩, _⟩ := (HL0.out.below hb1 HL0.out.lt).six
    have hbw := below_more HB1.out hb1
    clear hV hb1
    go_wp2
    go_ret
    exact Tells.no HQ.out hbw

set_option maxHeartbeats 16000000 in
set_option maxRecDepth 100000 in
theorem form_kind1 {ok : Nat → Prop} (lv : Nat) (_hlv : lv ≤ 16) (b : Bool) (q : Int) (t : List Nat) (ns : List (List Nat)) (l : List Jq.J) (names list : Value) (w : World) (h : IsJ w ok (jv 1 b q (strOf t) names list) (.mk 1 b q t ns l)) :
    Calls Tryd.prog 49 #[jv 1 b q (strOf t) names list, .int .i64 ((16 - lv : Nat) : Int)] w (Tells (Jq.Form lv (.mk 1 b q t ns l)) w) := by
  obtain ⟨nv, lvv, eqv, h1, h2, ht', hS', hns', hnl', hLL⟩ := h.parts
  injection eqv with eqv
  obtain ⟨-, -, -, -, en, el⟩ : _ ∧ _ ∧ _ ∧ _ ∧ _ ∧ _ := by simpa using eqv
  subst en el
  have hll : l.length * 88 ≤ 140737488355328 := by
    obtain ⟨_, _, _, h1, _⟩ := hLL
    exact h1
  have ht : t.length ≤ 140737488355328 ∧ ∀ y ∈ t, y < 256 := ht'
  have hS : SlIs w ok names ns.length (tcells ns) := hS'
  have hL : ListIs w ok list l := hLL
  have hns : ∀ p ∈ ns, p.length ≤ 140737488355328 ∧ ∀ y ∈ p, y < 256 := hns'
  have hnl : ns.length * 16 ≤ 140737488355328 := hnl'
  clear hLL eqv ht' hS' hns' hnl'
  obtain ⟨A1, c1, rfl⟩ := hS.form
  obtain ⟨A2, c2, rfl⟩ := hL.form
  have HB0 : Hid (∀ o, Below w.heap.size w (w.alloc o)) := fun o => (Below.refl _ _).alloc (Nat.le_refl _) o
  have NO : Hid (¬ Jq.Form lv (.mk 1 b q t ns l) → ∀ o, Tells (Jq.Form lv (.mk 1 b q t ns l)) w (.returned (.bool false)) (w.alloc o)) := fun hn o => Tells.no hn (HB0.out o)
  have HT := Lib.hid (str_empty t)
  have HV : Hid (∀ w', Calls Tryd.prog 59 #[.string (strOf t)] w' fun e w2 => e = .returned (.bool (Jq.valid t)) ∧ Below w'.heap.size w' w2) := fun w' => by
    have := refValid_any (strOf t) (by rw [strOf_size]; omega) w'
    rw [numsOf_strOf ht.2] at this
    exact this
  have hT := size_big t
  clear h
  -- kind 1
  by_cases hq : q = 0
  rotate_left
  · have d3 : (q != 0) = true := by rw [bne_iff_ne]; exact hq
    have HQ := Lib.hid (NO.out (fun h => by obtain ⟨f0, f5, fb, fi, ft, i1, i2, tl, tv, fp, fl, f4, fo⟩ := form_mk.1 h; exact hq (fi (by decide))))
    clear hS hL hns hnl hll hT HV
    go_enter Tryd.func49, Tryd.ntmps49
    go_wp2
    go_ret
    exact HQ.out _
  subst hq
  rcases HT.out with ⟨t1, t2, t3⟩ | ⟨t1, t2, t3⟩
  rotate_left
  · have T3 := Lib.hid t3
    clear t3
    have HQ := Lib.hid (NO.out (fun h => by obtain ⟨f0, f5, fb, fi, ft, i1, i2, tl, tv, fp, fl, f4, fo⟩ := form_mk.1 h; exact T3.out (ft (by decide))))
    clear hS hL hns hnl hll hT HV
    go_enter Tryd.func49, Tryd.ntmps49
    go_wp2
    go_ret
    exact HQ.out _
  subst t3
  have hV0 := fun w => valid_nil_any w
  have hE : strOf [] = { data := #[] } := rfl
  rw [hE] at *
  clear HT HV hT t1 t2
  have hl0 : Lies (w.alloc (.cells #[.int .i64 1, .bool b, .int .i64 0, .string { data := #[] }, .slice A1 ns.length c1, .slice A2 l.length c2] 28)) w.heap.size 28 [.int .i64 1, .bool b, .int .i64 0, .string { data := #[] }, .slice A1 ns.length c1, .slice A2 l.length c2] := Lies.new_ rfl
  have hV := hV0 (w.alloc (.cells #[.int .i64 1, .bool b, .int .i64 0, .string { data := #[] }, .slice A1 ns.length c1, .slice A2 l.length c2] 28))
  have HL0 := Lib.hid hl0
  have HB1 := Lib.hid (HB0.out (.cells #[.int .i64 1, .bool b, .int .i64 0, .string { data := #[] }, .slice A1 ns.length c1, .slice A2 l.length c2] 28))
  clear hl0
  have hN := len_zero ns
  have hM := len_zero l
  have HYES : Hid (ns = [] → l = [] → Jq.Form lv (.mk 1 b 0 [] ns l)) := fun e1 e2 => form_mk.2 ⟨by decide, by decide, fun h => absurd rfl h, fun _ => rfl, fun _ => rfl, (by decide), (by decide), Nat.zero_le _, rfl, fun _ => ⟨e1, e2⟩, fun h => absurd h (by decide), fun h => absurd h (by decide), fun h => absurd h (by decide)⟩
  have HNO1 : Hid (ns ≠ [] → ¬ Jq.Form lv (.mk 1 b 0 [] ns l)) := fun e h => by
    obtain ⟨_, _, _, _, _, _, _, _, _, fp, _⟩ := form_mk.1 h
    exact e (fp (show (1 : Int) < 4 by decide)).1
  have HNO2 : Hid (l ≠ [] → ¬ Jq.Form lv (.mk 1 b 0 [] ns l)) := fun e h => by
    obtain ⟨_, _, _, _, _, _, _, _, _, fp, _⟩ := form_mk.1 h
    exact e (fp (show (1 : Int) < 4 by decide)).2
  rcases hN with ⟨n1, n2⟩ | ⟨n1, n2⟩
  · rcases hM with ⟨m1, m2⟩ | ⟨m1, m2⟩
    · have HQ : Hid (Jq.Form lv (.mk 1 b 0 [] ns l)) := HYES.out n2 m2
      clear n2 m2 hS hL hns hnl hll hV0
      go_enter Tryd.func49, Tryd.ntmps49
      go_wp2_with fail
      refine hV.mono ?_
      rintro e w1 ⟨rfl, hb1⟩
      obtain ⟨⟨z0, z1, z2, z3, z4, z5⟩, _⟩ := (HL0.out.below hb1 HL0.out.lt).six
      have hbw := below_more HB1.out hb1
      clear hV hb1
      go_wp2
      go_ret
      exact Tells.yes HQ.out hbw
    · have HQ : Hid (¬ Jq.Form lv (.mk 1 b 0 [] ns l)) := HNO2.out m2
      clear n2 m2 hS hL hns hnl hll hV0
      go_enter Tryd.func49, Tryd.ntmps49
      go_wp2_with fail
      refine hV.mono ?_
      rintro e w1 ⟨rfl, hb1⟩
      obtain ⟨⟨z0, z1, z2, z3, z4, z5⟩, _⟩ := (HL0.out.below hb1 HL0.out.lt).six
      have hbw := below_more HB1.out hb1
      clear hV hb1
      go_wp2
      go_ret
      exact Tells.no HQ.out hbw
  · have HQ : Hid (¬ Jq.Form lv (.mk 1 b 0 [] ns l)) := HNO1.out n2
    clear n2 hM hS hL hns hnl hll hV0
    go_enter Tryd.func49, Tryd.ntmps49
    go_wp2_with fail
    refine hV.mono ?_
    rintro e w1 ⟨rfl, hb1⟩
    obtain ⟨⟨z0, z1, z2, z3, z4, z5⟩, _⟩ := (HL0.out.below hb1 HL0.out.lt).six
    have hbw := below_more HB1.out hb1
    clear hV hb1
    go_wp2
    go_ret
    exact Tells.no HQ.out hbw

set_option maxHeartbeats 16000000 in
set_option maxRecDepth 100000 in
theorem form_kind2 {ok : Nat → Prop} (lv : Nat) (_hlv : lv ≤ 16) (b : Bool) (q : Int) (t : List Nat) (ns : List (List Nat)) (l : List Jq.J) (names list : Value) (w : World) (h : IsJ w ok (jv 2 b q (strOf t) names list) (.mk 2 b q t ns l)) :
    Calls Tryd.prog 49 #[jv 2 b q (strOf t) names list, .int .i64 ((16 - lv : Nat) : Int)] w (Tells (Jq.Form lv (.mk 2 b q t ns l)) w) := by
  obtain ⟨nv, lvv, eqv, h1, h2, ht', hS', hns', hnl', hLL⟩ := h.parts
  injection eqv with eqv
  obtain ⟨-, -, -, -, en, el⟩ : _ ∧ _ ∧ _ ∧ _ ∧ _ ∧ _ := by simpa using eqv
  subst en el
  have hll : l.length * 88 ≤ 140737488355328 := by
    obtain ⟨_, _, _, h1, _⟩ := hLL
    exact h1
  have ht : t.length ≤ 140737488355328 ∧ ∀ y ∈ t, y < 256 := ht'
  have hS : SlIs w ok names ns.length (tcells ns) := hS'
  have hL : ListIs w ok list l := hLL
  have hns : ∀ p ∈ ns, p.length ≤ 140737488355328 ∧ ∀ y ∈ p, y < 256 := hns'
  have hnl : ns.length * 16 ≤ 140737488355328 := hnl'
  clear hLL eqv ht' hS' hns' hnl'
  obtain ⟨A1, c1, rfl⟩ := hS.form
  obtain ⟨A2, c2, rfl⟩ := hL.form
  have HB0 : Hid (∀ o, Below w.heap.size w (w.alloc o)) := fun o => (Below.refl _ _).alloc (Nat.le_refl _) o
  have NO : Hid (¬ Jq.Form lv (.mk 2 b q t ns l) → ∀ o, Tells (Jq.Form lv (.mk 2 b q t ns l)) w (.returned (.bool false)) (w.alloc o)) := fun hn o => Tells.no hn (HB0.out o)
  have HT := Lib.hid (str_empty t)
  have HV : Hid (∀ w', Calls Tryd.prog 59 #[.string (strOf t)] w' fun e w2 => e = .returned (.bool (Jq.valid t)) ∧ Below w'.heap.size w' w2) := fun w' => by
    have := refValid_any (strOf t) (by rw [strOf_size]; omega) w'
    rw [numsOf_strOf ht.2] at this
    exact this
  have hT := size_big t
  clear h
  -- kind 2
  cases b with
  | true =>
    have HQ := Lib.hid (NO.out (fun h => by obtain ⟨f0, f5, fb, fi, ft, i1, i2, tl, tv, fp, fl, f4, fo⟩ := form_mk.1 h; exact absurd (fb (by decide)) (by decide)))
    clear hS hL hns hnl hll hT HV
    go_enter Tryd.func49, Tryd.ntmps49
    go_wp2
    go_ret
    exact HQ.out _
  | false =>
  rcases HT.out with ⟨t1, t2, t3⟩ | ⟨t1, t2, t3⟩
  rotate_left
  · have T3 := Lib.hid t3
    clear t3
    have HQ := Lib.hid (NO.out (fun h => by obtain ⟨f0, f5, fb, fi, ft, i1, i2, tl, tv, fp, fl, f4, fo⟩ := form_mk.1 h; exact T3.out (ft (by decide))))
    clear hS hL hns hnl hll hT HV
    go_enter Tryd.func49, Tryd.ntmps49
    go_wp2
    go_ret
    exact HQ.out _
  subst t3
  have hV0 := fun w => valid_nil_any w
  have hE : strOf [] = { data := #[] } := rfl
  rw [hE] at *
  clear HT HV hT t1 t2
  by_cases hq : -9007199254740991 ≤ q ∧ q ≤ 9007199254740991
  rotate_left
  · have hdd : decide ((9007199254740991 : Int) < q) = true ∨ (decide ((9007199254740991 : Int) < q) = false ∧ decide (q < (-9007199254740991 : Int)) = true) := by
      by_cases h0 : (9007199254740991 : Int) < q
      · exact .inl (decide_eq_true h0)
      · exact .inr ⟨decide_eq_false h0, decide_eq_true (by omega)⟩
    have HQ := Lib.hid (NO.out (fun h => by obtain ⟨f0, f5, fb, fi, ft, i1, i2, _⟩ := form_mk.1 h; exact hq ⟨i2, i1⟩))
    clear hq hS hL hns hnl hll
    rcases hdd with d1 | ⟨d1, d2⟩
    all_goals
      go_enter Tryd.func49, Tryd.ntmps49
      go_wp2
      go_ret
      exact HQ.out _
  have HQB := Lib.hid hq
  have dq1 : decide ((9007199254740991 : Int) < q) = false := decide_eq_false (by omega)
  have dq2 : decide (q < (-9007199254740991 : Int)) = false := decide_eq_false (by omega)
  clear hq
  have hl0 : Lies (w.alloc (.cells #[.int .i64 2, .bool false, .int .i64 q, .string { data := #[] }, .slice A1 ns.length c1, .slice A2 l.length c2] 28)) w.heap.size 28 [.int .i64 2, .bool false, .int .i64 q, .string { data := #[] }, .slice A1 ns.length c1, .slice A2 l.length c2] := Lies.new_ rfl
  have hV := hV0 (w.alloc (.cells #[.int .i64 2, .bool false, .int .i64 q, .string { data := #[] }, .slice A1 ns.length c1, .slice A2 l.length c2] 28))
  have HL0 := Lib.hid hl0
  have HB1 := Lib.hid (HB0.out (.cells #[.int .i64 2, .bool false, .int .i64 q, .string { data := #[] }, .slice A1 ns.length c1, .slice A2 l.length c2] 28))
  clear hl0
  have hN := len_zero ns
  have hM := len_zero l
  have HYES : Hid (ns = [] → l = [] → Jq.Form lv (.mk 2 false q [] ns l)) := fun e1 e2 => form_mk.2 ⟨by decide, by decide, fun _ => rfl, fun h => absurd rfl h, fun _ => rfl, HQB.out.2, HQB.out.1, Nat.zero_le _, rfl, fun _ => ⟨e1, e2⟩, fun h => absurd h (by decide), fun h => absurd h (by decide), fun h => absurd h (by decide)⟩
  have HNO1 : Hid (ns ≠ [] → ¬ Jq.Form lv (.mk 2 false q [] ns l)) := fun e h => by
    obtain ⟨_, _, _, _, _, _, _, _, _, fp, _⟩ := form_mk.1 h
    exact e (fp (show (2 : Int) < 4 by decide)).1
  have HNO2 : Hid (l ≠ [] → ¬ Jq.Form lv (.mk 2 false q [] ns l)) := fun e h => by
    obtain ⟨_, _, _, _, _, _, _, _, _, fp, _⟩ := form_mk.1 h
    exact e (fp (show (2 : Int) < 4 by decide)).2
  rcases hN with ⟨n1, n2⟩ | ⟨n1, n2⟩
  · rcases hM with ⟨m1, m2⟩ | ⟨m1, m2⟩
    · have HQ : Hid (Jq.Form lv (.mk 2 false q [] ns l)) := HYES.out n2 m2
      clear n2 m2 hS hL hns hnl hll hV0
      go_enter Tryd.func49, Tryd.ntmps49
      go_wp2_with fail
      refine hV.mono ?_
      rintro e w1 ⟨rfl, hb1⟩
      obtain ⟨⟨z0, z1, z2, z3, z4, z5⟩, _⟩ := (HL0.out.below hb1 HL0.out.lt).six
      have hbw := below_more HB1.out hb1
      clear hV hb1
      go_wp2
      go_ret
      exact Tells.yes HQ.out hbw
    · have HQ : Hid (¬ Jq.Form lv (.mk 2 false q [] ns l)) := HNO2.out m2
      clear n2 m2 hS hL hns hnl hll hV0
      go_enter Tryd.func49, Tryd.ntmps49
      go_wp2_with fail
      refine hV.mono ?_
      rintro e w1 ⟨rfl, hb1⟩
      obtain ⟨⟨z0, z1, z2, z3, z4, z5⟩, _⟩ := (HL0.out.below hb1 HL0.out.lt).six
      have hbw := below_more HB1.out hb1
      clear hV hb1
      go_wp2
      go_ret
      exact Tells.no HQ.out hbw
  · have HQ : Hid (¬ Jq.Form lv (.mk 2 false q [] ns l)) := HNO1.out n2
    clear n2 hM hS hL hns hnl hll hV0
    go_enter Tryd.func49, Tryd.ntmps49
    go_wp2_with fail
    refine hV.mono ?_
    rintro e w1 ⟨rfl, hb1⟩
    obtain ⟨⟨z0, z1, z2, z3, z4, z5⟩, _⟩ := (HL0.out.below hb1 HL0.out.lt).six
    have hbw := below_more HB1.out hb1
    clear hV hb1
    go_wp2
    go_ret
    exact Tells.no HQ.out hbw

set_option maxHeartbeats 16000000 in
set_option maxRecDepth 100000 in
theorem form_kind3 {ok : Nat → Prop} (lv : Nat) (_hlv : lv ≤ 16) (b : Bool) (q : Int) (t : List Nat) (ns : List (List Nat)) (l : List Jq.J) (names list : Value) (w : World) (h : IsJ w ok (jv 3 b q (strOf t) names list) (.mk 3 b q t ns l)) :
    Calls Tryd.prog 49 #[jv 3 b q (strOf t) names list, .int .i64 ((16 - lv : Nat) : Int)] w (Tells (Jq.Form lv (.mk 3 b q t ns l)) w) := by
  obtain ⟨nv, lvv, eqv, h1, h2, ht', hS', hns', hnl', hLL⟩ := h.parts
  injection eqv with eqv
  obtain ⟨-, -, -, -, en, el⟩ : _ ∧ _ ∧ _ ∧ _ ∧ _ ∧ _ := by simpa using eqv
  subst en el
  have hll : l.length * 88 ≤ 140737488355328 := by
    obtain ⟨_, _, _, h1, _⟩ := hLL
    exact h1
  have ht : t.length ≤ 140737488355328 ∧ ∀ y ∈ t, y < 256 := ht'
  have hS : SlIs w ok names ns.length (tcells ns) := hS'
  have hL : ListIs w ok list l := hLL
  have hns : ∀ p ∈ ns, p.length ≤ 140737488355328 ∧ ∀ y ∈ p, y < 256 := hns'
  have hnl : ns.length * 16 ≤ 140737488355328 := hnl'
  clear hLL eqv ht' hS' hns' hnl'
  obtain ⟨A1, c1, rfl⟩ := hS.form
  obtain ⟨A2, c2, rfl⟩ := hL.form
  have HB0 : Hid (∀ o, Below w.heap.size w (w.alloc o)) := fun o => (Below.refl _ _).alloc (Nat.le_refl _) o
  have NO : Hid (¬ Jq.Form lv (.mk 3 b q t ns l) → ∀ o, Tells (Jq.Form lv (.mk 3 b q t ns l)) w (.returned (.bool false)) (w.alloc o)) := fun hn o => Tells.no hn (HB0.out o)
  have HT := Lib.hid (str_empty t)
  have HV : Hid (∀ w', Calls Tryd.prog 59 #[.string (strOf t)] w' fun e w2 => e = .returned (.bool (Jq.valid t)) ∧ Below w'.heap.size w' w2) := fun w' => by
    have := refValid_any (strOf t) (by rw [strOf_size]; omega) w'
    rw [numsOf_strOf ht.2] at this
    exact this
  have hT := size_big t
  clear h
  -- kind 3
  cases b with
  | true =>
    have HQ := Lib.hid (NO.out (fun h => by obtain ⟨f0, f5, fb, fi, ft, i1, i2, tl, tv, fp, fl, f4, fo⟩ := form_mk.1 h; exact absurd (fb (by decide)) (by decide)))
    clear hS hL hns hnl hll hT HV
    go_enter Tryd.func49, Tryd.ntmps49
    go_wp2
    go_ret
    exact HQ.out _
  | false =>
  by_cases hq : q = 0
  rotate_left
  · have d3 : (q != 0) = true := by rw [bne_iff_ne]; exact hq
    have HQ := Lib.hid (NO.out (fun h => by obtain ⟨f0, f5, fb, fi, ft, i1, i2, tl, tv, fp, fl, f4, fo⟩ := form_mk.1 h; exact hq (fi (by decide))))
    clear hS hL hns hnl hll hT HV
    go_enter Tryd.func49, Tryd.ntmps49
    go_wp2
    go_ret
    exact HQ.out _
  subst hq
  by_cases htl : 4096 < t.length
  · have d5 : decide ((4096 : Int) < ((strOf t).size : Int)) = true := decide_eq_true (by rw [hT]; omega)
    have HQ := Lib.hid (NO.out (fun h => by obtain ⟨f0, f5, fb, fi, ft, i1, i2, tl, tv, fp, fl, f4, fo⟩ := form_mk.1 h; have tl : t.length ≤ 4096 := tl; omega))
    clear hS hL hns hnl hll hT HV
    go_enter Tryd.func49, Tryd.ntmps49
    go_wp2
    go_ret
    exact HQ.out _
  have d5 : decide ((4096 : Int) < ((strOf t).size : Int)) = false := decide_eq_false (by rw [hT]; omega)
  have hV := HV.out (w.alloc (.cells #[.int .i64 3, .bool false, .int .i64 0, .string (strOf t), .slice A1 ns.length c1, .slice A2 l.length c2] 28))
  cases hv : Jq.valid t with
  | false =>
    rw [hv] at hV
    have HQ : Hid (¬ Jq.Form lv (.mk 3 false 0 t ns l)) := fun h => by
      obtain ⟨f0, f5, fb, fi, ft, i1, i2, tl, tv, _⟩ := form_mk.1 h
      have tv : Jq.valid t = true := tv
      rw [hv] at tv
      cases tv
    clear hv hS hL hns hnl hll hT HV HT
    go_enter Tryd.func49, Tryd.ntmps49
    go_wp2_with fail
    refine hV.mono ?_
    rintro e w1 ⟨rfl, hb1⟩
    have hbw := (HB0.out _).trans (hb1.mono (HB0.out _).size)
    clear hV hb1
    go_wp2
    go_ret
    exact Tells.no HQ.out hbw
  | true =>
  have hV0 := fun w => HV.out w
  rw [hv] at hV0
  have HVT := Lib.hid hv
  have HTL : Hid (t.length ≤ 4096) := by unfold Hid; omega
  clear hv hV HV HT hT htl
  have hl0 : Lies (w.alloc (.cells #[.int .i64 3, .bool false, .int .i64 0, .string (strOf t), .slice A1 ns.length c1, .slice A2 l.length c2] 28)) w.heap.size 28 [.int .i64 3, .bool false, .int .i64 0, .string (strOf t), .slice A1 ns.length c1, .slice A2 l.length c2] := Lies.new_ rfl
  have hV := hV0 (w.alloc (.cells #[.int .i64 3, .bool false, .int .i64 0, .string (strOf t), .slice A1 ns.length c1, .slice A2 l.length c2] 28))
  have HL0 := Lib.hid hl0
  have HB1 := Lib.hid (HB0.out (.cells #[.int .i64 3, .bool false, .int .i64 0, .string (strOf t), .slice A1 ns.length c1, .slice A2 l.length c2] 28))
  clear hl0
  have hN := len_zero ns
  have hM := len_zero l
  have HYES : Hid (ns = [] → l = [] → Jq.Form lv (.mk 3 false 0 t ns l)) := fun e1 e2 => form_mk.2 ⟨by decide, by decide, fun _ => rfl, fun _ => rfl, fun h => absurd rfl h, (by decide), (by decide), HTL.out, HVT.out, fun _ => ⟨e1, e2⟩, fun h => absurd h (by decide), fun h => absurd h (by decide), fun h => absurd h (by decide)⟩
  have HNO1 : Hid (ns ≠ [] → ¬ Jq.Form lv (.mk 3 false 0 t ns l)) := fun e h => by
    obtain ⟨_, _, _, _, _, _, _, _, _, fp, _⟩ := form_mk.1 h
    exact e (fp (show (3 : Int) < 4 by decide)).1
  have HNO2 : Hid (l ≠ [] → ¬ Jq.Form lv (.mk 3 false 0 t ns l)) := fun e h => by
    obtain ⟨_, _, _, _, _, _, _, _, _, fp, _⟩ := form_mk.1 h
    exact e (fp (show (3 : Int) < 4 by decide)).2
  rcases hN with ⟨n1, n2⟩ | ⟨n1, n2⟩
  · rcases hM with ⟨m1, m2⟩ | ⟨m1, m2⟩
    · have HQ : Hid (Jq.Form lv (.mk 3 false 0 t ns l)) := HYES.out n2 m2
      clear n2 m2 hS hL hns hnl hll hV0
      go_enter Tryd.func49, Tryd.ntmps49
      go_wp2_with fail
      refine hV.mono ?_
      rintro e w1 ⟨rfl, hb1⟩
      obtain ⟨⟨z0, z1, z2, z3, z4, z5⟩, _⟩ := (HL0.out.below hb1 HL0.out.lt).six
      have hbw := below_more HB1.out hb1
      clear hV hb1
      go_wp2
      go_ret
      exact Tells.yes HQ.out hbw
    · have HQ : Hid (¬ Jq.Form lv (.mk 3 false 0 t ns l)) := HNO2.out m2
      clear n2 m2 hS hL hns hnl hll hV0
      go_enter Tryd.func49, Tryd.ntmps49
      go_wp2_with fail
      refine hV.mono ?_
      rintro e w1 ⟨rfl, hb1⟩
      obtain ⟨⟨z0, z1, z2, z3, z4, z5⟩, _⟩ := (HL0.out.below hb1 HL0.out.lt).six
      have hbw := below_more HB1.out hb1
      clear hV hb1
      go_wp2
      go_ret
      exact Tells.no HQ.out hbw
  · have HQ : Hid (¬ Jq.Form lv (.mk 3 false 0 t ns l)) := HNO1.out n2
    clear n2 hM hS hL hns hnl hll hV0
    go_enter Tryd.func49, Tryd.ntmps49
    go_wp2_with fail
    refine hV.mono ?_
    rintro e w1 ⟨rfl, hb1⟩
    obtain ⟨⟨z0, z1, z2, z3, z4, z5⟩, _⟩ := (HL0.out.below hb1 HL0.out.lt).six
    have hbw := below_more HB1.out hb1
    clear hV hb1
    go_wp2
    go_ret
    exact Tells.no HQ.out hbw

end Go.Proofs.YtoocejcoaojaiaaDoor

/-
  The form of lists.
-/
namespace Go.Proofs.YtoocejcoaojaiaaDoor
open Go.RowKit

set_option maxHeartbeats 16000000 in
set_option maxRecDepth 100000 in
theorem form_kind4 {ok : Nat → Prop} (lv : Nat) (hlv : lv ≤ 16) (b : Bool) (q : Int) (t : List Nat) (ns : List (List Nat)) (l : List Jq.J) (names list : Value) (w : World) (h : IsJ w ok (jv 4 b q (strOf t) names list) (.mk 4 b q t ns l)) :
    Calls Tryd.prog 49 #[jv 4 b q (strOf t) names list, .int .i64 ((16 - lv : Nat) : Int)] w (Tells (Jq.Form lv (.mk 4 b q t ns l)) w) := by
  obtain ⟨nv, lvv, eqv, h1, h2, ht', hS', hns', hnl', hLL⟩ := h.parts
  injection eqv with eqv
  obtain ⟨-, -, -, -, en, el⟩ : _ ∧ _ ∧ _ ∧ _ ∧ _ ∧ _ := by simpa using eqv
  subst en el
  have hll : l.length * 88 ≤ 140737488355328 := by
    obtain ⟨_, _, _, h1, _⟩ := hLL
    exact h1
  have ht : t.length ≤ 140737488355328 ∧ ∀ y ∈ t, y < 256 := ht'
  have hS : SlIs w ok names ns.length (tcells ns) := hS'
  have hL : ListIs w ok list l := hLL
  have hns : ∀ p ∈ ns, p.length ≤ 140737488355328 ∧ ∀ y ∈ p, y < 256 := hns'
  have hnl : ns.length * 16 ≤ 140737488355328 := hnl'
  clear hLL eqv ht' hS' hns' hnl'
  obtain ⟨A1, c1, rfl⟩ := hS.form
  obtain ⟨A2, c2, rfl⟩ := hL.form
  have HB0 : Hid (∀ o, Below w.heap.size w (w.alloc o)) := fun o => (Below.refl _ _).alloc (Nat.le_refl _) o
  have NO : Hid (¬ Jq.Form lv (.mk 4 b q t ns l) → ∀ o, Tells (Jq.Form lv (.mk 4 b q t ns l)) w (.returned (.bool false)) (w.alloc o)) := fun hn o => Tells.no hn (HB0.out o)
  have HT := Lib.hid (str_empty t)
  have HV : Hid (∀ w', Calls Tryd.prog 59 #[.string (strOf t)] w' fun e w2 => e = .returned (.bool (Jq.valid t)) ∧ Below w'.heap.size w' w2) := fun w' => by
    have := refValid_any (strOf t) (by rw [strOf_size]; omega) w'
    rw [numsOf_strOf ht.2] at this
    exact this
  have hT := size_big t
  clear h
  -- kind 4
  cases b with
  | true =>
    have HQ := Lib.hid (NO.out (fun h => by obtain ⟨f0, f5, fb, fi, ft, i1, i2, tl, tv, fp, fl, f4, fo⟩ := form_mk.1 h; exact absurd (fb (by decide)) (by decide)))
    clear hS hL hns hnl hll hT HV
    go_enter Tryd.func49, Tryd.ntmps49
    go_wp2
    go_ret
    exact HQ.out _
  | false =>
  by_cases hq : q = 0
  rotate_left
  · have d3 : (q != 0) = true := by rw [bne_iff_ne]; exact hq
    have HQ := Lib.hid (NO.out (fun h => by obtain ⟨f0, f5, fb, fi, ft, i1, i2, tl, tv, fp, fl, f4, fo⟩ := form_mk.1 h; exact hq (fi (by decide))))
    clear hS hL hns hnl hll hT HV
    go_enter Tryd.func49, Tryd.ntmps49
    go_wp2
    go_ret
    exact HQ.out _
  subst hq
  rcases HT.out with ⟨t1, t2, t3⟩ | ⟨t1, t2, t3⟩
  rotate_left
  · have T3 := Lib.hid t3
    clear t3
    have HQ := Lib.hid (NO.out (fun h => by obtain ⟨f0, f5, fb, fi, ft, i1, i2, tl, tv, fp, fl, f4, fo⟩ := form_mk.1 h; exact T3.out (ft (by decide))))
    clear hS hL hns hnl hll hT HV
    go_enter Tryd.func49, Tryd.ntmps49
    go_wp2
    go_ret
    exact HQ.out _
  subst t3
  have hV0 := fun w => valid_nil_any w
  have hE : strOf [] = { data := #[] } := rfl
  rw [hE] at *
  clear HT HV hT t1 t2
  have hl0 : Lies (w.alloc (.cells #[.int .i64 4, .bool false, .int .i64 0, .string { data := #[] }, .slice A1 ns.length c1, .slice A2 l.length c2] 28)) w.heap.size 28 [.int .i64 4, .bool false, .int .i64 0, .string { data := #[] }, .slice A1 ns.length c1, .slice A2 l.length c2] := Lies.new_ rfl
  have hV := hV0 (w.alloc (.cells #[.int .i64 4, .bool false, .int .i64 0, .string { data := #[] }, .slice A1 ns.length c1, .slice A2 l.length c2] 28))
  have HL0 := Lib.hid hl0
  have HB1 := Lib.hid (HB0.out (.cells #[.int .i64 4, .bool false, .int .i64 0, .string { data := #[] }, .slice A1 ns.length c1, .slice A2 l.length c2] 28))
  clear hl0
  obtain ⟨D, eD⟩ : ∃ D : Int, ((16 - lv : Nat) : Int) = D := ⟨_, rfl⟩
  by_cases hbad : lv = 0 ∨ 4096 < l.length
  · have hdd : decide ((16 : Int) ≤ D) = true ∨ (decide ((16 : Int) ≤ D) = false ∧ decide ((4096 : Int) < (l.length : Int)) = true) := by
      by_cases h0 : (16 : Int) ≤ D
      · exact .inl (decide_eq_true h0)
      · exact .inr ⟨decide_eq_false h0, decide_eq_true (by omega)⟩
    have HQ : Hid (¬ Jq.Form lv (.mk 4 false 0 [] ns l)) := fun h => by
      obtain ⟨_, _, _, _, _, _, _, _, _, _, fl, _⟩ := form_mk.1 h
      have fl := fl (show (4 : Int) ≤ 4 by decide)
      have f2 : l.length ≤ 4096 := fl.2
      omega
    rw [eD]
    clear hbad eD hS hL hns hnl hll hV0 hlv
    rcases hdd with d1 | ⟨d1, d2⟩
    all_goals
      go_enter Tryd.func49, Tryd.ntmps49
      go_wp2_with fail
      refine hV.mono ?_
      rintro e w1 ⟨rfl, hb1⟩
      obtain ⟨⟨z0, z1, z2, z3, z4, z5⟩, _⟩ := (HL0.out.below hb1 HL0.out.lt).six
      have hbw := below_more HB1.out hb1
      clear hV hb1
      go_wp2
      go_ret
      exact Tells.no HQ.out hbw
  have d1 : decide ((16 : Int) ≤ D) = false := decide_eq_false (by omega)
  have d2 : decide ((4096 : Int) < (l.length : Int)) = false := decide_eq_false (by omega)
  have HLV : Hid (0 < lv ∧ l.length ≤ 4096) := by unfold Hid; omega
  rw [eD]
  clear hbad eD hlv
  have hN := len_zero ns
  rcases hN with ⟨n1, n2⟩ | ⟨n1, n2⟩
  · have HQ : Hid (Jq.Form lv (.mk 4 false 0 [] ns l)) := form_mk.2 ⟨by decide, by decide, fun _ => rfl, fun _ => rfl, fun _ => rfl, (by decide), (by decide), Nat.zero_le _, rfl, fun h => absurd h (by decide), fun _ => HLV.out, fun _ => n2, fun h => absurd h (by decide)⟩
    clear n2 hS hL hns hnl hll hV0
    go_enter Tryd.func49, Tryd.ntmps49
    go_wp2_with fail
    refine hV.mono ?_
    rintro e w1 ⟨rfl, hb1⟩
    obtain ⟨⟨z0, z1, z2, z3, z4, z5⟩, _⟩ := (HL0.out.below hb1 HL0.out.lt).six
    have hbw := below_more HB1.out hb1
    clear hV hb1
    go_wp2
    go_ret
    exact Tells.yes HQ.out hbw
  · have HQ : Hid (¬ Jq.Form lv (.mk 4 false 0 [] ns l)) := fun h => by
      obtain ⟨_, _, _, _, _, _, _, _, _, _, _, f4, _⟩ := form_mk.1 h
      exact n2 (f4 rfl)
    clear n2 hS hL hns hnl hll hV0
    go_enter Tryd.func49, Tryd.ntmps49
    go_wp2_with fail
    refine hV.mono ?_
    rintro e w1 ⟨rfl, hb1⟩
    obtain ⟨⟨z0, z1, z2, z3, z4, z5⟩, _⟩ := (HL0.out.below hb1 HL0.out.lt).six
    have hbw := below_more HB1.out hb1
    clear hV hb1
    go_wp2
    go_ret
    exact Tells.no HQ.out hbw

end Go.Proofs.YtoocejcoaojaiaaDoor

/-
  The form of objects.
-/
namespace Go.Proofs.YtoocejcoaojaiaaDoor
open Go.RowKit Go.Sort

set_option maxHeartbeats 16000000 in
set_option maxRecDepth 100000 in
theorem form_kind5 {ok : Nat → Prop} (lv : Nat) (hlv : lv ≤ 16) (b : Bool) (q : Int) (t : List Nat) (ns : List (List Nat)) (l : List Jq.J) (names list : Value) (w : World) (h : IsJ w ok (jv 5 b q (strOf t) names list) (.mk 5 b q t ns l)) :
    Calls Tryd.prog 49 #[jv 5 b q (strOf t) names list, .int .i64 ((16 - lv : Nat) : Int)] w (Tells (Jq.Form lv (.mk 5 b q t ns l)) w) := by
  obtain ⟨nv, lvv, eqv, h1, h2, ht', hS', hns', hnl', hLL⟩ := h.parts
  injection eqv with eqv
  obtain ⟨-, -, -, -, en, el⟩ : _ ∧ _ ∧ _ ∧ _ ∧ _ ∧ _ := by simpa using eqv
  subst en el
  have hll : l.length * 88 ≤ 140737488355328 := by
    obtain ⟨_, _, _, h1, _⟩ := hLL
    exact h1
  have ht : t.length ≤ 140737488355328 ∧ ∀ y ∈ t, y < 256 := ht'
  have hS : SlIs w ok names ns.length (tcells ns) := hS'
  have hL : ListIs w ok list l := hLL
  have hns : ∀ p ∈ ns, p.length ≤ 140737488355328 ∧ ∀ y ∈ p, y < 256 := hns'
  have hnl : ns.length * 16 ≤ 140737488355328 := hnl'
  clear hLL eqv ht' hS' hns' hnl'
  obtain ⟨A1, c1, rfl⟩ := hS.form
  obtain ⟨A2, c2, rfl⟩ := hL.form
  have HB0 : Hid (∀ o, Below w.heap.size w (w.alloc o)) := fun o => (Below.refl _ _).alloc (Nat.le_refl _) o
  have NO : Hid (¬ Jq.Form lv (.mk 5 b q t ns l) → ∀ o, Tells (Jq.Form lv (.mk 5 b q t ns l)) w (.returned (.bool false)) (w.alloc o)) := fun hn o => Tells.no hn (HB0.out o)
  have HT := Lib.hid (str_empty t)
  have HV : Hid (∀ w', Calls Tryd.prog 59 #[.string (strOf t)] w' fun e w2 => e = .returned (.bool (Jq.valid t)) ∧ Below w'.heap.size w' w2) := fun w' => by
    have := refValid_any (strOf t) (by rw [strOf_size]; omega) w'
    rw [numsOf_strOf ht.2] at this
    exact this
  have hT := size_big t
  clear h
  -- kind 5
  cases b with
  | true =>
    have HQ := Lib.hid (NO.out (fun h => by obtain ⟨f0, f5, fb, fi, ft, i1, i2, tl, tv, fp, fl, f4, fo⟩ := form_mk.1 h; exact absurd (fb (by decide)) (by decide)))
    clear hS hL hns hnl hll hT HV
    go_enter Tryd.func49, Tryd.ntmps49
    go_wp2
    go_ret
    exact HQ.out _
  | false =>
  by_cases hq : q = 0
  rotate_left
  · have d3 : (q != 0) = true := by rw [bne_iff_ne]; exact hq
    have HQ := Lib.hid (NO.out (fun h => by obtain ⟨f0, f5, fb, fi, ft, i1, i2, tl, tv, fp, fl, f4, fo⟩ := form_mk.1 h; exact hq (fi (by decide))))
    clear hS hL hns hnl hll hT HV
    go_enter Tryd.func49, Tryd.ntmps49
    go_wp2
    go_ret
    exact HQ.out _
  subst hq
  rcases HT.out with ⟨t1, t2, t3⟩ | ⟨t1, t2, t3⟩
  rotate_left
  · have T3 := Lib.hid t3
    clear t3
    have HQ := Lib.hid (NO.out (fun h => by obtain ⟨f0, f5, fb, fi, ft, i1, i2, tl, tv, fp, fl, f4, fo⟩ := form_mk.1 h; exact T3.out (ft (by decide))))
    clear hS hL hns hnl hll hT HV
    go_enter Tryd.func49, Tryd.ntmps49
    go_wp2
    go_ret
    exact HQ.out _
  subst t3
  have hV0 := fun w => valid_nil_any w
  have hE : strOf [] = { data := #[] } := rfl
  rw [hE] at *
  clear HT HV hT t1 t2
  have hl0 : Lies (w.alloc (.cells #[.int .i64 5, .bool false, .int .i64 0, .string { data := #[] }, .slice A1 ns.length c1, .slice A2 l.length c2] 28)) w.heap.size 28 [.int .i64 5, .bool false, .int .i64 0, .string { data := #[] }, .slice A1 ns.length c1, .slice A2 l.length c2] := Lies.new_ rfl
  have hV := hV0 (w.alloc (.cells #[.int .i64 5, .bool false, .int .i64 0, .string { data := #[] }, .slice A1 ns.length c1, .slice A2 l.length c2] 28))
  have HL0 := Lib.hid hl0
  have HB1 := Lib.hid (HB0.out (.cells #[.int .i64 5, .bool false, .int .i64 0, .string { data := #[] }, .slice A1 ns.length c1, .slice A2 l.length c2] 28))
  clear hl0
  obtain ⟨D, eD⟩ : ∃ D : Int, ((16 - lv : Nat) : Int) = D := ⟨_, rfl⟩
  by_cases hbad : lv = 0 ∨ 4096 < l.length
  · have hdd : decide ((16 : Int) ≤ D) = true ∨ (decide ((16 : Int) ≤ D) = false ∧ decide ((4096 : Int) < (l.length : Int)) = true) := by
      by_cases h0 : (16 : Int) ≤ D
      · exact .inl (decide_eq_true h0)
      · exact .inr ⟨decide_eq_false h0, decide_eq_true (by omega)⟩
    have HQ : Hid (¬ Jq.Form lv (.mk 5 false 0 [] ns l)) := fun h => by
      obtain ⟨_, _, _, _, _, _, _, _, _, _, fl, _⟩ := form_mk.1 h
      have fl := fl (show (4 : Int) ≤ 5 by decide)
      have f2 : l.length ≤ 4096 := fl.2
      omega
    rw [eD]
    clear hbad eD hS hL hns hnl hll hV0 hlv
    rcases hdd with d1 | ⟨d1, d2⟩
    all_goals
      go_enter Tryd.func49, Tryd.ntmps49
      go_wp2_with fail
      refine hV.mono ?_
      rintro e w1 ⟨rfl, hb1⟩
      obtain ⟨⟨z0, z1, z2, z3, z4, z5⟩, _⟩ := (HL0.out.below hb1 HL0.out.lt).six
      have hbw := below_more HB1.out hb1
      clear hV hb1
      go_wp2
      go_ret
      exact Tells.no HQ.out hbw
  have d1 : decide ((16 : Int) ≤ D) = false := decide_eq_false (by omega)
  have d2 : decide ((4096 : Int) < (l.length : Int)) = false := decide_eq_false (by omega)
  have HLV : Hid (0 < lv ∧ l.length ≤ 4096) := by unfold Hid; omega
  rw [eD]
  clear hbad eD hlv
  by_cases hNM : ns.length = l.length
  rotate_left
  · have d3 : ((ns.length : Int) != (l.length : Int)) = true := by rw [bne_iff_ne]; omega
    have HQ : Hid (¬ Jq.Form lv (.mk 5 false 0 [] ns l)) := fun h => by
      obtain ⟨_, _, _, _, _, _, _, _, _, _, _, _, fo⟩ := form_mk.1 h
      exact hNM (fo rfl).1
    clear hNM hS hL hns hnl hll hV0
    go_enter Tryd.func49, Tryd.ntmps49
    go_wp2_with fail
    refine hV.mono ?_
    rintro e w1 ⟨rfl, hb1⟩
    obtain ⟨⟨z0, z1, z2, z3, z4, z5⟩, _⟩ := (HL0.out.below hb1 HL0.out.lt).six
    have hbw := below_more HB1.out hb1
    clear hV hb1
    go_wp2
    go_ret
    exact Tells.no HQ.out hbw
  have HNM := Lib.hid hNM
  have HYES : Hid (NamesOk ns → Jq.Form lv (.mk 5 false 0 [] ns l)) := fun e => form_mk.2 ⟨by decide, by decide, fun _ => rfl, fun _ => rfl, fun _ => rfl, (by decide), (by decide), Nat.zero_le _, rfl, fun h => absurd h (by decide), fun _ => HLV.out, fun h => absurd h (by decide), fun _ => ⟨HNM.out, e⟩⟩
  have HNO : Hid (Jq.Form lv (.mk 5 false 0 [] ns l) → NamesOk ns) := fun h => by
    obtain ⟨_, _, _, _, _, _, _, _, _, _, _, _, fo⟩ := form_mk.1 h
    exact (fo rfl).2
  obtain ⟨N, eN⟩ : ∃ N, ns.length = N := ⟨_, rfl⟩
  have eM : l.length = N := by rw [← hNM, eN]
  have HN := Lib.hid eN
  rw [eN] at hS hnl
  rw [eN, eM]
  rw [eM] at d2
  rw [eN, eM] at hV HL0 HB1
  have HS := Lib.hid (hS.on HB1.out)
  have HNS := Lib.hid hns
  have hNs : N ≤ 4096 := by have := HLV.out; omega
  have d3 : ((N : Int) != (N : Int)) = false := by simp
  clear hNM eN eM hS hL hns hnl hll hV0
  go_enter Tryd.func49, Tryd.ntmps49
  go_wp2_with fail
  refine hV.mono ?_
  rintro e w1 ⟨rfl, hb1⟩
  obtain ⟨⟨z0, z1, z2, z3, z4, z5⟩, _⟩ := (HL0.out.below hb1 HL0.out.lt).six
  clear hV
  go_wp2_with fail
  go_loopw [5] (fun i wr => ∃ k : Nat, i = .int .i64 k ∧ k ≤ N ∧ Hid (NamesOk (ns.take k)) ∧ Below (w.alloc (.cells #[.int .i64 5, .bool false, .int .i64 0, .string { data := #[] }, .slice A1 N c1, .slice A2 N c2] 28)).heap.size (w.alloc (.cells #[.int .i64 5, .bool false, .int .i64 0, .string { data := #[] }, .slice A1 N c1, .slice A2 N c2] 28)) wr) (fun i _ => N - (intOf i).toNat)
  case atStart => exact ⟨0, rfl, Nat.zero_le _, Lib.hid ⟨(fun _ h => nomatch h), List.nodup_nil⟩, hb1⟩
  case round =>
    clear z0 z1 z2 z3 z4 z5
    obtain ⟨k, rfl, hk, hok, hb⟩ := hrel
    obtain ⟨⟨z0, z1, z2, z3, z4, z5⟩, _⟩ := (HL0.out.below hb HL0.out.lt).six
    by_cases hlt : k < N
    · obtain ⟨b, off, p, rfl, hbo, hblt, hc, hp, p0⟩ := slIs_text (HS.out.on hb) HN.out hlt
      have hS3 := slIs_take (HS.out.on hb) (Nat.le_of_lt hlt)
      have hpn := HNS.out p (List.mem_of_getElem? hp)
      have hVp := fun w' => refValid_any (strOf p) (by rw [strOf_size]; omega) w'
      rw [numsOf_strOf hpn.2] at hVp
      have hNm := fun w' (hs : SlIs w' ok (.slice (some ⟨b, off, none⟩) k c1) k (tcells (ns.take k))) => below_of_eq (named_any (ns.take k) p _ w' (by rw [List.length_take, HN.out, Nat.min_eq_left (Nat.le_of_lt hlt)]; exact hs) (by rw [List.length_take]; omega) (fun r hr => (HNS.out r (List.mem_of_mem_take hr)).2) hpn.2)
      have HTK : Hid (ns.take (k + 1) = ns.take k ++ [p]) := by
        obtain ⟨h1, h2⟩ := List.getElem?_eq_some_iff.1 hp
        unfold Hid
        rw [List.take_succ_eq_append_getElem h1, h2]
      have hTp := size_big p
      have hkc : (k : Int) ≤ (c1 : Int) := by omega
      have HK : Hid (∀ W, Below wr.heap.size wr W → W.cell? ⟨w.heap.size, 4, none⟩ = some (.slice (some ⟨b, off, none⟩) N c1) ∧ W.cell? ⟨b, off + k, none⟩ = some (.string (strOf p)) ∧ SlIs W ok (.slice (some ⟨b, off, none⟩) k c1) k (tcells (ns.take k)) ∧ Below wr.heap.size wr W) := fun W hbz => ⟨((HL0.out.below hb HL0.out.lt).below hbz (HL0.out.below hb HL0.out.lt).lt).six.1.2.2.2.2.1, (World.cell?_of_block (a := ⟨b, off + k, none⟩) (hbz.block b hblt)).trans p0, hS3.on hbz, hbz⟩
      have HP := Lib.hid hp
      obtain ⟨sA, sB, sC, hrf⟩ := HK.out wr (Below.refl _ _)
      clear z0 z1 z2 z3 z4 z5 hS3 hp hc hpn
      by_cases hpl : 4096 < p.length
      · have d5 : decide ((4096 : Int) < ((strOf p).size : Int)) = true := decide_eq_true (by rw [hTp]; omega)
        have HQ : Hid (¬ Jq.Form lv (.mk 5 false 0 [] ns l)) := fun h => by
          have := ((HNO.out h).1 p (List.mem_of_getElem? HP.out)).1
          omega
        clear hpl hTp
        go_upto_region 16 with (fail)
        go_quiet (fail)
        go_wp2
        go_ret
        exact Tells.no HQ.out (below_more HB1.out (hb.trans (drewN_below _ _)))
      have d5 : decide ((4096 : Int) < ((strOf p).size : Int)) = false := decide_eq_false (by rw [hTp]; omega)
      have HPL : Hid (p.length ≤ 4096) := by unfold Hid; omega
      cases hv : Jq.valid p with
      | false =>
        rw [hv] at hVp
        have HQ : Hid (¬ Jq.Form lv (.mk 5 false 0 [] ns l)) := fun h => by
          have := ((HNO.out h).1 p (List.mem_of_getElem? HP.out)).2
          rw [hv] at this
          cases this
        have kA := cell_regrown sA
        have kB := cell_regrown sB
        have cV : ∀ d os, Calls Tryd.prog 59 #[.string (strOf p)] (grow (redrawn wr d) os) fun e w2 => e = .returned (.bool false) ∧ ∃ r : Regrown, w2 = grow (redrawn wr r.d) r.os := fun d os => Calls.regrown_of (hVp _)
        have cN : ∀ d os, Calls Tryd.prog 60 #[.slice (some ⟨b, off, none⟩) k c1, .string (strOf p)] (grow (redrawn wr d) os) fun e w2 => e = .returned (.bool (decide (p ∈ ns.take k))) ∧ ∃ r : Regrown, w2 = grow (redrawn wr r.d) r.os := fun d os => Calls.regrown_of (hNm _ (sC.on (below_regrown wr d os)))
        clear hVp hNm
        clear hv hpl hTp
        go_upto_region 16 with (fail)
        refine wp_region_quiet_below (by kernel_rfl) (by kernel_rfl) ?_
        repeat (go_big_quiet_step (first | with_reducible exact cV _ _ | with_reducible exact cN _ _))
        refine wpQuiet_nil ?_
        intro w' hw'
        obtain ⟨⟨dq, osq⟩, hw''⟩ := hw'
        subst hw''
        have hfin := below_regrown wr dq osq
        all_goals
          have hb6 := below_more hb hfin
          clear cV cN kA kB
          go_wp2
          go_ret
          exact Tells.no HQ.out (below_more HB1.out hb6)
      | true =>
        rw [hv] at hVp
        by_cases hm : p ∈ ns.take k
        · rw [decide_eq_true hm] at hNm
          have HQ : Hid (¬ Jq.Form lv (.mk 5 false 0 [] ns l)) := fun h => nodup_take (HNO.out h).2 HP.out hm
          have kA := cell_regrown sA
          have kB := cell_regrown sB
          have cV : ∀ d os, Calls Tryd.prog 59 #[.string (strOf p)] (grow (redrawn wr d) os) fun e w2 => e = .returned (.bool true) ∧ ∃ r : Regrown, w2 = grow (redrawn wr r.d) r.os := fun d os => Calls.regrown_of (hVp _)
          have cN : ∀ d os, Calls Tryd.prog 60 #[.slice (some ⟨b, off, none⟩) k c1, .string (strOf p)] (grow (redrawn wr d) os) fun e w2 => e = .returned (.bool true) ∧ ∃ r : Regrown, w2 = grow (redrawn wr r.d) r.os := fun d os => Calls.regrown_of (hNm _ (sC.on (below_regrown wr d os)))
          clear hVp hNm
          clear hv hpl hTp hm
          go_upto_region 16 with (fail)
          refine wp_region_quiet_below (by kernel_rfl) (by kernel_rfl) ?_
          repeat (go_big_quiet_step (first | with_reducible exact cV _ _ | with_reducible exact cN _ _))
          refine wpQuiet_nil ?_
          intro w' hw'
          obtain ⟨⟨dq, osq⟩, hw''⟩ := hw'
          subst hw''
          have hfin := below_regrown wr dq osq
          all_goals
            have hb6 := below_more hb hfin
            clear cV cN kA kB
            go_wp2
            go_ret
            exact Tells.no HQ.out (below_more HB1.out hb6)
        · rw [decide_eq_false hm] at hNm
          have HOK2 : Hid (NamesOk (ns.take (k + 1))) := by unfold Hid; rw [HTK.out]; exact names_snoc hok.out HPL.out hv hm
          have kA := cell_regrown sA
          have kB := cell_regrown sB
          have cV : ∀ d os, Calls Tryd.prog 59 #[.string (strOf p)] (grow (redrawn wr d) os) fun e w2 => e = .returned (.bool true) ∧ ∃ r : Regrown, w2 = grow (redrawn wr r.d) r.os := fun d os => Calls.regrown_of (hVp _)
          have cN : ∀ d os, Calls Tryd.prog 60 #[.slice (some ⟨b, off, none⟩) k c1, .string (strOf p)] (grow (redrawn wr d) os) fun e w2 => e = .returned (.bool false) ∧ ∃ r : Regrown, w2 = grow (redrawn wr r.d) r.os := fun d os => Calls.regrown_of (hNm _ (sC.on (below_regrown wr d os)))
          clear hVp hNm
          clear hv hpl hTp hm
          go_upto_region 16 with (fail)
          refine wp_region_quiet_below (by kernel_rfl) (by kernel_rfl) ?_
          repeat (go_big_quiet_step (first | with_reducible exact cV _ _ | with_reducible exact cN _ _))
          refine wpQuiet_nil ?_
          intro w' hw'
          obtain ⟨⟨dq, osq⟩, hw''⟩ := hw'
          subst hw''
          have hfin := below_regrown wr dq osq
          all_goals
            have hb6 := below_more hb hfin
            clear cV cN kA kB
            go_wp2
            go_roundw
            case rel => exact ⟨k + 1, by go_num, hlt, HOK2, hb6⟩
            case measure => simp [intOf]; omega
    · obtain rfl : k = N := by omega
      have hd3 : decide ((k : Int) < (k : Int)) = false := by simp
      have HQ : Hid (Jq.Form lv (.mk 5 false 0 [] ns l)) := HYES.out (by
        have := hok.out
        rwa [List.take_of_length_le (by rw [HN.out]; exact Nat.le_refl _)] at this)
      go_wp2
      go_ret
      exact Tells.yes HQ.out (below_more HB1.out hb)

end Go.Proofs.YtoocejcoaojaiaaDoor

/-
  The form of any value.
-/
namespace Go.Proofs.YtoocejcoaojaiaaDoor
open Go.RowKit

set_option maxHeartbeats 16000000 in
set_option maxRecDepth 100000 in
theorem form_bad {ok : Nat → Prop} (lv : Nat) (_hlv : lv ≤ 16) (k : Int) (hk : ¬ (0 ≤ k ∧ k ≤ 5)) (b : Bool) (q : Int) (t : List Nat) (ns : List (List Nat)) (l : List Jq.J) (names list : Value) (w : World) (h : IsJ w ok (jv k b q (strOf t) names list) (.mk k b q t ns l)) :
    Calls Tryd.prog 49 #[jv k b q (strOf t) names list, .int .i64 ((16 - lv : Nat) : Int)] w (Tells (Jq.Form lv (.mk k b q t ns l)) w) := by
  obtain ⟨nv, lvv, eqv, h1, h2, ht', hS', hns', hnl', hLL⟩ := h.parts
  injection eqv with eqv
  obtain ⟨-, -, -, -, en, el⟩ : _ ∧ _ ∧ _ ∧ _ ∧ _ ∧ _ := by simpa using eqv
  subst en el
  have hll : l.length * 88 ≤ 140737488355328 := by
    obtain ⟨_, _, _, h1, _⟩ := hLL
    exact h1
  have ht : t.length ≤ 140737488355328 ∧ ∀ y ∈ t, y < 256 := ht'
  have hS : SlIs w ok names ns.length (tcells ns) := hS'
  have hL : ListIs w ok list l := hLL
  have hns : ∀ p ∈ ns, p.length ≤ 140737488355328 ∧ ∀ y ∈ p, y < 256 := hns'
  have hnl : ns.length * 16 ≤ 140737488355328 := hnl'
  clear hLL eqv ht' hS' hns' hnl'
  obtain ⟨A1, c1, rfl⟩ := hS.form
  obtain ⟨A2, c2, rfl⟩ := hL.form
  have HB0 : Hid (∀ o, Below w.heap.size w (w.alloc o)) := fun o => (Below.refl _ _).alloc (Nat.le_refl _) o
  have NO : Hid (¬ Jq.Form lv (.mk k b q t ns l) → ∀ o, Tells (Jq.Form lv (.mk k b q t ns l)) w (.returned (.bool false)) (w.alloc o)) := fun hn o => Tells.no hn (HB0.out o)
  have HT := Lib.hid (str_empty t)
  have HV : Hid (∀ w', Calls Tryd.prog 59 #[.string (strOf t)] w' fun e w2 => e = .returned (.bool (Jq.valid t)) ∧ Below w'.heap.size w' w2) := fun w' => by
    have := refValid_any (strOf t) (by rw [strOf_size]; omega) w'
    rw [numsOf_strOf ht.2] at this
    exact this
  have hT := size_big t
  clear h
  have hdd : decide (k < 0) = true ∨ (decide (k < 0) = false ∧ decide (5 < k) = true) := by
    by_cases h0 : k < 0
    · exact .inl (decide_eq_true h0)
    · exact .inr ⟨decide_eq_false h0, decide_eq_true (by omega)⟩
  have HQ := Lib.hid (NO.out (fun h => by obtain ⟨f0, f5, _⟩ := form_mk.1 h; exact hk ⟨f0, f5⟩))
  clear hk hS hL hns hnl hll hT HV
  rcases hdd with d1 | ⟨d1, d2⟩
  all_goals
    go_enter Tryd.func49, Tryd.ntmps49
    go_wp2
    go_ret
    exact HQ.out _

theorem form_any {ok : Nat → Prop} (lv : Nat) (hlv : lv ≤ 16) (v : Value) (x : Jq.J) (w : World) (h : IsJ w ok v x) :
    Calls Tryd.prog 49 #[v, .int .i64 ((16 - lv : Nat) : Int)] w (Tells (Jq.Form lv x) w) := by
  obtain ⟨k, b, q, t, ns, l⟩ := x
  obtain ⟨nv, lvv, rfl, _⟩ := h.parts
  by_cases hk : 0 ≤ k ∧ k ≤ 5
  · have hk6 : k = 0 ∨ k = 1 ∨ k = 2 ∨ k = 3 ∨ k = 4 ∨ k = 5 := by omega
    rcases hk6 with rfl | rfl | rfl | rfl | rfl | rfl
    · exact form_kind0 lv hlv b q t ns l nv lvv w h
    · exact form_kind1 lv hlv b q t ns l nv lvv w h
    · exact form_kind2 lv hlv b q t ns l nv lvv w h
    · exact form_kind3 lv hlv b q t ns l nv lvv w h
    · exact form_kind4 lv hlv b q t ns l nv lvv w h
    · exact form_kind5 lv hlv b q t ns l nv lvv w h
  · exact form_bad lv hlv k hk b q t ns l nv lvv w h
end Go.Proofs.YtoocejcoaojaiaaDoor
