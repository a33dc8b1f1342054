/-
  The form of any value.
-/
import Derived.Test.YtndkangfnojpoaaGreatDoorJFormA
import Derived.Test.YtndkangfnojpoaaGreatDoorJFormB
import Derived.Test.YtndkangfnojpoaaGreatDoorJFormC
namespace Go.Proofs.YtndkangfnojpoaaGreatDoor
open Go.RowKit

set_option maxHeartbeats 16000000 in
set_option maxRecDepth 100000 in
theorem form_bad {ok : Nat → Prop} (lv : Nat) (_hlv : lv ≤ 16) (k : Int) (hk : ¬ (0 ≤ k ∧ k ≤ 5)) (b : Bool) (q : Int) (t : List Nat) (ns : List (List Nat)) (l : List Jq.J) (names list : Value) (w : World) (h : IsJ w ok (jv k b q (strOf t) names list) (.mk k b q t ns l)) :
    Calls Tryz.prog 53 #[jv k b q (strOf t) names list, .int .i64 ((16 - lv : Nat) : Int)] w (Tells (Jq.Form lv (.mk k b q t ns l)) w) := by
  obtain ⟨nv, lvv, eqv, h1, h2, ht', hS', hns', hnl', hLL⟩ := h.parts
  injection eqv with eqv
  obtain ⟨-, -, -, -, en, el⟩ : _ ∧ _ ∧ _ ∧ _ ∧ _ ∧ _ := by simpa using eqv
  subst en el
  have hll : l.length * 88 ≤ 140737488355328 := by
    obtain ⟨_, _, _, h1, _⟩ := hLL
    exact h1
  have ht : t.length ≤ 140737488355328 ∧ ∀ y ∈ t, y < 256 := ht'
  have hS : SlIs w ok names ns.length (tcells ns) := hS'
  have hL : ListIs w ok list l := hLL
  have hns : ∀ p ∈ ns, p.length ≤ 140737488355328 ∧ ∀ y ∈ p, y < 256 := hns'
  have hnl : ns.length * 16 ≤ 140737488355328 := hnl'
  clear hLL eqv ht' hS' hns' hnl'
  obtain ⟨A1, c1, rfl⟩ := hS.form
  obtain ⟨A2, c2, rfl⟩ := hL.form
  have HB0 : Hid (∀ o, Below w.heap.size w (w.alloc o)) := fun o => (Below.refl _ _).alloc (Nat.le_refl _) o
  have NO : Hid (¬ Jq.Form lv (.mk k b q t ns l) → ∀ o, Tells (Jq.Form lv (.mk k b q t ns l)) w (.returned (.bool false)) (w.alloc o)) := fun hn o => Tells.no hn (HB0.out o)
  have HT := Lib.hid (str_empty t)
  have HV : Hid (∀ w', Calls Tryz.prog 71 #[.string (strOf t)] w' fun e w2 => e = .returned (.bool (Jq.valid t)) ∧ Below w'.heap.size w' w2) := fun w' => by
    have := refValid_any (strOf t) (by rw [strOf_size]; omega) w'
    rw [numsOf_strOf ht.2] at this
    exact this
  have hT := size_big t
  clear h
  have hdd : decide (k < 0) = true ∨ (decide (k < 0) = false ∧ decide (5 < k) = true) := by
    by_cases h0 : k < 0
    · exact .inl (decide_eq_true h0)
    · exact .inr ⟨decide_eq_false h0, decide_eq_true (by omega)⟩
  have HQ := Lib.hid (NO.out (fun h => by obtain ⟨f0, f5, _⟩ := form_mk.1 h; exact hk ⟨f0, f5⟩))
  clear hk hS hL hns hnl hll hT HV
  rcases hdd with d1 | ⟨d1, d2⟩
  all_goals
    go_enter Tryz.func53, Tryz.ntmps53
    go_wp2
    go_ret
    exact HQ.out _

theorem form_any {ok : Nat → Prop} (lv : Nat) (hlv : lv ≤ 16) (v : Value) (x : Jq.J) (w : World) (h : IsJ w ok v x) :
    Calls Tryz.prog 53 #[v, .int .i64 ((16 - lv : Nat) : Int)] w (Tells (Jq.Form lv x) w) := by
  obtain ⟨k, b, q, t, ns, l⟩ := x
  obtain ⟨nv, lvv, rfl, _⟩ := h.parts
  by_cases hk : 0 ≤ k ∧ k ≤ 5
  · have hk6 : k = 0 ∨ k = 1 ∨ k = 2 ∨ k = 3 ∨ k = 4 ∨ k = 5 := by omega
    rcases hk6 with rfl | rfl | rfl | rfl | rfl | rfl
    · exact form_kind0 lv hlv b q t ns l nv lvv w h
    · exact form_kind1 lv hlv b q t ns l nv lvv w h
    · exact form_kind2 lv hlv b q t ns l nv lvv w h
    · exact form_kind3 lv hlv b q t ns l nv lvv w h
    · exact form_kind4 lv hlv b q t ns l nv lvv w h
    · exact form_kind5 lv hlv b q t ns l nv lvv w h
  · exact form_bad lv hlv k hk b q t ns l nv lvv w h
end Go.Proofs.YtndkangfnojpoaaGreatDoor
