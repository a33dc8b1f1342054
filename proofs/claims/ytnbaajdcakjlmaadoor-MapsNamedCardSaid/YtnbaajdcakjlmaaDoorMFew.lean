/-
  The law package's few: what it says of rules.
-/
import Derived.Test.YtnbaajdcakjlmaaDoorML
namespace Go.Proofs.YtnbaajdcakjlmaaDoor
open Go.RowKit

/-- Few rules with few nodes. -/
def Few (rs : List Zq.Rl) : Prop := rs.length ≤ 60 ∧ ∀ r ∈ rs, r.expr.length ≤ 200 ∧ r.cond.length ≤ 200
/-- A bool; if it is true there are few. -/
def FewE (rs : List Zq.Rl) (w : World) (e : Ending) (w' : World) : Prop := (∃ r : Bool, e = .returned (.bool r) ∧ (r = true → Few rs)) ∧ Below w.heap.size w w'
def FewTo (rs : List Zq.Rl) (k : Nat) : Prop := ∀ (j : Nat) r, j < k → rs[j]? = some r → r.expr.length ≤ 200 ∧ r.cond.length ≤ 200
theorem FewTo.succ {rs : List Zq.Rl} {k : Nat} {r : Zq.Rl} (h : FewTo rs k) (hr : rs[k]? = some r) (h1 : r.expr.length ≤ 200 ∧ r.cond.length ≤ 200) : FewTo rs (k + 1) := fun j q hj hq => by
  rcases Nat.lt_or_eq_of_le (Nat.le_of_lt_succ hj) with h' | h'
  · exact h j q h' hq
  · subst h'
    rw [hr] at hq
    injection hq with hq
    rw [← hq]; exact h1
theorem FewTo.all {rs : List Zq.Rl} {n : Nat} (hn : rs.length = n) (h60 : n ≤ 60) (h : FewTo rs n) : Few rs := ⟨by omega, fun r hr => by
  obtain ⟨j, hj⟩ := List.getElem?_of_mem hr
  exact h j r (by have := (List.getElem?_eq_some_iff.1 hj).1; omega) hj⟩
set_option maxHeartbeats 2000000 in
set_option maxRecDepth 100000 in
theorem fewM_any {ok : Nat → Prop} (rs : List Zq.Rl) (A : Option Addr) (n c : Nat) (w : World) (hR : RsE w ok (.slice A n c) rs) (hn : rs.length = n) :
    Calls Tryd.prog 13 #[.slice A n c] w (FewE rs w) := by
  have HR := Lib.hid hR
  have HN := Lib.hid hn
  clear hR hn
  by_cases h60 : 60 < n
  · have d : decide ((60 : Int) < (n : Int)) = true := decide_eq_true (by omega)
    clear h60
    go_enter Tryd.func13, Tryd.ntmps13
    go_wp2
    go_ret
    exact ⟨⟨false, rfl, fun h => by cases h⟩, Below.refl _ _⟩
  have d : decide ((60 : Int) < (n : Int)) = false := decide_eq_false (by omega)
  go_enter Tryd.func13, Tryd.ntmps13
  go_wp2_with fail
  go_loopw [10] (fun i wr => ∃ k : Nat, i = .int .i64 k ∧ k ≤ n ∧ Hid (FewTo rs k) ∧ Below w.heap.size w wr) (fun i _ => n - (intOf i).toNat)
  case atStart => exact ⟨0, rfl, Nat.zero_le _, fun j r h => absurd h (Nat.not_lt_zero _), Below.refl _ _⟩
  case round =>
    obtain ⟨k, rfl, hk, HF, hb⟩ := hrel
    by_cases hlt : k < n
    · obtain ⟨bl, off, r, E1, ec, E2, cc, rfl, _, _, hx, _, s0, s1, s2⟩ := (HR.out.more hb).elem (i := k) (by rw [HN.out]; exact hlt)
      have HX := Lib.hid hx
      have HB : Hid (∀ o, Below w.heap.size w (wr.alloc o)) := fun o => below_alloc hb o
      obtain ⟨N1, e1⟩ : ∃ N1, r.expr.length = N1 := ⟨_, rfl⟩
      obtain ⟨N2, e2⟩ : ∃ N2, r.cond.length = N2 := ⟨_, rfl⟩
      have H1 := Lib.hid e1
      have H2 := Lib.hid e2
      rw [e1] at s1
      rw [e2] at s2
      clear hx hb e1 e2
      by_cases h1 : 200 < N1
      · have d1 : decide ((200 : Int) < (N1 : Int)) = true := decide_eq_true (by omega)
        clear h1
        go_wp2
        go_ret
        exact ⟨⟨false, rfl, fun h => by cases h⟩, HB.out _⟩
      have d1 : decide ((200 : Int) < (N1 : Int)) = false := decide_eq_false (by omega)
      by_cases h2 : 200 < N2
      · have d2 : decide ((200 : Int) < (N2 : Int)) = true := decide_eq_true (by omega)
        clear h2
        go_wp2
        go_ret
        exact ⟨⟨false, rfl, fun h => by cases h⟩, HB.out _⟩
      have d2 : decide ((200 : Int) < (N2 : Int)) = false := decide_eq_false (by omega)
      have HQ : Hid (∀ o, ∃ k' : Nat, Value.int .i64 ((k + 1 : Nat) : Int) = .int .i64 k' ∧ k' ≤ n ∧ Hid (FewTo rs k') ∧ Below w.heap.size w (wr.alloc o)) := fun o => ⟨k + 1, rfl, hlt, HF.out.succ HX.out ⟨by rw [H1.out]; omega, by rw [H2.out]; omega⟩, HB.out o⟩
      go_wp2
      go_roundw
      case rel => exact HQ.out _
      case measure => simp [intOf]; omega
    · obtain rfl : k = n := by omega
      have hd : decide ((k : Int) < (k : Int)) = false := by simp
      have HQ : Hid (FewE rs w (.returned (.bool true)) wr) := ⟨⟨true, rfl, fun _ => HF.out.all HN.out (by omega)⟩, hb⟩
      clear hb
      go_wp2
      go_ret
      exact HQ.out
def RuleB (r : Zq.Rl) : Prop := r.name.length ≤ 140737488355328 ∧ NodesOk r.expr ∧ NodesOk r.cond
theorem Few.rules {rs : List Zq.Rl} (h : Few rs) (hB : ∀ r ∈ rs, r.name.length ≤ 140737488355328 ∧ NodesOk r.expr ∧ NodesOk r.cond) : ∀ r ∈ rs, RuleM r := fun r hr => by
  obtain ⟨h1, h2⟩ := h.2 r hr
  obtain ⟨g1, g2, g3⟩ := hB r hr
  exact ⟨g1, ⟨by omega, by omega⟩, g2, g3⟩
end Go.Proofs.YtnbaajdcakjlmaaDoor
