/-
  The document's form: can a value be, as far as its own fields say?
-/
import Derived.Test.YtndkangfnojpoaaGreatDoorJRValid
import Derived.Test.YtndkangfnojpoaaGreatDoorQS
import Derived.Deep.RegionHeld3
namespace Go.Proofs.YtndkangfnojpoaaGreatDoor
open Go.RowKit

theorem form_mk {n : Nat} {k : Int} {b : Bool} {i : Int} {t : List Nat} {ns : List (List Nat)} {l : List Jq.J} : Jq.Form n (.mk k b i t ns l) ↔ (0 ≤ k ∧ k ≤ 5 ∧ (k ≠ 1 → b = false) ∧ (k ≠ 2 → i = 0) ∧ (k ≠ 3 → t = []) ∧ i ≤ 9007199254740991 ∧ -9007199254740991 ≤ i ∧ t.length ≤ 4096 ∧ Jq.valid t = true ∧
    (k < 4 → ns = [] ∧ l = []) ∧ (4 ≤ k → 0 < n ∧ l.length ≤ 4096) ∧ (k = 4 → ns = []) ∧ (k = 5 → ns.length = l.length ∧ (∀ t ∈ ns, t.length ≤ 4096 ∧ Jq.valid t = true) ∧ ns.Nodup)) := Iff.rfl
theorem valid_nil_any (w : World) : Calls Tryz.prog 71 #[.string { data := #[] }] w fun e w' => e = .returned (.bool true) ∧ Below w.heap.size w w' := refValid_any { data := #[] } (by decide) w
theorem size_big (t : List Nat) : ((strOf t).size : Int) = (t.length : Int) := by rw [strOf_size]
/-- Names under way: all so far are right, and no two are the same. -/
def NamesOk (ns : List (List Nat)) : Prop := (∀ t ∈ ns, t.length ≤ 4096 ∧ Jq.valid t = true) ∧ ns.Nodup
theorem names_snoc {ns : List (List Nat)} {t : List Nat} (h : NamesOk ns) (h1 : t.length ≤ 4096) (h2 : Jq.valid t = true) (h3 : t ∉ ns) : NamesOk (ns ++ [t]) := by
  refine ⟨fun p hp => ?_, ?_⟩
  · rcases List.mem_append.1 hp with hp | hp
    · exact h.1 p hp
    · rw [List.mem_singleton.1 hp]; exact ⟨h1, h2⟩
  · rw [List.nodup_append]
    refine ⟨h.2, by simp, fun a ha b hb => ?_⟩
    rw [List.mem_singleton.1 hb]
    exact fun e => h3 (e ▸ ha)
theorem nodup_take {ns : List (List Nat)} {i : Nat} {t : List Nat} (h : ns.Nodup) (hi : ns[i]? = some t) : t ∉ ns.take i := fun hm => by
  obtain ⟨hl, e⟩ := List.getElem?_eq_some_iff.1 hi
  have h2 : (ns.take i ++ ns.drop i).Nodup := by rw [List.take_append_drop]; exact h
  rw [List.nodup_append] at h2
  refine h2.2.2 t hm t ?_ rfl
  rw [List.drop_eq_getElem_cons hl, e]
  simp
theorem below_of_eq {w : World} {f : FuncId} {args : Array Value} {b : Bool} (h : Calls Tryz.prog f args w fun e w' => e = .returned (.bool b) ∧ w = w') : Calls Tryz.prog f args w fun e w' => e = .returned (.bool b) ∧ Below w.heap.size w w' :=
  h.mono fun _ _ ⟨he, hw⟩ => ⟨he, by rw [← hw]; exact Below.refl _ _⟩

end Go.Proofs.YtndkangfnojpoaaGreatDoor
