/-
  The walk of the law DigestSame.
-/
import Derived.Test.YtkfhfokeoieajaaDoorAlive
import Derived.Lib.QuietBelow
import Derived.Laws.BytesArg
namespace Go.Proofs.YtkfhfokeoieajaaDoor
open Go.RowKit Go.Sort

/-- The text that bytes are. -/
def strOf (q : List Nat) : ByteArray := strOfNums (q.map fun (x : Nat) => (x : Int))

theorem conv_any {w : World} {A : Option Addr} {c : Nat} {q : List Nat} (h : ArgIs w A c q) (src e dst : TypeId) (hs : Tryd.prog.underlying src = some (.slice e)) (he : Tryd.prog.underlying e = some (.int .u8)) (hd : Tryd.prog.underlying dst = some .string) :
    (convert src dst (.slice A q.length c)).run Tryd.prog w = .ok (.string (strOf q)) w := by
  rcases Nat.eq_zero_or_pos q.length with h0 | h0
  · obtain rfl : q = [] := List.eq_nil_of_length_eq_zero h0
    cases A with
    | none => exact run_convert_bytes_nil w src e hs he 0 c dst hd
    | some a =>
      rw [run_convert_bytes_string w src dst e _ _ c hs he hd]
      exact run_bytesToString w a 0 c [] (by
        have := run_loadCells_list (P := Tryd.prog) w a [] (fun j v hj => by simp at hj)
        simpa using this)
  · obtain ⟨b, off, rfl, _, hby⟩ := h.2.2.2 h0
    refine run_convert_bytes_arg w src e hs he b off q.length c _ (by simp) (fun i hi => ?_) dst hd
    rw [hby.get hi]
    simp [List.getElem?_eq_getElem hi]

theorem strOf_inj {p q : List Nat} (hp : ∀ x ∈ p, x < 256) (hq : ∀ x ∈ q, x < 256) (h : strOf p = strOf q) : p = q := by
  have h1 : (strOf p).data.toList = (strOf q).data.toList := by rw [h]
  simp only [strOf, strOfNums, List.map_map] at h1
  have h2 := congrArg (List.map fun u : UInt8 => u.toNat) h1
  have back : ∀ l : List Nat, (∀ x ∈ l, x < 256) → List.map (fun u : UInt8 => u.toNat) (List.map ((fun n => UInt8.ofNat (Int.toNat n)) ∘ fun (x : Nat) => (x : Int)) l) = l := by
    intro l hl
    rw [List.map_map]
    conv => rhs; rw [← List.map_id l]
    apply List.map_congr_left
    intro x hx
    have := hl x hx
    simp [Nat.mod_eq_of_lt this]
  rw [back p hp, back q hq] at h2
  exact h2

set_option maxHeartbeats 400000 in
set_option maxRecDepth 100000 in
theorem lawSame (p q : List Nat) (A A' : Option Addr) (c c' : Nat) (w : World) (hT : Tab w) (hp : ArgIs w A c p) (hq : ArgIs w A' c' q) :
    Calls Tryd.prog 5 #[.slice A p.length c, .slice A' q.length c'] w fun e w' => e = .returned (.bool true) ∧ Below w.heap.size w w' := by
  have cA : ∀ d os, Calls Tryd.prog 9 #[] (grow (redrawn w d) os) fun e w'' => e = .returned (.bool true) ∧ ∃ p : Regrown, w'' = grow (redrawn w p.d) p.os :=
    fun d os => Calls.regrown_of (alive_any _ (hT.below (below_regrown w d os) hT.lt))
  have cP : ∀ d os, Calls Tryd.prog 14 #[.slice A p.length c, .slice A p.length c] (grow (redrawn w d) os) fun e w'' => e = .returned (.bool true) ∧ ∃ p : Regrown, w'' = grow (redrawn w p.d) p.os :=
    fun d os => Calls.regrown_of ((same_any p p A A c c _ (hp.below (below_regrown w d os) (Nat.le_refl _)) (hp.below (below_regrown w d os) (Nat.le_refl _))).mono fun e w'' ⟨he, k, hk⟩ => ⟨by rw [he]; simp, by rw [hk]; exact below_drewN (Below.refl _ _) k⟩)
  have v1 : ∀ d os, (convert 22 9 (.slice A p.length c)).run Tryd.prog (grow (redrawn w d) os) = .ok (.string (strOf p)) (grow (redrawn w d) os) :=
    fun d os => conv_any (hp.below (below_regrown w d os) (Nat.le_refl _)) _ 5 _ Tryd.underlying22 Tryd.underlying5 Tryd.underlying9
  have v2 : ∀ d os, (convert 22 9 (.slice A' q.length c')).run Tryd.prog (grow (redrawn w d) os) = .ok (.string (strOf q)) (grow (redrawn w d) os) :=
    fun d os => conv_any (hq.below (below_regrown w d os) (Nat.le_refl _)) _ 5 _ Tryd.underlying22 Tryd.underlying5 Tryd.underlying9
  obtain ⟨l, hl⟩ : ∃ l, p.length = l := ⟨_, rfl⟩
  obtain ⟨m, hm⟩ : ∃ m, q.length = m := ⟨_, rfl⟩
  have cS0 : ∀ d os, Calls Tryd.prog 14 #[.slice A p.length c, .slice A' q.length c'] (grow (redrawn w d) os) fun e w'' => e = .returned (.bool (decide (p = q))) ∧ ∃ p : Regrown, w'' = grow (redrawn w p.d) p.os :=
    fun d os => Calls.regrown_of ((same_any p q A A' c c' _ (hp.below (below_regrown w d os) (Nat.le_refl _)) (hq.below (below_regrown w d os) (Nat.le_refl _))).mono fun e w'' ⟨he, k, hk⟩ => ⟨he, by rw [hk]; exact below_drewN (Below.refl _ _) k⟩)
  have hst : ((strOf p).toList == (strOf q).toList) = decide (p = q) := by
    rw [Bool.eq_iff_iff, beq_iff_eq, decide_eq_true_iff, ByteArray.toList_eq, ByteArray.toList_eq]
    refine ⟨fun h => strOf_inj hp.2.2.1 hq.2.2.1 ?_, fun h => by rw [h]⟩
    have : (strOf p).data = (strOf q).data := Array.toList_inj.1 h
    exact ByteArray.ext this
  obtain ⟨s, hs⟩ : ∃ s, strOf p = s := ⟨_, rfl⟩
  obtain ⟨t, ht⟩ : ∃ t, strOf q = t := ⟨_, rfl⟩
  rw [hs] at v1 hst
  rw [ht] at v2 hst
  rw [hl] at v1 cS0 cP ⊢
  rw [hm] at v2 cS0 ⊢
  obtain ⟨b, hb⟩ : ∃ b, decide (p = q) = b := ⟨_, rfl⟩
  rw [hb] at cS0 hst
  clear hs ht hl hm hp hq hb
  have cS := cS0
  clear cS0
  cases b
  · go_enter Tryd.func5, Tryd.ntmps5
    go_upto_region 1 with (fail)
    refine wp_region_quiet_below (by kernel_rfl) (by kernel_rfl) ?_
    repeat (quiet_step (first | with_reducible exact cA _ _ | with_reducible exact cS _ _ | with_reducible exact cP _ _))
    refine wpQuiet_nil ?_
    intro w' hw'
    obtain ⟨⟨dq, osq⟩, hw''⟩ := hw'
    subst hw''
    go_wp2
    go_ret
    exact ⟨rfl, below_regrown w dq osq⟩
  · go_enter Tryd.func5, Tryd.ntmps5
    go_upto_region 1 with (fail)
    refine wp_region_quiet_below (by kernel_rfl) (by kernel_rfl) ?_
    repeat (quiet_step (first | with_reducible exact cA _ _ | with_reducible exact cS _ _ | with_reducible exact cP _ _))
    refine wpQuiet_nil ?_
    intro w' hw'
    obtain ⟨⟨dq, osq⟩, hw''⟩ := hw'
    subst hw''
    go_wp2
    go_ret
    exact ⟨rfl, below_regrown w dq osq⟩
end Go.Proofs.YtkfhfokeoieajaaDoor
