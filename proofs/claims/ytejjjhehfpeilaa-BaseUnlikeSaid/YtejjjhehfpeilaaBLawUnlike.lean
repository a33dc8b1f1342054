/-
  The walk of the law BaseUnlike.
-/
import Derived.Test.YtejjjhehfpeilaaBAlive
import Derived.Lib.QuietBelow
namespace Go.Proofs.Ytejjjhehfpeilaa
open Go.RowKit Go.Sort

theorem enc_beq {p q : List Nat} (hp : ∀ x ∈ p, x < 256) (hq : ∀ x ∈ q, x < 256) : ((strOf (B64.enc p)).toList == (strOf (B64.enc q)).toList) = decide (p = q) := by
  rw [str_beq (B64.enc_lt p) (B64.enc_lt q), Bool.eq_iff_iff, decide_eq_true_iff, decide_eq_true_iff]
  exact ⟨B64.enc_one hp hq, fun h => by rw [h]⟩

set_option maxHeartbeats 400000 in
set_option maxRecDepth 100000 in
theorem lawUnlike (p q : List Nat) (A A' : Option Addr) (c c' : Nat) (w : World) (hp : ArgIs w A c p) (hq : ArgIs w A' c' q) (hnp : p.length ≤ 140737488351232) (hnq : q.length ≤ 140737488351232) :
    Calls Try.prog 9 #[.slice A p.length c, .slice A' q.length c'] w fun e w' => e = .returned (.bool true) ∧ Below w.heap.size w w' := by
  have cA : ∀ d os, Calls Try.prog 10 #[] (grow (redrawn w d) os) fun e w'' => e = .returned (.bool true) ∧ ∃ p : Regrown, w'' = grow (redrawn w p.d) p.os :=
    fun d os => Calls.regrown_of (alive_any _)
  have c1 : ∀ d os, Calls Try.prog 11 #[.slice A p.length c] (grow (redrawn w d) os) fun e w'' => e = .returned (.string (strOf (B64.enc p))) ∧ ∃ p : Regrown, w'' = grow (redrawn w p.d) p.os :=
    fun d os => Calls.regrown_of (encode_any p A c _ (hp.below (below_regrown w d os) (Nat.le_refl _)) (by omega))
  have c2 : ∀ d os, Calls Try.prog 11 #[.slice A' q.length c'] (grow (redrawn w d) os) fun e w'' => e = .returned (.string (strOf (B64.enc q))) ∧ ∃ p : Regrown, w'' = grow (redrawn w p.d) p.os :=
    fun d os => Calls.regrown_of (encode_any q A' c' _ (hq.below (below_regrown w d os) (Nat.le_refl _)) (by omega))
  have v1 : ∀ d os, (convert 22 9 (.slice A p.length c)).run Try.prog (grow (redrawn w d) os) = .ok (.string (strOf p)) (grow (redrawn w d) os) :=
    fun d os => conv_str (hp.below (below_regrown w d os) (Nat.le_refl _))
  have v2 : ∀ d os, (convert 22 9 (.slice A' q.length c')).run Try.prog (grow (redrawn w d) os) = .ok (.string (strOf q)) (grow (redrawn w d) os) :=
    fun d os => conv_str (hq.below (below_regrown w d os) (Nat.le_refl _))
  obtain ⟨l, hl⟩ : ∃ l, p.length = l := ⟨_, rfl⟩
  obtain ⟨m, hm⟩ : ∃ m, q.length = m := ⟨_, rfl⟩
  have hst1 := enc_beq hp.2.2.1 hq.2.2.1
  have hst2 := str_beq hp.2.2.1 hq.2.2.1
  obtain ⟨S, hS⟩ : ∃ S, strOf (B64.enc p) = S := ⟨_, rfl⟩
  obtain ⟨T, hT⟩ : ∃ T, strOf (B64.enc q) = T := ⟨_, rfl⟩
  obtain ⟨s, hs⟩ : ∃ s, strOf p = s := ⟨_, rfl⟩
  obtain ⟨t, ht⟩ : ∃ t, strOf q = t := ⟨_, rfl⟩
  obtain ⟨b, hb⟩ : ∃ b, decide (p = q) = b := ⟨_, rfl⟩
  rw [hS] at c1
  rw [hT] at c2
  rw [hs] at v1
  rw [ht] at v2
  rw [hS, hT, hb] at hst1
  rw [hs, ht, hb] at hst2
  rw [hl] at v1 c1 ⊢
  rw [hm] at v2 c2 ⊢
  clear hs ht hS hT hl hm hp hq hb
  cases b
  all_goals
    go_enter Try.func9, Try.ntmps9
    go_upto_region 1 with (fail)
    refine wp_region_quiet_below (by kernel_rfl) (by kernel_rfl) ?_
    repeat (quiet_step (first | with_reducible exact cA _ _ | with_reducible exact c1 _ _ | with_reducible exact c2 _ _))
    refine wpQuiet_nil ?_
    intro w' hw'
    obtain ⟨⟨dq, osq⟩, hw''⟩ := hw'
    subst hw''
    go_wp2
    go_ret
    exact ⟨rfl, below_regrown w dq osq⟩
end Go.Proofs.Ytejjjhehfpeilaa
