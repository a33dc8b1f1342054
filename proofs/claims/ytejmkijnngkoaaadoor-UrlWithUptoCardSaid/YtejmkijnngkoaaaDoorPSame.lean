/-
  The contract of the document's Same.
-/
import Derived.Test.YtejmkijnngkoaaaDoorPParse
import Derived.Laws.StructEq
namespace Go.Proofs.YtejmkijnngkoaaaDoor
open Go.RowKit

theorem ext_at {L M : List (List Nat × List Nat)} {n : Nat} (hL : L.length = n) (hM : M.length = n) {k : Nat} (hk : k < n) (h : L.take k = M.take k) (hp : L.getD k ([], []) = M.getD k ([], [])) : L.take (k + 1) = M.take (k + 1) := by
  rw [List.take_succ_eq_append_getElem (by omega), List.take_succ_eq_append_getElem (by omega), h]
  rw [List.getD_eq_getElem?_getD, List.getElem?_eq_getElem (by omega), List.getD_eq_getElem?_getD, List.getElem?_eq_getElem (by omega)] at hp
  have hp' : L[k] = M[k] := by simpa using hp
  rw [hp']
theorem below_drewN {B : Nat} {w w' : World} (h : Below B w w') (n : Nat) : Below B w (w'.drewN n) := ⟨h.os, h.tape, h.output, h.size, h.block⟩
theorem neq_pair (a b a' b' : ByteArray) (w : World) : (binOp .neq 34 (.agg #[.string a, .string b]) (.agg #[.string a', .string b'])).run Tryd.prog w = .ok (.bool (!(a.toList == a'.toList && b.toList == b'.toList))) w := by
  have hS : Tryd.prog.underlying 34 = some (.struct (Tryd.prog.fieldsOf 34)) := by kernel_rfl
  have hp : Tryd.prog.stoodInHeld 34 = false := by kernel_rfl
  have u9 := Tryd.underlying9
  have a9 := Tryd.isAgg9
  have z9 := Tryd.sizeOf9
  rw [run_neq_struct, show (10000 : Nat) = 9999 + 1 from rfl, run_equalIn_agg w 9999 34 _ _ hS hp]
  simp only [Program.fieldsOf, Tryd.underlying34]
  go_simp
  by_cases h1 : a.toList = a'.toList <;> by_cases h2 : b.toList = b'.toList <;> simp [h1, h2]
theorem guard_pair : Tryd.prog.eqGuardType Tryd.prog.depth 34 = false := by kernel_rfl
theorem neq_pairs {p q : List Nat × List Nat} (hp : (∀ x ∈ p.1, x < 256) ∧ ∀ x ∈ p.2, x < 256) (hq : (∀ x ∈ q.1, x < 256) ∧ ∀ x ∈ q.2, x < 256) (w : World) :
    (binOp .neq 34 (.agg #[.string (strOf p.1), .string (strOf p.2)]) (.agg #[.string (strOf q.1), .string (strOf q.2)])).run Tryd.prog w = .ok (.bool (!decide (p = q))) w := by
  rw [neq_pair, str_beq hp.1 hq.1, str_beq hp.2 hq.2, ← Bool.decide_and]
  congr 3
  exact decide_eq_decide.2 Prod.ext_iff.symm

set_option maxHeartbeats 2000000 in
set_option maxRecDepth 100000 in
theorem same_any (L M : List (List Nat × List Nat)) (A B : Option Addr) (cA cB : Nat) (w : World) (hA : Row w A (pcells L)) (hB : Row w B (pcells M)) (hL : Pq.Fine L) (hM : Pq.Fine M) (hn : L.length ≤ 1048576) :
    Calls Tryd.prog 17 #[.slice A L.length cA, .slice B M.length cB] w fun e w' => e = .returned (.bool (decide (L = M))) ∧ Below w.heap.size w w' := by
  by_cases hlen : L.length = M.length
  · obtain ⟨n, en⟩ : ∃ n, L.length = n := ⟨_, rfl⟩
    have em : M.length = n := by rw [← hlen, en]
    have Hn := Lib.hid en
    have Hm := Lib.hid em
    rw [en, em]
    rw [en] at hn
    have hd : ((n : Int) != (n : Int)) = false := by simp
    clear en em hlen
    go_enter Tryd.func17, Tryd.ntmps17
    go_wp2_with fail
    go_loopw [5] (fun i wr => ∃ k : Nat, i = .int .i64 k ∧ k ≤ n ∧ L.take k = M.take k ∧ Below w.heap.size w wr) (fun i _ => n - (intOf i).toNat)
    case atStart => exact ⟨0, rfl, Nat.zero_le _, rfl, Below.refl _ _⟩
    case round =>
      obtain ⟨k, rfl, hk, he, hb⟩ := hrel
      have He := Lib.hid he
      clear he
      by_cases hlt : k < n
      · obtain ⟨b, off, rfl, hbw, c0, c1⟩ := (hA.below hb (Nat.le_refl _)).pair (by rw [Hn.out]; exact hlt)
        obtain ⟨b', off', rfl, hbw', d0, d1⟩ := (hB.below hb (Nat.le_refl _)).pair (by rw [Hm.out]; exact hlt)
        have HE := Lib.hid (fun hp => ext_at Hn.out Hm.out hlt He.out hp)
        have hLk := getD_lt hL k
        have hMk := getD_lt hM k
        have HLk := Lib.hid hLk
        have HMk := Lib.hid hMk
        obtain ⟨p, ep⟩ : ∃ p, L.getD k ([], []) = p := ⟨_, rfl⟩
        obtain ⟨q, eq⟩ : ∃ q, M.getD k ([], []) = q := ⟨_, rfl⟩
        rw [ep] at c0 c1
        rw [eq] at d0 d1
        rw [ep, eq] at HE
        rw [ep] at hLk
        rw [eq] at hMk
        have hneq := neq_pairs hLk hMk
        have HP := Lib.hid ep
        have HQ := Lib.hid eq
        have hgd := guard_pair
        clear hA hB hLk hMk ep eq
        by_cases hpq : p = q
        · rw [decide_eq_true hpq] at hneq
          have HE' := Lib.hid (HE.out hpq)
          clear hpq HE
          go_upto_region 6 with (fail)
          go_quiet (fail)
          go_wp2
          go_roundw
          case rel => exact ⟨k + 1, by go_num, by omega, HE'.out, below_drewN hb nq⟩
          case measure => simp [intOf]; omega
        · rw [decide_eq_false hpq] at hneq
          have HE' : Hid (L ≠ M) := fun h => by
            subst h
            exact hpq (HP.out.symm.trans HQ.out)
          clear hpq HE
          go_upto_region 6 with (fail)
          go_quiet (fail)
          go_wp2
          go_ret
          exact ⟨by rw [decide_eq_false HE'.out]; rfl, below_drewN hb nq⟩
      · obtain rfl : k = n := by omega
        have hd3 : decide ((k : Int) < (k : Int)) = false := by simp
        have HE : Hid (L = M) := by
          have := He.out
          rwa [List.take_of_length_le (by rw [Hn.out]; exact Nat.le_refl _), List.take_of_length_le (by rw [Hm.out]; exact Nat.le_refl _)] at this
        go_wp2
        go_ret
        exact ⟨by rw [decide_eq_true HE.out]; rfl, hb⟩
  · have hd : ((L.length : Int) != (M.length : Int)) = true := by simp; omega
    have HE : Hid (L ≠ M) := fun h => hlen (by rw [h])
    obtain ⟨n, en⟩ : ∃ n, L.length = n := ⟨_, rfl⟩
    obtain ⟨m, em⟩ : ∃ m, M.length = m := ⟨_, rfl⟩
    rw [en, em] at hd ⊢
    rw [en] at hn
    clear en em hlen
    go_enter Tryd.func17, Tryd.ntmps17
    go_wp2
    go_ret
    exact ⟨by rw [decide_eq_false HE.out]; rfl, Below.refl _ _⟩
end Go.Proofs.YtejmkijnngkoaaaDoor
