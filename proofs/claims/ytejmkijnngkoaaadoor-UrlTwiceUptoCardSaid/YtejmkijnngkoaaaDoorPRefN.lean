/-
  The contract of the document's Print.
-/
import Derived.Test.YtejmkijnngkoaaaDoorPPrint
import Derived.Test.YtejmkijnngkoaaaDoorPRefE
import Derived.Deep.RegionHeld3
namespace Go.Proofs.YtejmkijnngkoaaaDoor
open Go.RowKit

theorem refEscape_of (q : List Nat) (hq : ∀ x ∈ q, x < 256) (hl : q.length ≤ 4194304) (w : World) :
    Calls Tryd.prog 49 #[.string (strOf q)] w fun e w' => e = .returned (.string (strOf (Pq.es q))) ∧ Below w.heap.size w w' := by
  have h := refEscape_any (strOf q) w (by rw [strOf_size]; exact hl)
  rwa [numsOf_strOf hq] at h

theorem print_len {L : List (List Nat × List Nat)} (h : Short L) : (Pq.print L).length ≤ L.length * 6291458 := by
  induction L with
  | nil => simp [Pq.print_nil]
  | cons p L ih =>
    have hp := h p (by simp)
    have h1 := Pq.es_length p.1
    have h2 := Pq.es_length p.2
    have hl : (Pq.pr1 p).length ≤ 6291457 := by unfold Pq.pr1; rw [List.length_append, List.length_cons]; omega
    cases L with
    | nil => rw [Pq.print_one]; simp; omega
    | cons q L =>
      have := ih fun x hx => h x (List.mem_cons_of_mem _ hx)
      rw [Pq.print_cons, List.length_append, List.length_cons]
      simp only [List.length_cons] at this ⊢
      omega
theorem print_first {L : List (List Nat × List Nat)} {p : List Nat × List Nat} (h : 0 < L.length) (hp : L.getD 0 ([], []) = p) : Pq.print (L.take 1) = Pq.pr1 p := by
  rw [List.take_succ_eq_append_getElem h, List.take_zero, List.nil_append, Pq.print_one, ← hp]
  simp [List.getD_eq_getElem?_getD, List.getElem?_eq_getElem h]
theorem print_next {L : List (List Nat × List Nat)} {p : List Nat × List Nat} {k : Nat} (hk : 0 < k) (h : k < L.length) (hp : L.getD k ([], []) = p) : Pq.print (L.take (k + 1)) = Pq.print (L.take k) ++ 38 :: Pq.pr1 p := by
  have e : L[k] = p := by rw [← hp]; simp [List.getD_eq_getElem?_getD, List.getElem?_eq_getElem h]
  rw [List.take_succ_eq_append_getElem h, Pq.print_snoc _ _ (by
    intro h0
    have := congrArg List.length h0
    rw [List.length_take, List.length_nil] at this
    omega), e]

def RefNRel (L : List (List Nat × List Nat)) (n : Nat) (w : World) (s i : Value) (wr : World) : Prop :=
  ∃ (k : Nat) (X : ByteArray), i = .int .i64 k ∧ k ≤ n ∧ s = .string X ∧ X = strOf (Pq.print (L.take k)) ∧ Below w.heap.size w wr

theorem below_drew {B : Nat} {w w' : World} (h : Below B w w') : Below B w w'.drew := ⟨h.os, h.tape, h.output, h.size, h.block⟩

set_option maxHeartbeats 4000000 in
set_option maxRecDepth 100000 in
theorem refPrint_any (L : List (List Nat × List Nat)) (A : Option Addr) (c : Nat) (w : World) (hA : Row w A (pcells L)) (hL : Pq.Fine L) (hS : Short L) (hn : L.length ≤ 1048576) :
    Calls Tryd.prog 29 #[.slice A L.length c] w fun e w' => e = .returned (.string (strOf (Pq.print L))) ∧ Below w.heap.size w w' := by
  obtain ⟨n, en⟩ : ∃ n, L.length = n := ⟨_, rfl⟩
  have Hn := Lib.hid en
  rw [en] at hn ⊢
  clear en
  go_enter Tryd.func29, Tryd.ntmps29
  go_wp2_with fail
  go_loopw [3, 4] (fun s i wr => RefNRel L n w s i wr) (fun _ i _ => n - (intOf i).toNat)
  case atStart => exact ⟨0, _, rfl, Nat.zero_le _, rfl, rfl, Below.refl _ _⟩
  case round =>
    obtain ⟨k, X, rfl, hk, rfl, hX, hb⟩ := hrel
    by_cases hlt : k < n
    · obtain ⟨b, off, rfl, hbw, c0, c1⟩ := hA.pair (i := k) (by rw [Hn.out]; exact hlt)
      have hE1 := fun w => refEscape_of _ (getD_lt hL k).1 (by have := (getD_short hS k).1; omega) w
      have hE2 := fun w => refEscape_of _ (getD_lt hL k).2 (by have := (getD_short hS k).2; omega) w
      obtain ⟨p, ep⟩ : ∃ p, L.getD k ([], []) = p := ⟨_, rfl⟩
      have Hp := Lib.hid ep
      have HSh := Lib.hid (getD_short hS)
      rw [ep] at c0 c1 hE1 hE2
      have HPr := Lib.hid (pr1_str p)
      have z1 : (strOf (Pq.es p.1)).size ≤ 12582912 := by
        have h1 := Pq.es_length p.1
        have h2 := (HSh.out k).1
        rw [Hp.out] at h2
        rw [strOf_size]; omega
      have z2 : (strOf (Pq.es p.2)).size ≤ 12582912 := by
        have h1 := Pq.es_length p.2
        have h2 := (HSh.out k).2
        rw [Hp.out] at h2
        rw [strOf_size]; omega
      have z0 : X.size ≤ 6597071896576 := by
        rw [hX, strOf_size]
        have h1 := print_len (L := L.take k) (fun q hq => hS q (List.mem_of_mem_take hq))
        rw [List.length_take] at h1
        have h2 : min k L.length ≤ 1048576 := by rw [Hn.out]; omega
        have h3 := Nat.mul_le_mul_right 6291458 h2
        omega
      obtain ⟨E1, e1⟩ : ∃ E, strOf (Pq.es p.1) = E := ⟨_, rfl⟩
      obtain ⟨E2, e2⟩ : ∃ E, strOf (Pq.es p.2) = E := ⟨_, rfl⟩
      rw [e1] at hE1 HPr z1
      rw [e2] at hE2 HPr z2
      have HX := Lib.hid hX
      have HK : Hid (∀ W, Below w.heap.size w W → W.cell? ⟨b, off + k * 2, none⟩ = some (.string (strOf p.1)) ∧ W.cell? ⟨b, off + k * 2 + 1, none⟩ = some (.string (strOf p.2))) := fun W hW => ⟨(hW.cell (p := ⟨b, off + k * 2, none⟩) hbw).trans c0, (hW.cell (p := ⟨b, off + k * 2 + 1, none⟩) hbw).trans c1⟩
      obtain ⟨k0, k1⟩ := HK.out _ hb
      clear e1 e2 ep hA c0 c1 hX
      by_cases h0 : 0 < k
      · have hd : decide ((0 : Int) < (k : Int)) = true := decide_eq_true (by omega)
        have HR : Hid ((((X ++ { data := #[38] }) ++ E1) ++ { data := #[61] }) ++ E2 = strOf (Pq.print (L.take (k + 1)))) := by
          unfold Hid
          have e38 : strOf (38 :: Pq.pr1 p) = { data := #[38] } ++ strOf (Pq.pr1 p) := by rw [show ({ data := #[38] } : ByteArray) = strOf [38] from rfl, strOf_append]; rfl
          rw [print_next h0 (by rw [Hn.out]; exact hlt) Hp.out, HX.out, ← strOf_append, e38, ← HPr.out]
          simp only [ByteArray.append_assoc]
        have y0 : (X ++ { data := #[38] }).size = X.size + 1 := by rw [ByteArray.size_append]; rfl
        go_upto_region 7 with (fail)
        obtain ⟨Y, eY⟩ : ∃ Y, X ++ { data := #[38] } = Y := ⟨_, rfl⟩
        rw [eY] at HR y0 ⊢
        clear eY
        have y00 : Y.size ≤ 6597071896577 := by omega
        clear y0
        have y1 : ¬ 9223372036854775807 < Y.size + E1.size := by omega
        have y2 : ¬ 9223372036854775807 < Y.size + E1.size + 1 := by omega
        have y3 : ¬ 9223372036854775807 < Y.size + E1.size + 1 + E2.size := by omega
        go_region_held3 (fun W => W.cell? ⟨b, off + k * 2, none⟩ = some (.string (strOf p.1)) ∧ W.cell? ⟨b, off + k * 2 + 1, none⟩ = some (.string (strOf p.2)) ∧ Below w.heap.size w W)
          (first
            | (go_split_ands; have hbz := (by assumption : Below w.heap.size w _).trans (hba.mono (by assumption : Below w.heap.size w _).size); exact ⟨(HK.out _ hbz).1, (HK.out _ hbz).2, hbz⟩)
            | (go_split_ands; have hbz := below_drew (by assumption : Below w.heap.size w _); exact ⟨(HK.out _ hbz).1, (HK.out _ hbz).2, hbz⟩)
            | go_keep)
          (first
            | (go_at_call 49; with_reducible refine (hE1 _).mono ?_; rintro e wa ⟨rfl, hba⟩)
            | (go_at_call 49; with_reducible refine (hE2 _).mono ?_; rintro e wa ⟨rfl, hba⟩))
        all_goals
          go_split_ands
          have hfin : Below w.heap.size w wa := by assumption
          go_wp2
          go_roundw
          case rel => exact ⟨k + 1, _, by go_num, by omega, rfl, HR.out, hfin⟩
          case measure => simp [intOf]; omega
      · have hd : decide ((0 : Int) < (k : Int)) = false := decide_eq_false (by omega)
        have HR : Hid (((X ++ E1) ++ { data := #[61] }) ++ E2 = strOf (Pq.print (L.take (k + 1)))) := by
          unfold Hid
          obtain rfl : k = 0 := by omega
          rw [print_first (by rw [Hn.out]; exact hlt) Hp.out, ← HPr.out, HX.out]
          simp only [ByteArray.append_assoc]
          rw [show strOf (Pq.print (L.take 0)) = ByteArray.empty from rfl, ByteArray.empty_append]
        go_upto_region 7 with (fail)
        have y1 : ¬ 9223372036854775807 < X.size + E1.size := by omega
        have y2 : ¬ 9223372036854775807 < X.size + E1.size + 1 := by omega
        have y3 : ¬ 9223372036854775807 < X.size + E1.size + 1 + E2.size := by omega
        go_region_held3 (fun W => W.cell? ⟨b, off + k * 2, none⟩ = some (.string (strOf p.1)) ∧ W.cell? ⟨b, off + k * 2 + 1, none⟩ = some (.string (strOf p.2)) ∧ Below w.heap.size w W)
          (first
            | (go_split_ands; have hbz := (by assumption : Below w.heap.size w _).trans (hba.mono (by assumption : Below w.heap.size w _).size); exact ⟨(HK.out _ hbz).1, (HK.out _ hbz).2, hbz⟩)
            | (go_split_ands; have hbz := below_drew (by assumption : Below w.heap.size w _); exact ⟨(HK.out _ hbz).1, (HK.out _ hbz).2, hbz⟩)
            | go_keep)
          (first
            | (go_at_call 49; with_reducible refine (hE1 _).mono ?_; rintro e wa ⟨rfl, hba⟩)
            | (go_at_call 49; with_reducible refine (hE2 _).mono ?_; rintro e wa ⟨rfl, hba⟩))
        all_goals
          go_split_ands
          have hfin : Below w.heap.size w wa := by assumption
          go_wp2
          go_roundw
          case rel => exact ⟨k + 1, _, by go_num, by omega, rfl, HR.out, hfin⟩
          case measure => simp [intOf]; omega
    · obtain rfl : k = n := by omega
      have hd : decide ((k : Int) < (k : Int)) = false := by simp
      rw [List.take_of_length_le (by rw [Hn.out]; exact Nat.le_refl _)] at hX
      have HX := Lib.hid hX
      clear hX hA
      go_wp2
      go_ret
      exact ⟨by rw [← HX.out]; rfl, hb⟩
end Go.Proofs.YtejmkijnngkoaaaDoor
