/-
  The contracts of keyGroup, masked, sumBehind and Mac.
-/
import Derived.Test.YtkfhfokeoieajaaDoorSum
import Derived.Deep.RegionHeld3
namespace Go.Proofs.YtkfhfokeoieajaaDoor
open Go.RowKit

namespace Sha
/-- A key that fills one group. -/
def keyG (k : List Nat) : List Nat := (if 64 < k.length then sum k else k) ++ List.replicate (64 - (if 64 < k.length then sum k else k).length) 0
def mask (k : List Nat) (m : Nat) : List Nat := k.map (· ^^^ m)
def mac (k b : List Nat) : List Nat := sum (mask (keyG k) 92 ++ sum (mask (keyG k) 54 ++ b))
theorem keyG_length (k : List Nat) : (keyG k).length = 64 := by
  unfold keyG
  split
  · simp [sum_length]
  · simp; omega
theorem be_lt (k n : Nat) : ∀ x ∈ be n k, x < 256 := by
  induction k generalizing n with
  | zero => intro x hx; simp [be] at hx
  | succ k ih =>
    intro x hx
    simp only [be, List.mem_append, List.mem_cons, List.not_mem_nil, or_false] at hx
    rcases hx with hx | hx
    · exact ih _ x hx
    · omega
theorem sum_lt (p : List Nat) : ∀ x ∈ sum p, x < 256 := by
  intro x hx
  obtain ⟨w, _, hw⟩ := List.mem_flatMap.1 hx
  exact be_lt _ _ x hw
theorem keyG_lt (k : List Nat) (hk : ∀ x ∈ k, x < 256) : ∀ x ∈ keyG k, x < 256 := by
  intro x hx
  unfold keyG at hx
  rcases List.mem_append.1 hx with hx | hx
  · split at hx
    · exact sum_lt k x hx
    · exact hk x hx
  · have := List.eq_of_mem_replicate hx; omega
theorem mask_length (k : List Nat) (m : Nat) : (mask k m).length = k.length := by simp [mask]
theorem mask_lt (k : List Nat) (m : Nat) (hk : ∀ x ∈ k, x < 256) (hm : m < 256) : ∀ x ∈ mask k m, x < 256 := by
  intro x hx
  obtain ⟨y, hy, rfl⟩ := List.mem_map.1 hx
  have : y ^^^ m < 2 ^ 8 := Nat.xor_lt_two_pow (by have := hk y hy; omega) (by omega)
  omega
end Sha

theorem zero43 (w : World) : (zeroValue 43).run Tryd.prog w = .ok (.agg (z8 64).toArray) w := by kernel_rfl
theorem info43 : (Tryd.prog.info? 43).map (·.size) = some 64 := by kernel_rfl
theorem splice_zero (k : List Nat) (h : k.length ≤ 64) : splice (z8 64) 0 (u8s k) = u8s (k ++ List.replicate (64 - k.length) 0) := by
  rw [u8s_z8, u8s_splice]
  have e := splice_over ([] : List Nat) k 0 64 0 (by omega)
  simp only [List.nil_append, List.length_nil, Nat.zero_add, List.replicate_zero, Nat.sub_zero] at e
  rw [e]

set_option maxHeartbeats 400000 in
set_option maxRecDepth 100000 in
theorem keyGroup_any (q : List Nat) (A : Option Addr) (c : Nat) (w : World) (hT : Tab w) (hq : ArgIs w A c q) (hn : q.length < 2305843009213693952) :
    Calls Tryd.prog 21 #[.slice A q.length c] w fun e w' => e = .returned (.agg (u8s (Sha.keyG q)).toArray) ∧ Below w.heap.size w w' := by
  have hz := zero43
  have hz2 := zero25
  obtain ⟨l, hl⟩ : ∃ l, q.length = l := ⟨_, rfl⟩
  have hcm := Nat.le_trans hq.1 hq.2.1
  rw [hl] at hn hcm ⊢
  have Hl := Lib.hid hl
  have Hone : Hid ((u8s (Sha.keyG q)).all (·.oneCell') = true) := List.all_eq_true.2 (u8s_one _)
  have Hlen : Hid ((u8s (Sha.keyG q)).length = 64) := by unfold Hid; rw [u8s_length, Sha.keyG_length]
  clear hl
  by_cases h64 : 64 < l
  · have hd : decide ((64 : Int) < (l : Int)) = true := by simp; omega
    have HK : Hid (splice (z8 64) 0 (u8s (Sha.sum q)) = u8s (Sha.keyG q)) := by
      unfold Hid; rw [splice_zero _ (by rw [Sha.sum_length]; decide)]; unfold Sha.keyG; rw [if_pos (by rw [Hl.out]; exact h64)]
    obtain ⟨KG, hKG⟩ : ∃ KG, u8s (Sha.keyG q) = KG := ⟨_, rfl⟩
    rw [hKG] at Hone Hlen HK ⊢
    clear hKG
    go_enter Tryd.func21, Tryd.ntmps21
    go_wp2_with fail
    have hbB : Below w.heap.size w ((w.alloc (.cells (z8 64).toArray 43)).alloc (.cells (z8 64).toArray 43)) := ((Below.refl _ _).alloc (Nat.le_refl _) _).alloc (by simp) _
    rw [← Hl.out]
    refine (sum_any q A c _ (hT.below hbB hT.lt) (hq.below hbB (Nat.le_refl _)) (by rw [Hl.out]; exact hn)).mono ?_
    rintro e w1 ⟨rfl, hb1⟩
    have h01 : Lies w1 w.heap.size 43 (z8 64) := ((Lies.made w _ (z8 64)).alloc _).below hb1 (by simp <;> omega)
    have h11 : Lies w1 (w.heap.size + 1) 43 (z8 64) := (Lies.new_ (cs := z8 64) (by simp)).below hb1 (by simp)
    have hbel1 : Below w.heap.size w w1 := hbB.trans (hb1.mono (by simp <;> omega))
    have hB1 : w.heap.size + 2 ≤ w1.heap.size := by have := hb1.size; simp at this; omega
    have Hl32 : Hid ((u8s (Sha.sum q)).length = 32) := by unfold Hid; rw [u8s_length, Sha.sum_length]
    have Hone2 : Hid (∀ v ∈ u8s (Sha.sum q), v.oneCell' = true) := u8s_one _
    obtain ⟨D, hDe⟩ : ∃ D, u8s (Sha.sum q) = D := ⟨_, rfl⟩
    rw [hDe] at Hl32 Hone2 HK ⊢
    clear hDe hb1 hbB hz hq
    repeat ((fail_if_success (with_reducible show wpList _ _ _ (⟨none, _, _, _, _, _⟩ :: _) _ _)); first | go_values | go_skip | go_guarded | go_step | go_upon | go_back | go_simp)
    with_reducible refine store_lies rfl 25 (.tmp 4) (.tmp 9) rfl w1.heap.size D 25 (z8 32) (Lies.new_ rfl) ?sx ?sy ?si ?sl ?s1 ?_
    case sx => rfl
    case sy => rfl
    case si => (rw [z8_length]; exact info25)
    case sl => rw [Hl32.out, z8_length]
    case s1 => exact List.all_eq_true.2 Hone2.out
    generalize hw2 : World.setRow _ _ _ = w2
    have h02 : Lies w2 w.heap.size 43 (z8 64) := by rw [← hw2]; exact (h01.alloc _).farRow (by omega)
    have h12 : Lies w2 (w.heap.size + 1) 43 (z8 64) := by rw [← hw2]; exact (h11.alloc _).farRow (by omega)
    have h22 : Lies w2 w1.heap.size 25 D := by rw [← hw2]; exact Lies.row (cs := z8 32) (Lies.new_ rfl)
    have hbel2 : Below w.heap.size w w2 := by rw [← hw2]; exact below_row (hbel1.alloc hbel1.size _) (by omega)
    clear hw2 h01 h11 hbel1 hz2
    go_frame
    have HSrc : Hid (∀ j v, D[j]? = some v → w2.cell? ((⟨w1.heap.size, 0, none⟩ : Addr).add j) = some v) := by
      intro j v hv
      have hadd : (⟨w1.heap.size, 0, none⟩ : Addr).add j = ⟨w1.heap.size, j, none⟩ := by unfold Addr.add; split <;> simp_all
      rw [hadd, h22.cell]; exact hv
    go_upto_region 4 with (fail)
    go_region_law (refine step_copy_lies rfl (.tmp 10) (.tmp 11) 22 22 rfl 5 Tryd.underlying22 info5 (w.heap.size + 1) 0 (z8 64) 43 (by exact h12) D _ _ _ _ _ _ rfl rfl (Hl32.out.trans (by decide)) (fun _ => ⟨rfl, ⟨w1.heap.size, 0, none⟩, rfl, by exact HSrc.out⟩) (by rw [Hl32.out, z8_length]; decide) Hone2.out ?_; intro w3 hL3 hg3)
    all_goals
      rw [HK.out] at hL3
      have h03 := Lies.grown (by exact h02) hg3 (by simp)
      have hbel3 : Below w.heap.size w w3 := hbel2.drew.grown hg3 (by exact hbel2.size) (by simp)
      clear hg3 h02 h12 h22 hbel2 HSrc
      go_upto_region 6 with (fail)
      repeat ((fail_if_success (with_reducible show wpList _ _ _ (⟨some 16, _, _, _, _, _⟩ :: _) _ _)); first | go_values | go_skip | go_guarded | go_step | go_upon | go_back | go_simp)
      with_reducible refine load_lies rfl 43 (.tmp 3) rfl (w.heap.size + 1) 43 KG _ hL3 ?hx Tryd.underlying43 ?hd ?hi ?_
      case hx => rfl
      case hd => rfl
      case hi => (rw [Hlen.out]; exact info43)
      repeat ((fail_if_success (with_reducible show wpList _ _ _ (⟨none, _, _, _, _, _⟩ :: _) _ _)); first | go_values | go_skip | go_guarded | go_step | go_upon | go_back | go_simp)
      with_reducible refine store_lies rfl 43 (.tmp 2) (.tmp 16) rfl w.heap.size KG 43 (z8 64) h03 ?sx ?sy ?si ?sl ?s1 ?_
      case sx => rfl
      case sy => rfl
      case si => (rw [z8_length]; exact info43)
      case sl => rw [Hlen.out, z8_length]
      case s1 => exact Hone.out
      go_wp2
      refine bodyPost_ret (results_one Tryd.results21 _ _ w.heap.size 43 KG _ rfl h03.row Tryd.underlying43 rfl (by rw [Hlen.out]; exact info43)) rfl ⟨rfl, below_row hbel3 (Nat.le_refl _)⟩
  · have hd : decide ((64 : Int) < (l : Int)) = false := by simp; omega
    have HK : Hid (splice (z8 64) 0 (u8s q) = u8s (Sha.keyG q)) := by
      unfold Hid; rw [splice_zero _ (by rw [Hl.out]; omega)]; unfold Sha.keyG; rw [if_neg (by rw [Hl.out]; omega)]
    obtain ⟨KG, hKG⟩ : ∃ KG, u8s (Sha.keyG q) = KG := ⟨_, rfl⟩
    rw [hKG] at Hone Hlen HK ⊢
    clear hKG
    go_enter Tryd.func21, Tryd.ntmps21
    go_upto_region 5 with (fail)
    generalize hw1 : World.alloc (World.alloc _ _) _ = w1
    have h01 : Lies w1 w.heap.size 43 (z8 64) := by rw [← hw1]; exact (Lies.made w _ (z8 64)).alloc _
    have h11 : Lies w1 (w.heap.size + 1) 43 (z8 64) := by rw [← hw1]; exact Lies.new_ (by simp)
    have hbel1 : Below w.heap.size w w1 := by rw [← hw1]; exact ((Below.refl _ _).alloc (Nat.le_refl _) _).alloc (by simp) _
    have hq1 := hq.below hbel1 (Nat.le_refl _)
    clear hw1 hz hz2 hq
    repeat ((fail_if_success (with_reducible show wpList _ _ _ (⟨some 15, _, _, _, _, _⟩ :: _) _ _)); first | go_values | go_skip | go_guarded | go_step | go_upon | go_back | go_simp)
    with_reducible refine copy_lies rfl (.tmp 13) (.tmp 14) 22 22 rfl 5 Tryd.underlying22 info5 (w.heap.size + 1) 0 (z8 64) 43 h11 (u8s q) (some ⟨w.heap.size + 1, 0, none⟩) A 64 64 l c ?hd ?hs ?hn ?hp ?hf ?h1 ?_
    case hd => rfl
    case hs => rfl
    case hn => (rw [u8s_length, Hl.out]; exact (Nat.min_eq_left (by omega)).symm)
    case hp =>
      intro hpos
      rw [u8s_length] at hpos
      obtain ⟨b, off, rfl, hbw, hby⟩ := hq1.2.2.2 hpos
      exact ⟨rfl, ⟨b, off, none⟩, rfl, fun i v hv => src_at hby hv⟩
    case hf => rw [u8s_length, Hl.out, z8_length]; omega
    case h1 => exact u8s_one _
    intro w3 hL3 hg3
    rw [HK.out] at hL3
    have h03 := Lies.grown h01 hg3 (by simp)
    have hbel3 : Below w.heap.size w w3 := hbel1.grown hg3 hbel1.size (by simp)
    clear hg3 h01 h11 hbel1 hq1
    go_frame
    go_upto_region 6 with (fail)
    repeat ((fail_if_success (with_reducible show wpList _ _ _ (⟨some 16, _, _, _, _, _⟩ :: _) _ _)); first | go_values | go_skip | go_guarded | go_step | go_upon | go_back | go_simp)
    with_reducible refine load_lies rfl 43 (.tmp 3) rfl (w.heap.size + 1) 43 KG _ hL3 ?hx Tryd.underlying43 ?hd ?hi ?_
    case hx => rfl
    case hd => rfl
    case hi => (rw [Hlen.out]; exact info43)
    repeat ((fail_if_success (with_reducible show wpList _ _ _ (⟨none, _, _, _, _, _⟩ :: _) _ _)); first | go_values | go_skip | go_guarded | go_step | go_upon | go_back | go_simp)
    with_reducible refine store_lies rfl 43 (.tmp 2) (.tmp 16) rfl w.heap.size KG 43 (z8 64) h03 ?sx ?sy ?si ?sl ?s1 ?_
    case sx => rfl
    case sy => rfl
    case si => (rw [z8_length]; exact info43)
    case sl => rw [Hlen.out, z8_length]
    case s1 => exact Hone.out
    go_wp2
    refine bodyPost_ret (results_one Tryd.results21 _ _ w.heap.size 43 KG _ rfl h03.row Tryd.underlying43 rfl (by rw [Hlen.out]; exact info43)) rfl ⟨rfl, below_row hbel3 (Nat.le_refl _)⟩
end Go.Proofs.YtkfhfokeoieajaaDoor
