/-
  The walk of the law DigestKeys: a long key.
-/
import Derived.Test.YtkfhfokeoieajaaDoorLawKeys
namespace Go.Proofs.YtkfhfokeoieajaaDoor
open Go.RowKit

theorem arg_drew {w : World} {A : Option Addr} {c : Nat} {q : List Nat} (h : ArgIs w A c q) : ArgIs w.drew A c q := h

set_option maxHeartbeats 400000 in
set_option maxRecDepth 100000 in
theorem lawKeys_long (k q : List Nat) (A A' : Option Addr) (c c' : Nat) (m : Int) (w : World) (hT : Tab w) (hk : ArgIs w A c k) (hq : ArgIs w A' c' q) (hlong : 64 < k.length) (hn : k.length ≤ 140737488351232) (hn' : q.length ≤ 140737488351232) :
    Calls Tryd.prog 7 #[.slice A k.length c, .slice A' q.length c', .int .i64 m] w fun e w' => e = .returned (.bool true) ∧ Below w.heap.size w w' := by
  have hz := zero25
  have Hmac := Lib.hid (mac_sum k q hlong)
  have hS := sum_any k A c w hT hk (by omega)
  have cM : ∀ W, Below w.heap.size w W → Calls Tryd.prog 12 #[.slice A k.length c, .slice A' q.length c'] W fun e w' => e = .returned (.agg (u8s (Sha.mac k q)).toArray) ∧ Below W.heap.size W w' := fun W hW =>
    mac_any k q A A' c c' W (hT.below hW hT.lt) (hk.below hW (Nat.le_refl _)) (hq.below hW (Nat.le_refl _)) (by omega) (by omega)
  have cB : ∀ W, Below w.heap.size w W → Calls Tryd.prog 18 #[.agg (u8s (Sha.sum k)).toArray] W fun e w' => ∃ A2 c2, e = .returned (.slice A2 32 c2) ∧ ArgIs w' A2 c2 (Sha.sum k) ∧ Below W.heap.size W w' := fun W _ =>
    (refBytes_any (Sha.sum k) W (Sha.sum_length k) (Sha.sum_lt k)).mono fun e w' ⟨v, he, hown, hb⟩ => by
      obtain ⟨A2, c2, rfl⟩ := own_slice hown
      exact ⟨A2, c2, he, (own_arg hown (Sha.sum_lt k)).2, hb⟩
  have cN : ∀ A2 c2 W, ArgIs W A2 c2 (Sha.sum k) → Below w.heap.size w W → Calls Tryd.prog 12 #[.slice A2 32 c2, .slice A' q.length c'] W fun e w' => e = .returned (.agg (u8s (Sha.mac k q)).toArray) ∧ Below W.heap.size W w' := fun A2 c2 W hA hW => by
    have := mac_any (Sha.sum k) q A2 A' c2 c' W (hT.below hW hT.lt) hA (hq.below hW (Nat.le_refl _)) (by rw [Sha.sum_length]; omega) (by omega)
    rw [Sha.sum_length, Hmac.out] at this
    exact this
  obtain ⟨l, hl⟩ : ∃ l, k.length = l := ⟨_, rfl⟩
  obtain ⟨n, hn2⟩ : ∃ n, q.length = n := ⟨_, rfl⟩
  rw [hl] at hlong hS cM ⊢
  rw [hn2] at cM cN ⊢
  have HS := Lib.hid hS
  have CM := Lib.hid cM
  have CB := Lib.hid cB
  have CN := Lib.hid cN
  have hd : decide ((64 : Int) < (l : Int)) = true := by simp; omega
  clear hS cM cB cN hl hn2 hk hq hn hn'
  go_enter Tryd.func7, Tryd.ntmps7
  go_wp2_with fail
  refine HS.out.mono ?_
  rintro e w1 ⟨rfl, hb1⟩
  have HIl : Hid ((Sha.sum k).length = 32) := Sha.sum_length _
  obtain ⟨L, hL⟩ : ∃ L, Sha.sum k = L := ⟨_, rfl⟩
  rw [hL] at HIl CB CN ⊢
  clear hL Hmac
  repeat ((fail_if_success (with_reducible show wpList _ _ _ (⟨none, _, _, _, _, _⟩ :: _) _ _)); first | go_values | go_skip | go_guarded | go_step | go_upon | go_back | go_simp)
  with_reducible refine store_lies rfl 25 (.tmp 7) (.tmp 13) rfl w1.heap.size (u8s L) 25 (z8 32) (Lies.new_ rfl) ?sx ?sy ?si ?sl ?s1 ?_
  case sx => rfl
  case sy => rfl
  case si => (rw [z8_length]; exact info25)
  case sl => rw [u8s_length, HIl.out, z8_length]
  case s1 => exact (List.all_eq_true.2 (u8s_one _))
  generalize hw2 : World.setRow _ _ _ = w2
  have hG2 : Lies w2 w1.heap.size 25 (u8s L) := by rw [← hw2]; exact Lies.row (cs := z8 32) (Lies.new_ rfl)
  have hbel2 : Below w.heap.size w w2 := by rw [← hw2]; exact below_row (hb1.alloc hb1.size _) hb1.size
  clear hw2 hb1 hz HS hd
  have r1 := range_of hG2
  have hu := Tryd.underlying25
  have hi : (Tryd.prog.info? 25).map (·.size) = some (u8s L).length := by rw [u8s_length, HIl.out]; exact info25
  have he := eq_digest (Sha.mac k q) (Sha.sum_length _)
  obtain ⟨D, hD⟩ : ∃ D, u8s (Sha.mac k q) = D := ⟨_, rfl⟩
  rw [hD] at he CM CN
  clear hG2 hD
  go_frame
  go_upto_region 3 with (fail)
  go_region_held3 (fun W => W.rangeAt w1.heap.size 0 (u8s L) ∧ Below w.heap.size w W)
    (first
      | (go_split_ands; exact ⟨range_call (by assumption) hba, (by assumption : Below w.heap.size w _).trans (hba.mono (by assumption : Below w.heap.size w _).size)⟩)
      | (go_split_ands; exact ⟨by assumption, Below.drew (by assumption)⟩)
      | go_keep_ranges)
    (first
      | (go_at_call 9; go_split_ands; refine (alive_any _ (hT.below (by assumption : Below w.heap.size w _) hT.lt)).mono ?_; rintro e wa ⟨rfl, hba⟩)
      | (go_at_call 12; go_split_ands; with_reducible refine (CN.out A2 c2 _ (by first | exact harg2 | exact arg_drew harg2) (by assumption : Below w.heap.size w _)).mono ?_; rintro e wa ⟨rfl, hba⟩)
      | (go_at_call 12; go_split_ands; with_reducible refine (CM.out _ (by assumption : Below w.heap.size w _)).mono ?_; rintro e wa ⟨rfl, hba⟩)
      | (go_at_call 18; go_split_ands; refine (CB.out _ (by assumption : Below w.heap.size w _)).mono ?_; rintro e wa ⟨A2, c2, rfl, harg2, hba⟩))
  go_split_ands
  have hfin : Below w.heap.size w wa := (by assumption : Below w.heap.size w _).trans (hba.mono (by assumption : Below w.heap.size w _).size)
  go_wp2
  go_ret
  exact ⟨rfl, hfin⟩
end Go.Proofs.YtkfhfokeoieajaaDoor
