/-
  The contracts of masked, sumBehind and Mac.
-/
import Derived.Test.YtkfhfokeoieajaaDoorKey
namespace Go.Proofs.YtkfhfokeoieajaaDoor
open Go.RowKit

/-- The first bytes masked. -/
def maskTo (L : List Nat) (m k : Nat) : List Nat := (Sha.mask L m).take k ++ L.drop k
theorem maskTo_at (L : List Nat) (m k : Nat) (hk : k < L.length) : (u8s (maskTo L m k))[k]? = some (.int .u8 (L.getD k 0 : Nat)) := by
  unfold maskTo u8s
  rw [List.getElem?_map, List.getElem?_append_right (by simp [Sha.mask]; omega), List.getElem?_drop]
  have : k + (k - (List.take k (Sha.mask L m)).length) = k := by simp [Sha.mask]; omega
  rw [this, List.getD_eq_getElem?_getD, List.getElem?_eq_getElem hk]; rfl
theorem maskTo_put (L : List Nat) (m k : Nat) (hk : k < L.length) : (u8s (maskTo L m k)).set k (.int .u8 ((L.getD k 0 ^^^ m : Nat) : Int)) = u8s (maskTo L m (k + 1)) := by
  have e : L.getD k 0 = L[k] := by rw [List.getD_eq_getElem?_getD, List.getElem?_eq_getElem hk]; rfl
  have hl : ((Sha.mask L m).take k).length = k := by simp [Sha.mask]; omega
  unfold maskTo
  rw [e, u8s_append, List.set_append_right _ _ (by rw [u8s_length, hl]; exact Nat.le_refl _), u8s_length, hl, Nat.sub_self, List.drop_eq_getElem_cons hk, List.take_succ_eq_append_getElem (show k < (Sha.mask L m).length by rw [Sha.mask_length]; exact hk),
    show (u8s (L[k] :: L.drop (k + 1))).set 0 (.int .u8 ((L[k] ^^^ m : Nat) : Int)) = .int .u8 ((L[k] ^^^ m : Nat) : Int) :: u8s (L.drop (k + 1)) from rfl, u8s_append, u8s_append]
  have e2 : (Sha.mask L m)[k]'(by rw [Sha.mask_length]; exact hk) = L[k] ^^^ m := by simp [Sha.mask]
  rw [e2, show u8s [L[k] ^^^ m] = [.int .u8 ((L[k] ^^^ m : Nat) : Int)] from rfl, List.append_assoc]
  rfl

set_option maxHeartbeats 400000 in
set_option maxRecDepth 100000 in
theorem masked_any (L : List Nat) (m : Nat) (w : World) (hL : L.length = 64) (hlt : ∀ x ∈ L, x < 256) (hm : m < 256) :
    Calls Tryd.prog 23 #[.agg (u8s L).toArray, .int .u8 m] w fun e w' => e = .returned (.agg (u8s (Sha.mask L m)).toArray) ∧ Below w.heap.size w w' := by
  have hz := zero43
  have HL := Lib.hid hL
  have Hlt := Lib.hid hlt
  clear hL hlt
  go_enter Tryd.func23, Tryd.ntmps23
  go_wp2_with fail
  generalize hw1 : World.alloc (World.alloc _ _) _ = w1
  have h01 : Lies w1 w.heap.size 43 (u8s L) := by rw [← hw1]; exact (Lies.made w _ (u8s L)).alloc _
  have h11 : Lies w1 (w.heap.size + 1) 43 (z8 64) := by rw [← hw1]; exact Lies.new_ (by simp)
  have hbel1 : Below w.heap.size w w1 := by rw [← hw1]; exact ((Below.refl _ _).alloc (Nat.le_refl _) _).alloc (by simp) _
  clear hw1 hz
  go_loopw [6] (fun i wr => ∃ k : Nat, k ≤ 64 ∧ i = .int .i64 k ∧ Lies wr w.heap.size 43 (u8s (maskTo L m k)) ∧ Lies wr (w.heap.size + 1) 43 (z8 64) ∧ Below w.heap.size w wr) (fun i _ => 64 - (intOf i).toNat)
  case atStart => exact ⟨0, Nat.zero_le _, rfl, h01, h11, hbel1⟩
  case round =>
    clear h01 h11 hbel1
    obtain ⟨k, hk, rfl, h0, h1, hb⟩ := hrel
    by_cases hlt : k < 64
    · have hd : decide ((k : Int) < 64) = true := by simp; omega
      have hx : L.getD k 0 < 256 := by
        have hk' : k < L.length := by rw [HL.out]; exact hlt
        rw [List.getD_eq_getElem?_getD, List.getElem?_eq_getElem hk']
        exact Hlt.out _ (List.getElem_mem hk')
      have hc := (h0.cell k).trans (maskTo_at L m k (by rw [HL.out]; exact hlt))
      have hf := h0.free k
      have HP := Lib.hid (maskTo_put L m k (by rw [HL.out]; exact hlt))
      obtain ⟨x, ex⟩ : ∃ x, L.getD k 0 = x := ⟨_, rfl⟩
      rw [ex] at hx hc HP
      clear ex
      have hxor := u8_xor_nat x m hx hm
      go_wp2
      go_roundw
      case rel =>
        refine ⟨k + 1, by omega, by go_num, ?_, h1.far (by simp) _, hb.setCell (by simp) _⟩
        have h := h0.put k (.int .u8 ((x ^^^ m : Nat) : Int))
        rw [HP.out] at h
        exact h
      case measure => simp [intOf]; omega
    · obtain rfl : k = 64 := by omega
      have hd : decide (((64 : Nat) : Int) < 64) = false := by decide
      have e : maskTo L m 64 = Sha.mask L m := by
        unfold maskTo
        rw [List.take_of_length_le (by rw [Sha.mask_length, HL.out]; exact Nat.le_refl _), List.drop_eq_nil_of_le (by rw [HL.out]; exact Nat.le_refl _), List.append_nil]
      rw [e] at h0
      have Hlen : Hid ((u8s (Sha.mask L m)).length = 64) := by unfold Hid; rw [u8s_length, Sha.mask_length, HL.out]
      have Hone : Hid ((u8s (Sha.mask L m)).all (·.oneCell') = true) := List.all_eq_true.2 (u8s_one _)
      obtain ⟨D, hDe⟩ : ∃ D, u8s (Sha.mask L m) = D := ⟨_, rfl⟩
      rw [hDe] at h0 Hlen Hone
      have HDe := Lib.hid hDe
      clear hDe e
      go_upto_region 6 with (fail)
      repeat ((fail_if_success (with_reducible show wpList _ _ _ (⟨some 16, _, _, _, _, _⟩ :: _) _ _)); first | go_values | go_skip | go_guarded | go_step | go_upon | go_back | go_simp)
      with_reducible refine load_lies rfl 43 (.tmp 2) rfl w.heap.size 43 D _ h0 ?hx Tryd.underlying43 ?hd ?hi ?_
      case hx => rfl
      case hd => rfl
      case hi => (rw [Hlen.out]; exact info43)
      repeat ((fail_if_success (with_reducible show wpList _ _ _ (⟨none, _, _, _, _, _⟩ :: _) _ _)); first | go_values | go_skip | go_guarded | go_step | go_upon | go_back | go_simp)
      with_reducible refine store_lies rfl 43 (.tmp 4) (.tmp 16) rfl (w.heap.size + 1) D 43 (z8 64) h1 ?sx ?sy ?si ?sl ?s1 ?_
      case sx => rfl
      case sy => rfl
      case si => (rw [z8_length]; exact info43)
      case sl => rw [Hlen.out, z8_length]
      case s1 => exact Hone.out
      go_wp2
      refine bodyPost_ret (results_one Tryd.results23 _ _ (w.heap.size + 1) 43 D _ rfl h1.row Tryd.underlying43 rfl (by rw [Hlen.out]; exact info43)) rfl ⟨?_, below_row hb (by omega)⟩
      rw [HDe.out]

set_option maxHeartbeats 400000 in
set_option maxRecDepth 100000 in
theorem sumBehind_any (L q : List Nat) (A : Option Addr) (c : Nat) (w : World) (hT : Tab w) (hL : L.length = 64) (hlt : ∀ x ∈ L, x < 256) (hq : ArgIs w A c q) (hn : q.length < 2305843009213693000) :
    Calls Tryd.prog 22 #[.agg (u8s L).toArray, .slice A q.length c] w fun e w' => e = .returned (.agg (u8s (Sha.sum (L ++ q))).toArray) ∧ Below w.heap.size w w' := by
  have hz := zero25
  have HL := Lib.hid hL
  have Hlt := Lib.hid hlt
  clear hL hlt
  go_enter Tryd.func22, Tryd.ntmps22
  go_wp2_with fail
  generalize hw0 : World.alloc (World.alloc _ _) _ = w0
  have h00 : Lies w0 w.heap.size 43 (u8s L) := by rw [← hw0]; exact (Lies.made w _ (u8s L)).alloc _
  have h10 : Lies w0 (w.heap.size + 1) 25 (z8 32) := by rw [← hw0]; exact Lies.new_ (by simp)
  have hbel0 : Below w.heap.size w w0 := by rw [← hw0]; exact ((Below.refl _ _).alloc (Nat.le_refl _) _).alloc (by simp) _
  have hB0 : w.heap.size + 2 ≤ w0.heap.size := by rw [← hw0]; simp
  clear hw0 hz
  refine (new_any _).mono ?_
  rintro e w1 ⟨g, rfl, hgB, hL1, hb1⟩
  have h01 := h00.below hb1 h00.lt
  have h11 := h10.below hb1 h10.lt
  have hbel1 : Below w.heap.size w w1 := hbel0.trans (hb1.mono hbel0.size)
  have hT1 : Tab w1 := hT.below hbel1 hT.lt
  have hTl := hT.lt
  have hB1 := hbel1.size
  have hw1 := hL1.lt
  clear hb1 h00 h10 hbel0
  go_wp2_with fail
  have hs1 : SliceIs w1 g (some ⟨w.heap.size, 0, none⟩) 64 L := ⟨by rw [HL.out]; exact Nat.le_refl _, by omega, Hlt.out, fun _ => ⟨w.heap.size, 0, rfl, by omega, h01.lt, by have := h01.bytes Hlt.out 0 64; rwa [List.drop_zero, List.take_of_length_le (by rw [HL.out]; exact Nat.le_refl _)] at this⟩⟩
  have hW1 := write_any g [] L (some ⟨w.heap.size, 0, none⟩) 64 w1 hT1 (hash_new hL1) hs1 (by omega) (by rw [HL.out]; simp)
  rw [HL.out] at hW1
  refine hW1.mono ?_
  clear hW1
  rintro e w2 ⟨rfl, hH2, hg2⟩
  rw [List.nil_append] at hH2
  have h12 := h11.grown hg2 (by simp; omega)
  have hbel2 := below_of_grown hbel1 hg2 hbel1.size (by omega)
  have hT2 : Tab w2 := hT.below hbel2 hT.lt
  have hs2 : SliceIs w2 g A c q := hq.slice hbel2 (Nat.le_refl _) (by omega)
  clear hg2 hT1 hbel1 h11 h01 hL1 hs1
  go_wp2_with fail
  refine (write_any g L q A c w2 hT2 hH2 hs2 (by omega) (by rw [HL.out]; omega)).mono ?_
  rintro e w3 ⟨rfl, hH3, hg3⟩
  have h13 := h12.grown hg3 (by simp; omega)
  have hbel3 := below_of_grown hbel2 hg3 hbel2.size (by omega)
  have hT3 : Tab w3 := hT.below hbel3 hT.lt
  clear hg3 hT2 hbel2 h12 hs2 hH2
  go_wp2_with fail
  refine (hashSum_any g (L ++ q) w3 hT3 hH3 (by rw [List.length_append, HL.out]; omega)).mono ?_
  rintro e w4 ⟨rfl, hb4⟩
  have h14 := h13.below hb4 h13.lt
  have hbel4 : Below w.heap.size w w4 := hbel3.trans (hb4.mono hbel3.size)
  have Hl32 : Hid ((u8s (Sha.sum (L ++ q))).length = 32) := by unfold Hid; rw [u8s_length, Sha.sum_length]
  have Hone : Hid ((u8s (Sha.sum (L ++ q))).all (·.oneCell') = true) := List.all_eq_true.2 (u8s_one _)
  obtain ⟨D, hDe⟩ : ∃ D, u8s (Sha.sum (L ++ q)) = D := ⟨_, rfl⟩
  rw [hDe] at Hl32 Hone ⊢
  have HDe := Lib.hid hDe
  clear hDe hb4 h13 hbel3 hT3 hH3 hq
  repeat ((fail_if_success (with_reducible show wpList _ _ _ (⟨none, _, _, _, _, _⟩ :: _) _ _)); first | go_values | go_skip | go_guarded | go_step | go_upon | go_back | go_simp)
  with_reducible refine store_lies rfl 25 (.tmp 4) (.tmp 14) rfl (w.heap.size + 1) D 25 (z8 32) h14 ?sx ?sy ?si ?sl ?s1 ?_
  case sx => rfl
  case sy => rfl
  case si => (rw [z8_length]; exact info25)
  case sl => rw [Hl32.out, z8_length]
  case s1 => exact Hone.out
  go_wp2
  refine bodyPost_ret (results_one Tryd.results22 _ _ (w.heap.size + 1) 25 D _ rfl h14.row Tryd.underlying25 rfl (by rw [Hl32.out]; exact info25)) rfl ⟨?_, below_row hbel4 (by omega)⟩
  rw [HDe.out]
end Go.Proofs.YtkfhfokeoieajaaDoor
