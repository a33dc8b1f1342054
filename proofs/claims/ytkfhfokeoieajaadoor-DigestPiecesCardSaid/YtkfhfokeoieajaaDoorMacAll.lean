/-
  The contract of Mac.
-/
import Derived.Test.YtkfhfokeoieajaaDoorMac
import Derived.Deep.RegionHeld3
import Derived.Deep.MidRow
namespace Go.Proofs.YtkfhfokeoieajaaDoor
open Go.RowKit

theorem range_of {w : World} {g : Nat} {t : TypeId} {cs : List Value} (h : Lies w g t cs) : w.rangeAt g 0 cs := fun j v hv => by rw [Nat.zero_add, h.cell]; exact hv
theorem there_of {w : World} {g : Nat} {t : TypeId} {cs : List Value} (h : Lies w g t cs) : w.there g 0 cs.length := fun j hj => by
  rw [Nat.zero_add, h.cell]
  exact ⟨by rw [List.getElem?_eq_getElem hj]; rfl, h.free j⟩
theorem range_call {w w' : World} {g : Nat} {cs : List Value} (h : w.rangeAt g 0 cs) (hb : Below w.heap.size w w') : w'.rangeAt g 0 cs := fun j v hv => by
  have := h j v hv
  rw [hb.cell (p := ⟨g, 0 + j, none⟩) (block_lt_of_cell this)]; exact this
theorem there_call {w w' : World} {g n : Nat} (h : w.there g 0 n) (hb : Below w.heap.size w w') : w'.there g 0 n := fun j hj => by
  obtain ⟨h1, h2⟩ := h j hj
  obtain ⟨u, hu⟩ := Option.isSome_iff_exists.1 h1
  have hlt := block_lt_of_cell hu
  exact ⟨by rw [hb.cell (p := ⟨g, 0 + j, none⟩) hlt]; exact h1, by rw [hb.frozen (p := ⟨g, 0 + j, none⟩) hlt]; exact h2⟩
theorem below_setCells {B g : Nat} {a : World} (hg : B ≤ g) : ∀ (vs : List Value) (o : Nat) (w : World), Below B a w → Below B a (w.setCells g o vs)
  | [], _, _, h => h
  | v :: r, o, _, h => below_setCells hg r (o + 1) _ (h.setCell hg v)
theorem arg_range {w : World} {g : Nat} {L : List Nat} {c : Nat} (h : w.rangeAt g 0 (u8s L)) (hL : ∀ x ∈ L, x < 256) (hc : L.length ≤ c) (hcm : c ≤ 9223372036854775807) : ArgIs w (some ⟨g, 0, none⟩) c L :=
  ⟨hc, hcm, hL, fun hp => by
    have h0 := h 0 (.int .u8 (L[0] : Nat)) (by simp [u8s, List.getElem?_eq_getElem hp])
    exact ⟨g, 0, rfl, block_lt_of_cell h0, fun j x hj => ⟨hL x (List.mem_of_getElem? hj), h j _ (by simp [u8s, hj])⟩⟩⟩

theorem results_mid {P : Program} {fn : Func} {p : Tmp} {ty : TypeId} (h : fn.results = #[.cell p ty]) (tmps : Array Value) (w : World) (g : Nat) (_t : TypeId) (cs : List Value) (d : TypeDesc)
    (hp : tmps.getD p undef = .pointer (some ⟨g, 0, none⟩)) (hc : w.rangeAt g 0 cs) (hu : P.underlying ty = some d) (hd : d.isRow = true) (hi : (P.info? ty).map (·.size) = some cs.length) :
    (results fn tmps).run P w = .ok (.agg cs.toArray) w := by
  have hp' : tmps[p]?.getD undef = .pointer (some ⟨g, 0, none⟩) := by simpa using hp
  simp [results, h, hp', asAddr, run_loadVar_mid w g 0 ty cs d hc hu hd hi]

set_option maxHeartbeats 800000 in
set_option maxRecDepth 100000 in
theorem mac_any (k q : List Nat) (A A' : Option Addr) (c c' : Nat) (w : World) (hT : Tab w) (hk : ArgIs w A c k) (hq : ArgIs w A' c' q) (hn : k.length < 2305843009213693952) (hn' : q.length < 2305843009213693000) :
    Calls Tryd.prog 12 #[.slice A k.length c, .slice A' q.length c'] w fun e w' => e = .returned (.agg (u8s (Sha.mac k q)).toArray) ∧ Below w.heap.size w w' := by
  have hz := zero25
  have hz2 := zero43
  go_enter Tryd.func12, Tryd.ntmps12
  go_wp2_with fail
  have hb0 : Below w.heap.size w (w.alloc (.cells (z8 32).toArray 25)) := (Below.refl _ _).alloc (Nat.le_refl _) _
  refine (keyGroup_any k A c _ (hT.below hb0 hT.lt) (hk.below hb0 (Nat.le_refl _)) hn).mono ?_
  rintro e w1 ⟨rfl, hb1⟩
  have h01 : Lies w1 w.heap.size 25 (z8 32) := (Lies.made w _ (z8 32)).below hb1 (by simp)
  have hbel1 : Below w.heap.size w w1 := hb0.trans (hb1.mono (by simp))
  have hB1 : w.heap.size + 1 ≤ w1.heap.size := by have := hb1.size; simp at this; omega
  have HKl : Hid ((Sha.keyG k).length = 64) := Sha.keyG_length k
  have HKt : Hid (∀ x ∈ Sha.keyG k, x < 256) := Sha.keyG_lt k hk.2.2.1
  obtain ⟨KG, hKG⟩ : ∃ KG, Sha.keyG k = KG := ⟨_, rfl⟩
  rw [hKG] at HKl HKt ⊢
  have HKG := Lib.hid hKG
  clear hKG hb0 hb1 hk
  repeat ((fail_if_success (with_reducible show wpList _ _ _ (⟨none, _, _, _, _, _⟩ :: _) _ _)); first | go_values | go_skip | go_guarded | go_step | go_upon | go_back | go_simp)
  with_reducible refine store_lies rfl 43 (.tmp 5) (.tmp 8) rfl w1.heap.size (u8s KG) 43 (z8 64) (Lies.new_ rfl) ?sx ?sy ?si ?sl ?s1 ?_
  case sx => rfl
  case sy => rfl
  case si => (rw [z8_length]; exact info43)
  case sl => rw [u8s_length, HKl.out, z8_length]
  case s1 => exact (List.all_eq_true.2 (u8s_one _))
  generalize hw2 : World.setRow _ _ _ = w2
  have h02 : Lies w2 w.heap.size 25 (z8 32) := by rw [← hw2]; exact (h01.alloc _).farRow (by omega)
  have hG2 : Lies w2 w1.heap.size 43 (u8s KG) := by rw [← hw2]; exact Lies.row (cs := z8 64) (Lies.new_ rfl)
  have hbel2 : Below w.heap.size w w2 := by rw [← hw2]; exact below_row (hbel1.alloc hbel1.size _) (by omega)
  clear hw2 h01 hbel1 hz2
  go_frame
  go_upto_region 2 with (fail)
  repeat ((fail_if_success (with_reducible show wpList _ _ _ (⟨some 9, _, _, _, _, _⟩ :: _) _ _)); first | go_values | go_skip | go_guarded | go_step | go_upon | go_back | go_simp)
  with_reducible refine load_lies rfl 43 (.tmp 5) rfl w1.heap.size 43 (u8s KG) _ hG2 ?hx Tryd.underlying43 ?hd ?hi ?_
  case hx => rfl
  case hd => rfl
  case hi => (rw [u8s_length, HKl.out]; exact info43)
  go_frame
  go_wp2_with fail
  refine (masked_any KG 54 w2 HKl.out HKt.out (by decide)).mono ?_
  rintro e w3 ⟨rfl, hb3⟩
  have h03 := h02.below hb3 h02.lt
  have hG3 := hG2.below hb3 hG2.lt
  have hbel3 : Below w.heap.size w w3 := hbel2.trans (hb3.mono hbel2.size)
  clear hb3 h02 hG2 hbel2
  go_wp2_with fail
  refine (sumBehind_any (Sha.mask KG 54) q A' c' w3 (hT.below hbel3 hT.lt) (by rw [Sha.mask_length]; exact HKl.out) (Sha.mask_lt KG 54 HKt.out (by decide)) (hq.below hbel3 (Nat.le_refl _)) hn').mono ?_
  rintro e w4 ⟨rfl, hb4⟩
  have h04 := h03.below hb4 h03.lt
  have hG4 := hG3.below hb4 hG3.lt
  have hbel4 : Below w.heap.size w w4 := hbel3.trans (hb4.mono hbel3.size)
  have hg4 := hG4.lt
  have HIl : Hid ((Sha.sum (Sha.mask KG 54 ++ q)).length = 32) := Sha.sum_length _
  have HIt : Hid (∀ x ∈ Sha.sum (Sha.mask KG 54 ++ q), x < 256) := Sha.sum_lt _
  obtain ⟨I, hI⟩ : ∃ I, Sha.sum (Sha.mask KG 54 ++ q) = I := ⟨_, rfl⟩
  rw [hI] at HIl HIt ⊢
  have HI := Lib.hid hI
  clear hI hb4 h03 hG3 hbel3 hq
  repeat ((fail_if_success (with_reducible show wpList _ _ _ (⟨none, _, _, _, _, _⟩ :: _) _ _)); first | go_values | go_skip | go_guarded | go_step | go_upon | go_back | go_simp)
  with_reducible refine store_lies rfl 25 (.tmp 6) (.tmp 12) rfl w4.heap.size (u8s I) 25 (z8 32) (Lies.new_ rfl) ?sx ?sy ?si ?sl ?s1 ?_
  case sx => rfl
  case sy => rfl
  case si => (rw [z8_length]; exact info25)
  case sl => rw [u8s_length, HIl.out, z8_length]
  case s1 => exact (List.all_eq_true.2 (u8s_one _))
  generalize hw5 : World.setRow _ _ _ = w5
  have h05 : Lies w5 w.heap.size 25 (z8 32) := by rw [← hw5]; exact (h04.alloc _).farRow (by have := h04.lt; omega)
  have hG5 : Lies w5 w1.heap.size 43 (u8s KG) := by rw [← hw5]; exact (hG4.alloc _).farRow (by omega)
  have hI5 : Lies w5 w4.heap.size 25 (u8s I) := by rw [← hw5]; exact Lies.row (cs := z8 32) (Lies.new_ rfl)
  have hbel5 : Below w.heap.size w w5 := by rw [← hw5]; exact below_row (hbel4.alloc hbel4.size _) (by have := h04.lt; omega)
  clear hw5 h04 hG4 hbel4 hz
  go_frame
  have r1 := range_of hG5
  have r2 := range_of hI5
  have r3 := there_of h05
  rw [z8_length] at r3
  have hu := Tryd.underlying43
  have hi : (Tryd.prog.info? 43).map (·.size) = some (u8s KG).length := by rw [u8s_length, HKl.out]; exact info43
  have hu2 := Tryd.underlying25
  have Hl32 : Hid ((u8s (Sha.sum (Sha.mask KG 92 ++ I))).length = 32) := by unfold Hid; rw [u8s_length, Sha.sum_length]
  have h1 : ∀ v ∈ u8s (Sha.sum (Sha.mask KG 92 ++ I)), v.oneCell' = true := u8s_one _
  obtain ⟨D, hD⟩ : ∃ D, u8s (Sha.sum (Sha.mask KG 92 ++ I)) = D := ⟨_, rfl⟩
  have hsb : ∀ W, Tab W → W.rangeAt w4.heap.size 0 (u8s I) → Calls Tryd.prog 22 #[.agg (u8s (Sha.mask KG 92)).toArray, .slice (some ⟨w4.heap.size, 0, none⟩) 32 32] W fun e w' => e = .returned (.agg D.toArray) ∧ Below W.heap.size W w' := by
    intro W hTW hr
    have := sumBehind_any (Sha.mask KG 92) I (some ⟨w4.heap.size, 0, none⟩) 32 W hTW (by rw [Sha.mask_length]; exact HKl.out) (Sha.mask_lt KG 92 HKt.out (by decide)) (arg_range hr HIt.out (by rw [HIl.out]; exact Nat.le_refl _) (by decide)) (by rw [HIl.out]; decide)
    rw [HIl.out, hD] at this
    exact this
  have Hsb := Lib.hid hsb
  rw [hD] at Hl32 h1
  have HD := Lib.hid hD
  have hiD : (Tryd.prog.info? 25).map (·.size) = some D.length := by rw [Hl32.out]; exact info25
  have hDl : D.length = 32 := Hl32.out
  clear hD hsb h05 hG5 hI5
  go_upto_region 3 with (fail)
  go_region_held3 (fun W => W.rangeAt w1.heap.size 0 (u8s KG) ∧ W.rangeAt w4.heap.size 0 (u8s I) ∧ W.there w.heap.size 0 32 ∧ Below w.heap.size w W)
    (first
      | (go_split_ands; exact ⟨range_call (by assumption) hba, range_call (by assumption) hba, there_call (by assumption) hba, (by assumption : Below w.heap.size w _).trans (hba.mono (by assumption : Below w.heap.size w _).size)⟩)
      | (go_split_ands; exact ⟨by assumption, by assumption, by assumption, Below.drew (by assumption)⟩)
      | (go_split_ands; exact ⟨World.rangeAt_setCells_apart (by assumption) _ _ _ (by omega), World.rangeAt_setCells_apart (by assumption) _ _ _ (by omega), World.there_setCells (by assumption) _ _ _, below_setCells (Nat.le_refl _) _ _ _ (by assumption)⟩)
      | go_keep_ranges)
    (first
      | (go_at_call 23; refine (masked_any KG 92 _ HKl.out HKt.out (by decide)).mono ?_; rintro e wa ⟨rfl, hba⟩)
      | (go_at_call 22; go_split_ands; refine (Hsb.out _ (hT.below (by assumption : Below w.heap.size w _) hT.lt) (by assumption)).mono ?_; rintro e wa ⟨rfl, hba⟩))
  have ht := there_call (by assumption) hba
  rw [← hDl] at ht
  have hR := World.rangeAt_setCells_same wa w.heap.size 0 D ht
  go_split_ands
  have hfin : Below w.heap.size w (wa.setCells w.heap.size 0 D) := by assumption
  clear ht Hsb hi hu hu2
  go_wp2
  refine bodyPost_ret (results_mid Tryd.results12 _ _ w.heap.size 25 D _ rfl hR Tryd.underlying25 rfl hiD) rfl ⟨?_, hfin⟩
  unfold Sha.mac
  rw [HKG.out, HI.out, HD.out]
end Go.Proofs.YtkfhfokeoieajaaDoor
