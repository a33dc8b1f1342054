/-
  What is asked of the program's functions; the law package's alive.
-/
import Derived.Test.YtcpfkhodailbfaaTRDecode
import Derived.Test.YtcpfkhodailbfaaTREncode
import Derived.Test.YtcpfkhodailbfaaTRNumber
import Derived.Lib.SlBytesConst
namespace Go.Proofs.Ytcpfkhodailbfaa
open Go.RowKit

/-- What the program's functions answer, in worlds of which HO speaks. -/
structure BerOk (HO : World → Prop) : Prop where
  keep : ∀ w w', HO w → Below w.heap.size w w' → HO w'
  dec : ∀ (q : List Nat) (A : Option Addr) (c : Nat) (w : World), HO w → ArgIs w A c q → Calls Try.prog 11 #[.slice A q.length c] w (DecEnd (Bq.decode q) w)
  enc : ∀ (ok : Nat → Prop) (v : Value) (t : Bq.T) (w : World), HO w → IsT w ok v t → Calls Try.prog 16 #[v] w (EncEnd (Bq.encode t) w)
  whole : ∀ (n : Int) (w : World), HO w → (-9223372036854775808 ≤ n ∧ n ≤ 9223372036854775807) → Calls Try.prog 18 #[.int .i64 n] w (BytesEnd (Bq.whole n) w)
  number : ∀ (q : List Nat) (A : Option Addr) (c : Nat) (w : World), HO w → ArgIs w A c q → Calls Try.prog 19 #[.slice A q.length c] w fun e w' => e = .returned (.tuple #[.int .i64 ((numberP q).1 : Int), .bool (numberP q).2]) ∧ Below w.heap.size w w'
  same : ∀ (ok ok' : Nat → Prop) (x y : Bq.T) (v u : Value) (w : World), HO w → IsT w ok v x → IsT w ok' u y → Calls Try.prog 22 #[v, u] w (Tells (x = y) w)
abbrev aliveT : Bq.T := .mk 48 [] [.mk 4 [97, 98] []]
theorem alive_enc : Bq.encode aliveT = .ok [48, 4, 4, 2, 97, 98] := by rfl
theorem alive_dec : Bq.decode [48, 4, 4, 2, 97, 98] = .ok aliveT := Bq.encode_back alive_enc
theorem alive_whole : Bq.whole 128 = [0, 128] := by rfl
theorem alive_number : numberP [0, 128] = (128, true) := by rfl
/-- The element that alive writes. -/
theorem alive_is (w : World) : IsT ((w.alloc (.cells #[.int .u8 97, .int .u8 98] 5 (2, 3))).alloc (.cells #[.int .u8 4, .slice (some ⟨w.heap.size, 0, none⟩) 2 2, nilS] 25)) (fun _ => True) (tv 48 nilS (.slice (some ⟨w.heap.size + 1, 0, none⟩) 1 1)) aliveT := by
  have h1 : (w.alloc (.cells #[.int .u8 97, .int .u8 98] 5 (2, 3))).heap[w.heap.size]? = some (.cells #[.int .u8 97, .int .u8 98] 5 (2, 3)) := heap_alloc_new w _
  have hlt : w.heap.size < (w.alloc (.cells #[.int .u8 97, .int .u8 98] 5 (2, 3))).heap.size := by simp
  have h2 := (Below.heap_alloc _ (.cells #[.int .u8 4, .slice (some ⟨w.heap.size, 0, none⟩) 2 2, nilS] 25) _ hlt).trans h1
  have h3 : Lies ((w.alloc (.cells #[.int .u8 97, .int .u8 98] 5 (2, 3))).alloc (.cells #[.int .u8 4, .slice (some ⟨w.heap.size, 0, none⟩) 2 2, nilS] 25)) (w.heap.size + 1) 25 [.int .u8 4, .slice (some ⟨w.heap.size, 0, none⟩) 2 2, nilS] := Lies.new_ (by simp)
  have h2lt : w.heap.size < ((w.alloc (.cells #[.int .u8 97, .int .u8 98] 5 (2, 3))).alloc (.cells #[.int .u8 4, .slice (some ⟨w.heap.size, 0, none⟩) 2 2, nilS] 25)).heap.size := by simp; omega
  clear h1 hlt
  generalize (w.alloc (.cells #[.int .u8 97, .int .u8 98] 5 (2, 3))).alloc (.cells #[.int .u8 4, .slice (some ⟨w.heap.size, 0, none⟩) 2 2, nilS] 25) = W at *
  have hin : IsT W (fun _ => True) (tv 4 (.slice (some ⟨w.heap.size, 0, none⟩) 2 2) nilS) (.mk 4 [97, 98] []) := by
    refine .mk (vs := []) (by decide) ?_ ⟨by decide, by simp⟩ (SlIs.nil _ _) rfl (Nat.zero_le _) (fun i v x h => by simp at h)
    refine ⟨_, 2, rfl, Nat.le_refl _, by decide, fun _ => ⟨w.heap.size, 0, rfl, trivial, h2lt, fun j x hj => ?_⟩⟩
    rw [Nat.zero_add, cell_of_row _ _ _ _ _ _ h2]
    simpa [u8s] using hj
  refine .mk (vs := [tv 4 (.slice (some ⟨w.heap.size, 0, none⟩) 2 2) nilS]) (by decide) (SlIs.nil _ _) ⟨by decide, by simp⟩ ?_ rfl (by decide) (fun i v x e1 e2 => ?_)
  · refine ⟨_, 1, rfl, Nat.le_refl _, by decide, fun _ => ⟨w.heap.size + 1, 0, rfl, trivial, h3.lt, fun j x hj => ?_⟩⟩
    rw [Nat.zero_add, h3.cell]
    simpa [acells] using hj
  · match i, e1, e2 with
    | 0, e1, e2 =>
      simp at e1 e2
      subst e1 e2
      exact hin
    | i + 1, e1, _ => simp at e1

set_option maxHeartbeats 1000000 in
set_option maxRecDepth 100000 in
theorem alive_of {HO : World → Prop} (B : BerOk HO) (w : World) (hH : HO w) : Calls Try.prog 13 #[] w fun e w' => e = .returned (.bool true) ∧ Below w.heap.size w w' := by
  obtain ⟨W0, eW0⟩ : ∃ W0, W0 = (w.alloc (.cells #[.int .u8 97, .int .u8 98] 5 (2, 3))).alloc (.cells #[.int .u8 4, .slice (some ⟨w.heap.size, 0, none⟩) 2 2, nilS] 25) := ⟨_, rfl⟩
  have hb0 : Below w.heap.size w W0 := by rw [eW0]; exact below_alloc ((Below.refl _ _).alloc (Nat.le_refl _) _) _
  have hI := alive_is w
  rw [← eW0] at hI
  have hE := B.enc _ _ _ W0 (B.keep _ _ hH hb0) hI
  rw [alive_enc, eW0] at hE
  have HB0 := Lib.hid hb0
  have HW0 := Lib.hid eW0
  have HB := Lib.hid B
  have HH := Lib.hid hH
  clear hI hb0 eW0 hH B
  have kc := fun (w : World) (C : Array Value) (n c : Nat) => Lib.run_convert_bytes_const (P := Try.prog) w 22 5 C n c Try.underlying22 Try.underlying5
  go_enter Try.func13, Try.ntmps13
  go_wp2_with fail
  refine hE.mono ?_
  intro e w1 hh
  rw [← HW0.out] at hh
  clear hE
  rcases hh.cases with ⟨q, A, c, hr, rfl, hq, hb1⟩ | ⟨n, hr, _⟩
  rotate_left
  · cases hr
  injection hr with hr
  subst hr
  have hbw := below_more HB0.out hb1
  have hD := HB.out.dec _ A c w1 (HB.out.keep _ _ HH.out hbw) hq
  rw [alive_dec] at hD
  have HQ := Lib.hid hq
  clear hh hb1 hq
  go_wp2_with fail
  refine hD.mono ?_
  intro e w2 hh
  clear hD
  rcases hh.cases with ⟨t, A1, c1, A2, c2, hr, rfl, hJ, hb2⟩ | ⟨n, hr, _⟩
  rotate_left
  · cases hr
  injection hr with hr
  subst hr
  have hbw2 := below_more hbw hb2
  have HQ2 := Lib.hid (HQ.out.on hb2)
  have hsz : w.heap.size ≤ w2.heap.size := hbw2.size
  clear hh hb2 hJ hbw
  obtain ⟨W3, eW3⟩ : ∃ W3, W3 = w2.alloc (.cells #[.int .u8 48, .slice A1 0 c1, .slice A2 1 c2] 25) := ⟨_, rfl⟩
  have hb3 : Below w2.heap.size w2 W3 := by rw [eW3]; exact (Below.refl _ _).alloc (Nat.le_refl _) _
  have hl3 : Lies W3 w2.heap.size 25 [.int .u8 48, .slice A1 0 c1, .slice A2 1 c2] := by rw [eW3]; exact Lies.new_ rfl
  have hbw3 := below_more hbw2 hb3
  have hWh := HB.out.whole 128 W3 (HB.out.keep _ _ HH.out hbw3) (by decide)
  rw [alive_whole] at hWh
  have HWh := Lib.hid hWh
  rw [eW3] at HWh
  have HW3 := Lib.hid eW3
  have HQ3 := Lib.hid (HQ2.out.on hb3)
  have HL3 := Lib.hid hl3
  clear eW3 hb3 hl3 hWh hbw2 HQ HQ2 kc
  go_wp2_with fail
  refine HWh.out.mono ?_
  rintro e w4 ⟨A3, c3, rfl, hq4, hb4⟩
  rw [← HW3.out] at hb4
  clear HWh
  have hbw4 := below_more hbw3 hb4
  have hNu := HB.out.number _ A3 c3 w4 (HB.out.keep _ _ HH.out hbw4) hq4
  rw [alive_number] at hNu
  have HQ4 := Lib.hid (HQ3.out.on hb4)
  have HL4 := Lib.hid (HL3.out.below hb4 HL3.out.lt)
  clear hq4 hb4 hbw3 HQ3 HL3 HW3
  go_wp2_with fail
  refine hNu.mono ?_
  rintro e w5 ⟨rfl, hb5⟩
  have hbw5 := below_more hbw4 hb5
  have hcv : (convert 22 9 (.slice A 6 c)).run Try.prog w5 = .ok (.string { data := #[48, 4, 4, 2, 97, 98] }) w5 := conv_str (HQ4.out.on hb5)
  obtain ⟨⟨z0, z1, z2⟩, _⟩ := (HL4.out.below hb5 HL4.out.lt).three
  clear hNu hb5 hbw4 HQ4 HL4
  go_wp2_with fail
  go_ret
  exact ⟨rfl, hbw5⟩
end Go.Proofs.Ytcpfkhodailbfaa
