/-
  The contract of (*Hash).Sum: the digest of all that a hash was told.
-/
import Derived.Test.YtkfhfokeoieajaaDoorLast
import Derived.Deep.RegionWith
import Derived.Deep.MidRow
namespace Go.Proofs.YtkfhfokeoieajaaDoor
open Go.RowKit

namespace Sha
theorem mixAll_append (s : St) (A B : List Nat) (q j : Nat) (hA : A.length = 64 * q) : mixAll s (A ++ B) (q + j) = mixAll (mixAll s A q) B j := by
  have h0 : ∀ k, k ≤ q → mixAll s (A ++ B) k = mixAll s A k := by
    intro k hk
    induction k with
    | zero => rfl
    | succ k ih =>
      rw [mixAll, mixAll, ih (by omega)]
      congr 1
      rw [List.drop_append_of_le_length (by omega), List.take_append_of_le_length (by simp; omega)]
  induction j with
  | zero => exact h0 q (Nat.le_refl _)
  | succ j ih =>
    rw [← Nat.add_assoc, mixAll, ih, mixAll]
    congr 2
    rw [show 64 * (q + j) = A.length + 64 * j from by omega, List.drop_length_add_append]
theorem mixAll_take (s : St) (A B : List Nat) (q : Nat) (hA : A.length = 64 * q) : mixAll s (A ++ B) q = mixAll s A q := by
  exact mixAll_append s A B q 0 hA

theorem zeros_ends (n : Nat) : zeros n = ends (n % 64) - n % 64 - 9 := by
  unfold zeros ends
  split <;> omega

theorem padded_split (p : List Nat) : padded p = p.take (64 * (p.length / 64)) ++ tail (p.drop (64 * (p.length / 64))) p.length := by
  have hl : (p.drop (64 * (p.length / 64))).length = p.length % 64 := by simp; omega
  unfold padded tail
  rw [hl, zeros_ends]
  simp only [← List.append_assoc, List.take_append_drop]

theorem sum_split (p : List Nat) : sum p = (mixAll (mixAll init p (p.length / 64)) (tail (p.drop (64 * (p.length / 64))) p.length) (ends (p.length % 64) / 64)).bytes := by
  have hl : (p.drop (64 * (p.length / 64))).length = p.length % 64 := by simp; omega
  have ht := tail_length (p.drop (64 * (p.length / 64))) p.length (by omega)
  rw [hl] at ht
  have hA : (p.take (64 * (p.length / 64))).length = 64 * (p.length / 64) := by simp; omega
  unfold sum
  rw [padded_split, List.length_append, hA, ht]
  have e : (64 * (p.length / 64) + ends (p.length % 64)) / 64 = p.length / 64 + ends (p.length % 64) / 64 := by omega
  rw [e, mixAll_append _ _ _ _ _ hA]
  congr 2
  have := mixAll_take init (p.take (64 * (p.length / 64))) (p.drop (64 * (p.length / 64))) (p.length / 64) hA
  rw [List.take_append_drop] at this
  exact this.symm
theorem tail_lt (r : List Nat) (n : Nat) (hr : ∀ x ∈ r, x < 256) : ∀ x ∈ tail r n, x < 256 := by
  have hb : ∀ k n, ∀ x ∈ be n k, x < 256 := by
    intro k
    induction k with
    | zero => intro n x hx; simp [be] at hx
    | succ k ih =>
      intro n x hx
      simp only [be, List.mem_append, List.mem_cons, List.not_mem_nil, or_false] at hx
      rcases hx with hx | hx
      · exact ih _ x hx
      · omega
  intro x hx
  simp only [tail, List.mem_append, List.mem_cons, List.not_mem_nil, or_false, List.mem_replicate] at hx
  rcases hx with ((hx | hx) | hx) | hx
  · exact hr x hx
  · omega
  · omega
  · exact hb _ _ x hx
end Sha

/-- Bytes that lie in a block that is known whole. -/
theorem Lies.bytes {w : World} {g : Nat} {t : TypeId} {L : List Nat} (h : Lies w g t (u8s L)) (hL : ∀ x ∈ L, x < 256) (off n : Nat) : BytesAt w g off ((L.drop off).take n) := fun j x hj => by
  have hj' : L[off + j]? = some x := by
    rw [List.getElem?_take] at hj
    split at hj
    · rw [List.getElem?_drop] at hj; exact hj
    · cases hj
  refine ⟨hL x (List.mem_of_getElem? hj'), ?_⟩
  rw [h.cell]
  simp [u8s, hj']

/-- mix, its answer written out. -/
theorem mix_lit (s : Sha.St) (b off n c : Nat) (p : List Nat) (w : World) (hT : Tab w) (hn : 64 ≤ n) (hnc : n ≤ c) (hcm : c ≤ 9223372036854775807) (hp : p.length = 64) (hbw : b < w.heap.size)
    (hc : BytesAt w b off p) :
    Calls Tryd.prog 26 #[.agg #[.int .u32 s.a.toNat, .int .u32 s.b.toNat, .int .u32 s.c.toNat, .int .u32 s.d.toNat, .int .u32 s.e.toNat, .int .u32 s.f.toNat, .int .u32 s.g.toNat, .int .u32 s.h.toNat], .slice (some ⟨b, off, none⟩) n c] w
      fun e w' => ∃ a b c d x f g h : Sha.W, e = .returned (.agg #[.int .u32 a.toNat, .int .u32 b.toNat, .int .u32 c.toNat, .int .u32 d.toNat, .int .u32 x.toNat, .int .u32 f.toNat, .int .u32 g.toNat, .int .u32 h.toNat]) ∧
        Hid (Sha.mix s p = ⟨a, b, c, d, x, f, g, h⟩) ∧ Below w.heap.size w w' :=
  (mix_any s b off n c p w hT hn hnc hcm hp hbw hc).mono fun _ _ ⟨he, hb⟩ => ⟨_, _, _, _, _, _, _, _, he, rfl, hb⟩

/-- A world with eight words written from a block's head on. -/
def set8 (w : World) (g : Nat) (ya yb yc yd ye yf yg yh : Sha.W) : World := (((((((w.setCell ⟨g, 0, none⟩ (.int .u32 (ya.toNat : Int))).setCell ⟨g, 1, none⟩ (.int .u32 (yb.toNat : Int))).setCell ⟨g, 2, none⟩ (.int .u32 (yc.toNat : Int))).setCell ⟨g, 3, none⟩ (.int .u32 (yd.toNat : Int))).setCell ⟨g, 4, none⟩ (.int .u32 (ye.toNat : Int))).setCell ⟨g, 5, none⟩ (.int .u32 (yf.toNat : Int))).setCell ⟨g, 6, none⟩ (.int .u32 (yg.toNat : Int))).setCell ⟨g, 7, none⟩ (.int .u32 (yh.toNat : Int))
section
variable {w w0 : World} {g g' : Nat} {t : TypeId} {cs : List Value} {ya yb yc yd ye yf yg yh : Sha.W}
theorem put8 {xa xb xc xd xe xf xg xh : Sha.W} (h : Lies w g t (u32s [xa, xb, xc, xd, xe, xf, xg, xh] ++ cs)) : Lies (set8 w g ya yb yc yd ye yf yg yh) g t (u32s [ya, yb, yc, yd, ye, yf, yg, yh] ++ cs) :=
  (((((((h.put 0 _).put 1 _).put 2 _).put 3 _).put 4 _).put 5 _).put 6 _).put 7 _
theorem far8 (h : Lies w g' t cs) (hne : g' ≠ g) : Lies (set8 w g ya yb yc yd ye yf yg yh) g' t cs :=
  (((((((h.far hne _).far hne _).far hne _).far hne _).far hne _).far hne _).far hne _).far hne _
theorem below8 {B : Nat} (h : Below B w0 w) (hB : B ≤ g) : Below B w0 (set8 w g ya yb yc yd ye yf yg yh) :=
  (((((((h.setCell hB _).setCell hB _).setCell hB _).setCell hB _).setCell hB _).setCell hB _).setCell hB _).setCell hB _
end

theorem info25 : (Tryd.prog.info? 25).map (·.size) = some 32 := by kernel_rfl
theorem zero25 (w : World) : (zeroValue 25).run Tryd.prog w = .ok (.agg (z8 32).toArray) w := by kernel_rfl
theorem zero47 (w : World) : (zeroValue 47).run Tryd.prog w = .ok (.agg (z32 8).toArray) w := by kernel_rfl

/-- A hash that was told these bytes. -/
def HashIs (w : World) (g : Nat) (p : List Nat) : Prop :=
  ∃ rest, Lies w g 51 (hashCells (Sha.mixAll Sha.init p (p.length / 64)) rest p.length) ∧ rest.length = 64 ∧ rest.take (p.length % 64) = p.drop (64 * (p.length / 64)) ∧ ∀ x ∈ p, x < 256

theorem results_one {P : Program} {fn : Func} {p : Tmp} {ty : TypeId} (h : fn.results = #[.cell p ty]) (tmps : Array Value) (w : World) (g : Nat) (t : TypeId) (cs : List Value) (d : TypeDesc)
    (hp : tmps.getD p undef = .pointer (some ⟨g, 0, none⟩)) (hg : Lies w g t cs)
    (hu : P.underlying ty = some d) (hd : (match d with | .struct _ | .array _ _ => true | _ => false) = true) (hi : (P.info? ty).map (·.size) = some cs.length) :
    (results fn tmps).run P w = .ok (.agg cs.toArray) w :=
  results_cell_row h tmps w g t cs.toArray (0, 0) d hp hg hu hd (by rw [hi]; simp)

/-- The first words' bytes, and bytes 0 up to 32. -/
def wordsTo (l : List Sha.W) (j : Nat) : List Value := u8s ((l.take j).flatMap fun x => Sha.be x.toNat 4) ++ List.replicate (32 - 4 * j) (.int .u8 0)
theorem words_len (l : List Sha.W) : (l.flatMap fun x => Sha.be x.toNat 4).length = 4 * l.length := by
  induction l with
  | nil => rfl
  | cons x l ih => rw [List.flatMap_cons, List.length_append, ih, Sha.be_length, List.length_cons]; omega
theorem wordsTo_length (l : List Sha.W) (j : Nat) (hl : l.length = 8) (hj : j ≤ 8) : (wordsTo l j).length = 32 := by
  unfold wordsTo
  rw [List.length_append, u8s_length, words_len, List.length_take, List.length_replicate, hl]; omega
theorem wordsTo_next (l : List Sha.W) (j : Nat) (hl : l.length = 8) (hj : j < 8) : splice (wordsTo l j) (4 * j) (u8s (Sha.be (l.getD j 0).toNat 4)) = wordsTo l (j + 1) := by
  have hlen : (u8s ((l.take j).flatMap fun x => Sha.be x.toNat 4)).length = 4 * j := by rw [u8s_length, words_len, List.length_take, hl]; omega
  have h := splice_over (u8s ((l.take j).flatMap fun x => Sha.be x.toNat 4)) (u8s (Sha.be (l.getD j 0).toNat 4)) (.int .u8 0) (32 - 4 * j) 0 (by rw [u8s_length, Sha.be_length]; omega)
  rw [hlen] at h
  unfold wordsTo
  rw [Nat.add_zero] at h
  rw [h, List.take_succ_eq_append_getElem (by omega), List.flatMap_append, u8s_append, u8s_length, Sha.be_length]
  have e : l.getD j 0 = l[j] := by rw [List.getD_eq_getElem?_getD, List.getElem?_eq_getElem]; rfl
  rw [e, show 32 - 4 * (j + 1) = 32 - 4 * j - 0 - 4 from by omega]
  simp
theorem wordsTo_all (l : List Sha.W) (hl : l.length = 8) : wordsTo l 8 = u8s (l.flatMap fun x => Sha.be x.toNat 4) := by
  unfold wordsTo
  rw [List.take_of_length_le (by omega)]; simp

theorem last_facts (s : Sha.St) (rest : List Nat) (n : Nat) (hr : rest.length = 64) (hlt : ∀ x ∈ rest.take (n % 64), x < 256) :
    ∃ S L, Sha.ends (n % 64) = S ∧ Sha.tail (rest.take (n % 64)) n ++ List.replicate (128 - S) 0 = L ∧ (S = 64 ∨ S = 128) ∧ L.length = 128 ∧ (∀ x ∈ L, x < 256) ∧
      Sha.mixAll s L (S / 64) = Sha.mixAll s (Sha.tail (rest.take (n % 64)) n) (S / 64) := by
  have hm : (rest.take (n % 64)).length = n % 64 := by rw [List.length_take, hr]; omega
  have ht := Sha.tail_length (rest.take (n % 64)) n (by rw [hm]; omega)
  rw [hm] at ht
  have hc : Sha.ends (n % 64) = 64 ∨ Sha.ends (n % 64) = 128 := by unfold Sha.ends; split <;> simp
  refine ⟨_, _, rfl, rfl, hc, ?_, ?_, ?_⟩
  · rw [List.length_append, ht, List.length_replicate]; omega
  · intro x hx
    rcases List.mem_append.1 hx with hx | hx
    · exact Sha.tail_lt _ _ hlt x hx
    · have := List.eq_of_mem_replicate hx; omega
  · exact Sha.mixAll_take _ _ _ _ (by rw [ht]; omega)

set_option maxHeartbeats 400000 in
set_option maxRecDepth 100000 in
theorem hashSum_any (g : Nat) (p : List Nat) (w : World) (hT : Tab w) (hH : HashIs w g p) (hn : p.length < 2305843009213693952) :
    Calls Tryd.prog 17 #[.pointer (some ⟨g, 0, none⟩)] w fun e w' => e = .returned (.agg (u8s (Sha.sum p)).toArray) ∧ Below w.heap.size w w' := by
  obtain ⟨rest, hL, hr, hrt, hp⟩ := hH
  rw [Sha.sum_split, ← hrt]
  have hrt2 : ∀ x ∈ rest.take (p.length % 64), x < 256 := by
    rw [hrt]; intro x hx; exact hp x (List.mem_of_mem_drop hx)
  have Hr := Lib.hid hr
  have Hlt := Lib.hid hrt2
  obtain ⟨n, hpn⟩ : ∃ n, p.length = n := ⟨_, rfl⟩
  rw [hpn] at hn hL Hlt ⊢
  obtain ⟨s, hs⟩ : ∃ s, Sha.mixAll Sha.init p (n / 64) = s := ⟨_, rfl⟩
  rw [hs] at hL ⊢
  clear hr hrt hp hrt2 hpn hs
  have hg := hL.lt
  have hz := zero25
  go_enter Tryd.func17, Tryd.ntmps17
  go_wp2_with fail
  refine (lastGroups_any g s rest n _ (hL.alloc _) Hr.out hn).mono ?_
  rintro e w1 ⟨rfl, hb1⟩
  have hB : w.heap.size + 1 ≤ w1.heap.size := by have := hb1.size; simp at this; omega
  have hL1 : Lies w1 g 51 (hashCells s rest n) := (hL.alloc _).below hb1 (by simp; omega)
  have h01 : Lies w1 w.heap.size 25 (z8 32) := (Lies.made w _ (z8 32)).below hb1 (by simp)
  have hT1 : Tab w1 := Tab.below (Tab.below hT ((Below.refl _ _).alloc (Nat.le_refl _) _) hT.lt) hb1 (Nat.lt_of_lt_of_le hT.lt (by simp))
  have hbel1 : Below w.heap.size w w1 := ((Below.refl _ _).alloc (Nat.le_refl _) _).trans (hb1.mono (by simp))
  clear hb1 hL hT
  obtain ⟨S, L, hS, hLL, hSc, hlen, hlt, hmix⟩ := last_facts s rest n Hr.out Hlt.out
  rw [hS, hLL]
  have HS := Lib.hid hS
  have Hmix := Lib.hid hmix
  have Hlen := Lib.hid hlen
  have Hlt2 := Lib.hid hlt
  clear hS hLL hmix hlen hlt
  have hz2 := zero54
  have hz3 := zero47
  repeat ((fail_if_success (with_reducible show wpList _ _ _ (⟨none, _, _, _, _, _⟩ :: _) _ _)); first | go_values | go_skip | go_guarded | go_step | go_upon | go_back | go_simp)
  with_reducible refine store_lies rfl 54 (.tmp 3) (.tmp 12) rfl w1.heap.size (u8s L) 54 (z8 128) (Lies.new_ rfl) ?sx ?sy ?si ?sl ?s1 ?_
  case sx => rfl
  case sy => rfl
  case si => (rw [z8_length]; exact info54)
  case sl => rw [u8s_length, Hlen.out, z8_length]
  case s1 => exact List.all_eq_true.2 (u8s_one _)
  generalize hw2 : World.setRow _ _ _ = w2
  have hL2 : Lies w2 g 51 (hashCells s rest n) := by rw [← hw2]; exact (hL1.alloc _).farRow (by have := hL1.lt; omega)
  have h02 : Lies w2 w.heap.size 25 (z8 32) := by rw [← hw2]; exact (h01.alloc _).farRow (by omega)
  have h12 : Lies w2 w1.heap.size 54 (u8s L) := by rw [← hw2]; exact Lies.row (cs := z8 128) (Lies.new_ rfl)
  have hT2 : Tab w2 := by rw [← hw2]; exact hT1.below (below_row ((Below.refl _ _).alloc (Nat.le_refl _) _) (Nat.le_refl _)) hT1.lt
  have hbel2 : Below w.heap.size w w2 := by rw [← hw2]; exact below_row (hbel1.alloc (by omega) _) (by omega)
  have hB2 : w1.heap.size + 1 = w2.heap.size := by rw [← hw2]; simp
  clear hw2 hL1 h01 hT1 hbel1 hz hz2
  repeat ((fail_if_success (with_reducible show wpList _ _ _ (⟨some 17, _, _, _, _, _⟩ :: _) _ _)); first | go_values | go_skip | go_guarded | go_step | go_upon | go_back | go_simp)
  with_reducible refine wpList_load_mid rfl 47 (.tmp 16) rfl g 0 ?lx (u32s s.list) _ ?lc Tryd.underlying47 ?ld ?li ?_
  case lx => rfl
  case lc =>
    intro j v hv
    rw [Nat.zero_add, hL2.cell, hashCells, List.getElem?_append_left (by have := (List.getElem?_eq_some_iff.1 hv).1; exact this)]
    exact hv
  case ld => rfl
  case li => exact info47
  repeat ((fail_if_success (with_reducible show wpList _ _ _ (⟨none, _, _, _, _, _⟩ :: _) _ _)); first | go_values | go_skip | go_guarded | go_step | go_upon | go_back | go_simp)
  with_reducible refine store_lies rfl 47 (.tmp 5) (.tmp 17) rfl w2.heap.size (u32s s.list) 47 (z32 8) (Lies.new_ rfl) ?sx ?sy ?si ?sl ?s1 ?_
  case sx => rfl
  case sy => rfl
  case si => exact info47
  case sl => rfl
  case s1 => rfl
  go_frame
  generalize hw3 : World.setRow _ _ _ = w3
  have h03 : Lies w3 w.heap.size 25 (z8 32) := by rw [← hw3]; exact (h02.alloc _).farRow (by have := h02.lt; omega)
  have h13 : Lies w3 w1.heap.size 54 (u8s L) := by rw [← hw3]; exact (h12.alloc _).farRow (by omega)
  have h23 : Lies w3 w2.heap.size 47 (u32s s.list) := by rw [← hw3]; exact Lies.row (cs := z32 8) (Lies.new_ rfl)
  have hT3 : Tab w3 := by rw [← hw3]; exact hT2.below (below_row ((Below.refl _ _).alloc (Nat.le_refl _) _) (Nat.le_refl _)) hT2.lt
  have hbel3 : Below w.heap.size w w3 := by rw [← hw3]; exact below_row (hbel2.alloc (by omega) _) (by omega)
  clear hw3 hL2 h02 h12 hT2 hbel2 hz3
  obtain ⟨q, rfl, hq⟩ : ∃ q, S = 64 * q ∧ (q = 1 ∨ q = 2) := by
    rcases hSc with rfl | rfl
    · exact ⟨1, rfl, .inl rfl⟩
    · exact ⟨2, rfl, .inr rfl⟩
  rw [show ((64 * q : Nat) : Int) = 64 * (q : Int) from by omega]
  have hq1 : 1 ≤ q := by omega
  have hq2 : q ≤ 2 := by omega
  clear hSc hq
  go_wp2_with fail
  go_loopw [6] (fun i wr => ∃ (k : Nat) (xa xb xc xd xe xf xg xh : Sha.W), k ≤ q ∧ i = .int .i64 (64 * (k : Int)) ∧ Sha.mixAll s L k = ⟨xa, xb, xc, xd, xe, xf, xg, xh⟩ ∧
      Lies wr w.heap.size 25 (z8 32) ∧ Lies wr w1.heap.size 54 (u8s L) ∧ Lies wr w2.heap.size 47 (u32s [xa, xb, xc, xd, xe, xf, xg, xh]) ∧ Tab wr ∧ Below w.heap.size w wr)
    (fun i _ => 128 - (intOf i).toNat)
  case atStart => exact ⟨0, s.a, s.b, s.c, s.d, s.e, s.f, s.g, s.h, Nat.zero_le _, rfl, rfl, h03, h13, h23, hT3, hbel3⟩
  case round =>
    clear h03 h13 h23 hT3 hbel3
    obtain ⟨k, xa, xb, xc, xd, xe, xf, xg, xh, hk, rfl, hst, h0r, h1r, h2r, hTr, hbelr⟩ := hrel
    have Hst := Lib.hid hst
    clear hst
    obtain rfl | ⟨rfl, hq2g⟩ | hkq : (k = 0) ∨ (k = 1 ∧ 1 < q) ∨ k = q := by omega
    · rw [show (64 * ((0 : Nat) : Int)) = 0 from rfl]
      have hd : decide ((0 : Int) < 64 * (q : Int)) = true := by simp; omega
      have hby := h1r.bytes Hlt2.out 0 64
      have Hl64 : Hid (((L.drop 0).take 64).length = 64) := by unfold Hid; rw [List.length_take, List.length_drop, Hlen.out]; decide
      have c0 : wr.cell? ⟨w2.heap.size, 0, none⟩ = some (.int .u32 (xa.toNat : Int)) := h2r.cell 0
      have c1 : wr.cell? ⟨w2.heap.size, 1, none⟩ = some (.int .u32 (xb.toNat : Int)) := h2r.cell 1
      have c2 : wr.cell? ⟨w2.heap.size, 2, none⟩ = some (.int .u32 (xc.toNat : Int)) := h2r.cell 2
      have c3 : wr.cell? ⟨w2.heap.size, 3, none⟩ = some (.int .u32 (xd.toNat : Int)) := h2r.cell 3
      have c4 : wr.cell? ⟨w2.heap.size, 4, none⟩ = some (.int .u32 (xe.toNat : Int)) := h2r.cell 4
      have c5 : wr.cell? ⟨w2.heap.size, 5, none⟩ = some (.int .u32 (xf.toNat : Int)) := h2r.cell 5
      have c6 : wr.cell? ⟨w2.heap.size, 6, none⟩ = some (.int .u32 (xg.toNat : Int)) := h2r.cell 6
      have c7 : wr.cell? ⟨w2.heap.size, 7, none⟩ = some (.int .u32 (xh.toNat : Int)) := h2r.cell 7
      go_wp2_with fail
      have hw64 : IntKind.i64.wrap 64 = 64 := by decide
      go_region_with (go_at_call 26; refine (mix_lit ⟨xa, xb, xc, xd, xe, xf, xg, xh⟩ w1.heap.size 0 64 _ ((L.drop 0).take 64) _ (by exact hTr) (by omega) (by omega) (by omega) Hl64.out (by exact h1r.lt) (by exact hby)).mono ?_; rintro e w4 ⟨ya, yb, yc, yd, ye, yf, yg, yh, rfl, Hm, hb1⟩; have hX1 := Lies.below (by exact h2r) hb1 (by exact h2r.lt); have d0 : w4.cell? ⟨w2.heap.size, 0, none⟩ = some (.int .u32 (xa.toNat : Int)) := hX1.cell 0; have f0 := hX1.free 0; have d1 : w4.cell? ⟨w2.heap.size, 1, none⟩ = some (.int .u32 (xb.toNat : Int)) := hX1.cell 1; have f1 := hX1.free 1; have d2 : w4.cell? ⟨w2.heap.size, 2, none⟩ = some (.int .u32 (xc.toNat : Int)) := hX1.cell 2; have f2 := hX1.free 2; have d3 : w4.cell? ⟨w2.heap.size, 3, none⟩ = some (.int .u32 (xd.toNat : Int)) := hX1.cell 3; have f3 := hX1.free 3; have d4 : w4.cell? ⟨w2.heap.size, 4, none⟩ = some (.int .u32 (xe.toNat : Int)) := hX1.cell 4; have f4 := hX1.free 4; have d5 : w4.cell? ⟨w2.heap.size, 5, none⟩ = some (.int .u32 (xf.toNat : Int)) := hX1.cell 5; have f5 := hX1.free 5; have d6 : w4.cell? ⟨w2.heap.size, 6, none⟩ = some (.int .u32 (xg.toNat : Int)) := hX1.cell 6; have f6 := hX1.free 6; have d7 : w4.cell? ⟨w2.heap.size, 7, none⟩ = some (.int .u32 (xh.toNat : Int)) := hX1.cell 7; have f7 := hX1.free 7)
      clear c0 d0 f0 c1 d1 f1 c2 d2 f2 c3 d3 f3 c4 d4 f4 c5 d5 f5 c6 d6 f6 c7 d7 f7 hw64
      have hT4 : Tab w4 := Tab.below (by exact hTr) hb1 (by exact hTr.lt)
      have h04 := Lies.below (by exact h0r) hb1 (by exact h0r.lt)
      have h14 := Lies.below (by exact h1r) hb1 (by exact h1r.lt)
      have hb4 : Below w.heap.size w w4 := hbelr.drew.trans (hb1.mono (by exact hbelr.size))
      clear hb1
      go_wp2
      go_roundw
      case rel =>
        refine ⟨1, ya, yb, yc, yd, ye, yf, yg, yh, by omega, by go_num, ?_, far8 h04 (by have := h0r.lt; omega), far8 h14 (by omega), put8 (cs := []) hX1, ?_, below8 hb4 (by omega)⟩
        · rw [Sha.mixAll, Hst.out]; exact Hm.out
        · exact Tab.below hT4 (below8 (Below.refl w2.heap.size _) (Nat.le_refl _)) (by have := hTr.lt; omega)
      case measure => simp [intOf]
    · rw [show (64 * ((1 : Nat) : Int)) = 64 from rfl]
      have hd : decide ((64 : Int) < 64 * (q : Int)) = true := by simp; omega
      have hby := h1r.bytes Hlt2.out 64 64
      have Hl64 : Hid (((L.drop 64).take 64).length = 64) := by unfold Hid; rw [List.length_take, List.length_drop, Hlen.out]; decide
      have c0 : wr.cell? ⟨w2.heap.size, 0, none⟩ = some (.int .u32 (xa.toNat : Int)) := h2r.cell 0
      have c1 : wr.cell? ⟨w2.heap.size, 1, none⟩ = some (.int .u32 (xb.toNat : Int)) := h2r.cell 1
      have c2 : wr.cell? ⟨w2.heap.size, 2, none⟩ = some (.int .u32 (xc.toNat : Int)) := h2r.cell 2
      have c3 : wr.cell? ⟨w2.heap.size, 3, none⟩ = some (.int .u32 (xd.toNat : Int)) := h2r.cell 3
      have c4 : wr.cell? ⟨w2.heap.size, 4, none⟩ = some (.int .u32 (xe.toNat : Int)) := h2r.cell 4
      have c5 : wr.cell? ⟨w2.heap.size, 5, none⟩ = some (.int .u32 (xf.toNat : Int)) := h2r.cell 5
      have c6 : wr.cell? ⟨w2.heap.size, 6, none⟩ = some (.int .u32 (xg.toNat : Int)) := h2r.cell 6
      have c7 : wr.cell? ⟨w2.heap.size, 7, none⟩ = some (.int .u32 (xh.toNat : Int)) := h2r.cell 7
      go_wp2_with fail
      have hw64 : IntKind.i64.wrap 128 = 128 := by decide
      go_region_with (go_at_call 26; refine (mix_lit ⟨xa, xb, xc, xd, xe, xf, xg, xh⟩ w1.heap.size 64 64 _ ((L.drop 64).take 64) _ (by exact hTr) (by omega) (by omega) (by omega) Hl64.out (by exact h1r.lt) (by exact hby)).mono ?_; rintro e w4 ⟨ya, yb, yc, yd, ye, yf, yg, yh, rfl, Hm, hb1⟩; have hX1 := Lies.below (by exact h2r) hb1 (by exact h2r.lt); have d0 : w4.cell? ⟨w2.heap.size, 0, none⟩ = some (.int .u32 (xa.toNat : Int)) := hX1.cell 0; have f0 := hX1.free 0; have d1 : w4.cell? ⟨w2.heap.size, 1, none⟩ = some (.int .u32 (xb.toNat : Int)) := hX1.cell 1; have f1 := hX1.free 1; have d2 : w4.cell? ⟨w2.heap.size, 2, none⟩ = some (.int .u32 (xc.toNat : Int)) := hX1.cell 2; have f2 := hX1.free 2; have d3 : w4.cell? ⟨w2.heap.size, 3, none⟩ = some (.int .u32 (xd.toNat : Int)) := hX1.cell 3; have f3 := hX1.free 3; have d4 : w4.cell? ⟨w2.heap.size, 4, none⟩ = some (.int .u32 (xe.toNat : Int)) := hX1.cell 4; have f4 := hX1.free 4; have d5 : w4.cell? ⟨w2.heap.size, 5, none⟩ = some (.int .u32 (xf.toNat : Int)) := hX1.cell 5; have f5 := hX1.free 5; have d6 : w4.cell? ⟨w2.heap.size, 6, none⟩ = some (.int .u32 (xg.toNat : Int)) := hX1.cell 6; have f6 := hX1.free 6; have d7 : w4.cell? ⟨w2.heap.size, 7, none⟩ = some (.int .u32 (xh.toNat : Int)) := hX1.cell 7; have f7 := hX1.free 7)
      clear c0 d0 f0 c1 d1 f1 c2 d2 f2 c3 d3 f3 c4 d4 f4 c5 d5 f5 c6 d6 f6 c7 d7 f7 hw64
      have hT4 : Tab w4 := Tab.below (by exact hTr) hb1 (by exact hTr.lt)
      have h04 := Lies.below (by exact h0r) hb1 (by exact h0r.lt)
      have h14 := Lies.below (by exact h1r) hb1 (by exact h1r.lt)
      have hb4 : Below w.heap.size w w4 := hbelr.drew.trans (hb1.mono (by exact hbelr.size))
      clear hb1
      go_wp2
      go_roundw
      case rel =>
        refine ⟨2, ya, yb, yc, yd, ye, yf, yg, yh, by omega, by go_num, ?_, far8 h04 (by have := h0r.lt; omega), far8 h14 (by omega), put8 (cs := []) hX1, ?_, below8 hb4 (by omega)⟩
        · rw [Sha.mixAll, Hst.out]; exact Hm.out
        · exact Tab.below hT4 (below8 (Below.refl w2.heap.size _) (Nat.le_refl _)) (by have := hTr.lt; omega)
      case measure => simp [intOf]
    · subst hkq
      have hd : decide (64 * (k : Int) < 64 * (k : Int)) = false := by simp
      have hz := zero25
      obtain ⟨wo, rfl⟩ : ∃ wo : World, wo = wr := ⟨_, rfl⟩
      have hwo : w2.heap.size < wo.heap.size := h2r.lt
      go_wp2_with fail
      clear hz hd
      go_loopw [29] (fun i w5 => ∃ j : Nat, j ≤ 8 ∧ i = .int .i64 j ∧ Lies w5 wo.heap.size 25 (wordsTo [xa, xb, xc, xd, xe, xf, xg, xh] j) ∧
          Lies w5 w.heap.size 25 (z8 32) ∧ Lies w5 w2.heap.size 47 (u32s [xa, xb, xc, xd, xe, xf, xg, xh]) ∧ Below w.heap.size w w5)
        (fun i _ => 8 - (intOf i).toNat)
      case atStart => exact ⟨0, Nat.zero_le _, rfl, Lies.new_ (cs := z8 32) rfl, h0r.alloc _, h2r.alloc _, hbelr.alloc hbelr.size _⟩
      case round =>
        obtain ⟨j, hj, rfl, hD, h05, h25, hb5⟩ := hrel
        clear h0r h1r h2r hTr hbelr
        by_cases hlt : j < 8
        · have hd : decide ((j : Int) < 8) = true := by simp; omega
          obtain ⟨x, hx⟩ : ∃ x, [xa, xb, xc, xd, xe, xf, xg, xh].getD j 0 = x := ⟨_, rfl⟩
          have Hx := Lib.hid hx
          have hcx : wr.cell? ⟨w2.heap.size, j, none⟩ = some (.int .u32 (x.toNat : Int)) := by rw [h25.cell, u32s_at _ (by simpa using hlt), hx]
          clear hx
          have m1 : IntKind.i64.wrap (4 * (j : Int)) = 4 * (j : Int) := IntWalk.i64_in _ (by omega)
          have m2 : (0 : Int) ≤ 4 * (j : Int) := by omega
          have m3 : 4 * (j : Int) ≤ 32 := by omega
          have m4 : (4 * (j : Int)).toNat = 4 * j := by omega
          have m5 : ¬ (32 = 4 * j) := by omega
          have m6 : (j : Int) < 8 := by omega
          go_wp2_with fail
          go_region_with (go_at_call 28; refine (putWord_lies wo.heap.size (4 * j) (32 - 4 * j) (32 - 4 * j) x _ 25 _ (by exact hD) (by omega) (by rw [wordsTo_length _ _ rfl (by omega)]; omega)).mono ?_; rintro e w6 ⟨rfl, hD6, hg6⟩)
          have hN : Lies w6 wo.heap.size 25 (wordsTo [xa, xb, xc, xd, xe, xf, xg, xh] (j + 1)) := by
            have := wordsTo_next [xa, xb, xc, xd, xe, xf, xg, xh] j rfl hlt
            rw [Hx.out] at this
            rw [this] at hD6
            exact hD6
          have h06 := Lies.grown (by exact h05) hg6 (by simp; omega)
          have h26 := Lies.grown (by exact h25) hg6 (by simp; omega)
          have hb6 : Below w.heap.size w w6 := hb5.drew.grown hg6 (by exact hb5.size) (by simp; omega)
          clear hD6 hg6 hcx m1 m2 m3 m4 m5 m6 hD h05 h25 hb5
          go_wp2
          go_roundw
          case rel => exact ⟨j + 1, by omega, by go_num, hN, h06, h26, hb6⟩
          case measure => simp [intOf]; omega
        · obtain rfl : j = 8 := by omega
          rw [wordsTo_all _ rfl] at hD
          have Hl32 : Hid ((u8s ([xa, xb, xc, xd, xe, xf, xg, xh].flatMap fun x => Sha.be x.toNat 4)).length = 32) := by unfold Hid; rw [u8s_length, words_len]; rfl
          have Hone : Hid ((u8s ([xa, xb, xc, xd, xe, xf, xg, xh].flatMap fun x => Sha.be x.toNat 4)).all (·.oneCell') = true) := List.all_eq_true.2 (u8s_one _)
          obtain ⟨D, hDe⟩ : ∃ D, u8s ([xa, xb, xc, xd, xe, xf, xg, xh].flatMap fun x => Sha.be x.toNat 4) = D := ⟨_, rfl⟩
          rw [hDe] at hD Hl32 Hone
          have HDe := Lib.hid hDe
          clear hDe
          have hd : decide (((8 : Nat) : Int) < 8) = false := by decide
          go_upto_region 13 with (fail)
          repeat ((fail_if_success (with_reducible show wpList _ _ _ (⟨some 40, _, _, _, _, _⟩ :: _) _ _)); first | go_values | go_skip | go_guarded | go_step | go_upon | go_back | go_simp)
          with_reducible refine load_lies rfl 25 (.tmp 7) rfl wo.heap.size 25 _ _ hD ?hx Tryd.underlying25 ?hd ?hi ?_
          case hx => rfl
          case hd => rfl
          case hi => (rw [Hl32.out]; exact info25)
          repeat ((fail_if_success (with_reducible show wpList _ _ _ (⟨none, _, _, _, _, _⟩ :: _) _ _)); first | go_values | go_skip | go_guarded | go_step | go_upon | go_back | go_simp)
          with_reducible refine store_lies rfl 25 (.tmp 2) (.tmp 40) rfl w.heap.size D 25 (z8 32) h05 ?sx ?sy ?si ?sl ?s1 ?_
          case sx => rfl
          case sy => rfl
          case si => (rw [z8_length]; exact info25)
          case sl => rw [Hl32.out, z8_length]
          case s1 => exact Hone.out
          go_wp2
          refine bodyPost_ret (results_one Tryd.results17 _ _ w.heap.size 25 D _ rfl h05.row Tryd.underlying25 rfl (by rw [Hl32.out]; exact info25)) rfl ⟨?_, below_row hb5 (Nat.le_refl _)⟩
          have e : 64 * k / 64 = k := by omega
          rw [HS.out, ← Hmix.out, e, Hst.out, ← HDe.out]; rfl
end Go.Proofs.YtkfhfokeoieajaaDoor
