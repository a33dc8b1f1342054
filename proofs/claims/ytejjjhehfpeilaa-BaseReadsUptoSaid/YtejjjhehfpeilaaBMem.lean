/-
  Bytes in memory and in texts, for the walks over base.
-/
import Derived.Test.YtejjjhehfpeilaaRows
import Derived.Test.YtejjjhehfpeilaaB64
import Derived.Test.YtejjjhehfpeilaaMem
import Derived.WalkKit
import Derived.WalkSpells
import Derived.WalkLawsBesides
import Derived.Lib.Hide
import Derived.Deep.QuietTactic
import Derived.BigQuiet
import Derived.ArgAppend
import Derived.Laws.BytesArg
import Derived.Laws.MakeOwn
import Derived.Lib.Bytealg
namespace Go.Proofs.Ytejjjhehfpeilaa
open Go.RowKit

theorem ret_int {k : IntKind} {a b : Int} (h : a = b) : Ending.returned (.int k a) = .returned (.int k b) := by rw [h]

/-- Bytes as cells. -/
def u8s (l : List Nat) : List Value := l.map fun (x : Nat) => .int .u8 (x : Int)
theorem u8s_length (l : List Nat) : (u8s l).length = l.length := by simp [u8s]
theorem u8s_append (l k : List Nat) : u8s (l ++ k) = u8s l ++ u8s k := by simp [u8s]
theorem u8s_one (l : List Nat) : ∀ v ∈ u8s l, v.oneCell' = true := by
  intro v hv
  simp only [u8s, List.mem_map] at hv
  obtain ⟨x, _, rfl⟩ := hv
  rfl
theorem u8s_set (X : List Nat) (j y : Nat) : (u8s X).set j (.int .u8 (y : Int)) = u8s (X.set j y) := by simp [u8s, List.map_set]
theorem u8s_at (l : List Nat) {j : Nat} (hj : j < l.length) : (u8s l)[j]? = some (.int .u8 (l.getD j 0 : Nat)) := by
  simp [u8s, List.getElem?_eq_getElem hj, List.getD_eq_getElem?_getD]

/-- A slice of bytes that reads as these. -/
def ArgIs (w : World) (A : Option Addr) (c : Nat) (q : List Nat) : Prop :=
  q.length ≤ c ∧ c ≤ 9223372036854775807 ∧ (∀ x ∈ q, x < 256) ∧ (0 < q.length → ∃ b off, A = some ⟨b, off, none⟩ ∧ b < w.heap.size ∧ BytesAt w b off q)
section
variable {w w' : World} {A : Option Addr} {c : Nat} {q : List Nat}
theorem ArgIs.below {B : Nat} (h : ArgIs w A c q) (hb : Below B w w') (hB : w.heap.size ≤ B) : ArgIs w' A c q :=
  ⟨h.1, h.2.1, h.2.2.1, fun hq => by
    obtain ⟨b, off, e, hbw, hby⟩ := h.2.2.2 hq
    exact ⟨b, off, e, Nat.lt_of_lt_of_le hbw hb.size, hby.below hb (by omega)⟩⟩
theorem ArgIs.alloc (h : ArgIs w A c q) (o : Obj) : ArgIs (w.alloc o) A c q := h.below ((Below.refl w.heap.size w).alloc (Nat.le_refl _) o) (Nat.le_refl _)
theorem ArgIs.drew (h : ArgIs w A c q) : ArgIs w.drew A c q := h
end

theorem Lies.bytes {w : World} {g : Nat} {t : TypeId} {L : List Nat} (h : Lies w g t (u8s L)) (hL : ∀ x ∈ L, x < 256) (off n : Nat) : BytesAt w g off ((L.drop off).take n) := fun j x hj => by
  rw [List.getElem?_take] at hj
  split at hj
  · rw [List.getElem?_drop] at hj
    refine ⟨hL x (List.mem_of_getElem? hj), ?_⟩
    rw [h.cell (off + j)]
    simp [u8s, hj]
  · cases hj
/-- Bytes of a block that is known whole. -/
theorem arg_lies {w : World} {g : Nat} {t : TypeId} {L : List Nat} {c : Nat} (h : Lies w g t (u8s L)) (hL : ∀ x ∈ L, x < 256) (hc : L.length ≤ c) (hcm : c ≤ 9223372036854775807) : ArgIs w (some ⟨g, 0, none⟩) c L :=
  ⟨hc, hcm, hL, fun _ => ⟨g, 0, rfl, h.lt, by
    have := h.bytes hL 0 L.length
    simpa using this⟩⟩
theorem arg_new {w : World} {g : Nat} (hg : g = w.heap.size) (t : TypeId) (fr : Nat × Nat) (L : List Nat) (c : Nat) (hL : ∀ x ∈ L, x < 256) (hc : L.length ≤ c) (hcm : c ≤ 9223372036854775807) :
    ArgIs (w.alloc (.cells (u8s L).toArray t fr)) (some ⟨g, 0, none⟩) c L :=
  ⟨hc, hcm, hL, fun _ => ⟨g, 0, rfl, by subst hg; simp, fun j x hj => ⟨hL x (List.mem_of_getElem? hj), by
    subst hg
    rw [Nat.zero_add, cell_of_row _ _ _ _ t fr (heap_alloc_new w _)]
    simp [u8s, hj]⟩⟩⟩

/-- The text that bytes are. -/
def strOf (q : List Nat) : ByteArray := strOfNums (q.map fun (x : Nat) => (x : Int))
/-- The bytes of a text. -/
def numsOf (s : ByteArray) : List Nat := s.data.toList.map fun u : UInt8 => u.toNat
theorem numsOf_lt (s : ByteArray) : ∀ x ∈ numsOf s, x < 256 := by
  intro x hx
  simp only [numsOf, List.mem_map] at hx
  obtain ⟨u, _, rfl⟩ := hx
  exact u.toNat_lt
theorem numsOf_length (s : ByteArray) : (numsOf s).length = s.size := by
  unfold numsOf
  rw [List.length_map]
  rfl
theorem numsOf_strOf {q : List Nat} (h : ∀ x ∈ q, x < 256) : numsOf (strOf q) = q := by
  simp only [numsOf, strOf, strOfNums, List.map_map]
  conv => rhs; rw [← List.map_id q]
  apply List.map_congr_left
  intro x hx
  have := h x hx
  simp [Nat.mod_eq_of_lt this]
theorem strOf_numsOf (s : ByteArray) : strOf (numsOf s) = s := by
  obtain ⟨⟨l⟩⟩ := s
  simp only [numsOf, strOf, strOfNums, List.map_map]
  congr 2
  conv => rhs; rw [← List.map_id l]
  apply List.map_congr_left
  intro x _
  simp
theorem strOf_inj {p q : List Nat} (hp : ∀ x ∈ p, x < 256) (hq : ∀ x ∈ q, x < 256) (h : strOf p = strOf q) : p = q := by
  rw [← numsOf_strOf hp, ← numsOf_strOf hq, h]
theorem strOf_size (q : List Nat) : (strOf q).size = q.length := by simp [strOf, strOfNums, ByteArray.size]
theorem strOf_append (p q : List Nat) : strOf p ++ strOf q = strOf (p ++ q) := by
  apply ByteArray.ext
  simp [strOf, strOfNums]
theorem str_beq {p q : List Nat} (hp : ∀ x ∈ p, x < 256) (hq : ∀ x ∈ q, x < 256) : ((strOf p).toList == (strOf q).toList) = decide (p = q) := by
  rw [Bool.eq_iff_iff, beq_iff_eq, decide_eq_true_iff, ByteArray.toList_eq, ByteArray.toList_eq]
  refine ⟨fun h => strOf_inj hp hq ?_, fun h => by rw [h]⟩
  have : (strOf p).data = (strOf q).data := Array.toList_inj.1 h
  exact ByteArray.ext this

theorem conv_any {w : World} {A : Option Addr} {c : Nat} {q : List Nat} (h : ArgIs w A c q) (src e dst : TypeId) (hs : Try.prog.underlying src = some (.slice e)) (he : Try.prog.underlying e = some (.int .u8)) (hd : Try.prog.underlying dst = some .string) :
    (convert src dst (.slice A q.length c)).run Try.prog w = .ok (.string (strOf q)) w := by
  rcases Nat.eq_zero_or_pos q.length with h0 | h0
  · obtain rfl : q = [] := List.eq_nil_of_length_eq_zero h0
    cases A with
    | none => exact run_convert_bytes_nil w src e hs he 0 c dst hd
    | some a =>
      rw [run_convert_bytes_string w src dst e _ _ c hs he hd]
      exact run_bytesToString w a 0 c [] (by
        have := run_loadCells_list (P := Try.prog) w a [] (fun j v hj => by simp at hj)
        simpa using this)
  · obtain ⟨b, off, rfl, _, hby⟩ := h.2.2.2 h0
    refine run_convert_bytes_arg w src e hs he b off q.length c _ (by simp) (fun i hi => ?_) dst hd
    rw [hby.get hi]
    simp [List.getElem?_eq_getElem hi]

theorem info5b : (Try.prog.info? 5).map (fun i => (i.zero, i.size, i.bytes)) = some (some (.int .u8 0), 1, 1) := by kernel_rfl
theorem info3b : (Try.prog.info? 3).map (fun i => (i.zero, i.size, i.bytes)) = some (some (.int .i64 0), 1, 8) := by kernel_rfl

/-- Bits of words. -/
theorem or_add (a b i : Nat) (h : b < 2 ^ i) : (2 ^ i * a) ||| b = 2 ^ i * a + b := (Nat.two_pow_add_eq_or_of_lt h a).symm
end Go.Proofs.Ytejjjhehfpeilaa
