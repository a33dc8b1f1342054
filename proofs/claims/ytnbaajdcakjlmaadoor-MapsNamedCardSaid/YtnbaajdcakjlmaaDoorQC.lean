/-
  QC: JWord JHex JUint JUnit JEsc JLetter JTextR JNumber, side by side.
-/
import Derived.Test.YtnbaajdcakjlmaaDoorQB
import Derived.Test.YtnbaajdcakjlmaaDoorQM
import Derived.Lib.ConvBytes
import Derived.Laws.Strings3
import Derived.Laws.Closers25
import Derived.Laws.Closers25b
import Derived.BigCall
import Derived.BigGuard

/-
  The reader's word; texts and numbers as values.
-/
namespace Go.Proofs.YtnbaajdcakjlmaaDoor
open Go.RowKit

abbrev nilS : Value := .slice none 0 0
theorem gb_alloc {w w' : World} {o : Obj} {r : Option Nat} (h : (w.alloc o).grownBy w' r) : w.grownBy w' r := gb_trans (World.grownBy_alloc w o r) h
theorem isJ_bare (w : World) (ok : Nat → Prop) {k n : Int} {b : Bool} (hk : -9223372036854775808 ≤ k ∧ k ≤ 9223372036854775807) (hn : -9223372036854775808 ≤ n ∧ n ≤ 9223372036854775807) : IsJ w ok (jv k b n ByteArray.empty nilS nilS) (.mk k b n [] [] []) :=
  isJ_plain w ok (t := []) hk hn ⟨Nat.zero_le _, fun _ h => nomatch h⟩

set_option maxRecDepth 100000 in
set_option maxHeartbeats 1000000 in
theorem textJ_any (t : ByteArray) (ht : t.size ≤ 140737488355328) (w : World) :
    Calls Tryd.prog 28 #[.string t] w fun e w' => e = .returned (jv 3 false 0 t nilS nilS) ∧ IsJ w' (w.heap.size ≤ ·) (jv 3 false 0 t nilS nilS) (Jq.textJ (numsOf t)) ∧ Below w.heap.size w w' := by
  have hJ := fun w' => isJ_plain w' (w.heap.size ≤ ·) (k := 3) (n := 0) (b := false) (t := numsOf t) (by decide) (by decide) ⟨by rw [numsOf_length]; exact ht, numsOf_lt t⟩
  rw [strOf_numsOf] at hJ
  go_enter Tryd.func28, Tryd.ntmps28
  go_wp2
  exact bodyPost_ret (v := jv 3 false 0 t nilS nilS) (by simp [results, Tryd.results28, go_sem]) rfl ⟨rfl, hJ _, (Below.refl _ _).alloc (Nat.le_refl _) _⟩
set_option maxRecDepth 100000 in
set_option maxHeartbeats 1000000 in
theorem intJ_any (n : Int) (hn : -9223372036854775808 ≤ n ∧ n ≤ 9223372036854775807) (w : World) :
    Calls Tryd.prog 29 #[.int .i64 n] w fun e w' => e = .returned (jv 2 false n ByteArray.empty nilS nilS) ∧ IsJ w' (w.heap.size ≤ ·) (jv 2 false n ByteArray.empty nilS nilS) (Jq.intJ n) ∧ Below w.heap.size w w' := by
  have hJ := fun w' => isJ_bare w' (w.heap.size ≤ ·) (k := 2) (n := n) (b := false) (by decide) hn
  clear hn
  go_enter Tryd.func29, Tryd.ntmps29
  go_wp2
  exact bodyPost_ret (v := jv 2 false n ByteArray.empty nilS nilS) (by simp [results, Tryd.results29, go_sem]; rfl) rfl ⟨rfl, hJ _, (Below.refl _ _).alloc (Nat.le_refl _) _⟩
end Go.Proofs.YtnbaajdcakjlmaaDoor

/-
  What four hexadecimal signs say, sign by sign.
-/
namespace Go.Proofs.YtnbaajdcakjlmaaDoor

/-- What so many hexadecimal signs from a place on say. -/
def hexN (S : List Nat) (i : Nat) : Nat → Nat
  | 0 => 0
  | k + 1 => hexN S i k * 16 + Jq.hexv (S.getD (i + k) 0)
theorem four_short : ∀ (l : List Nat), l.length < 4 → Jq.four l = none
  | [], _ => rfl
  | [_], _ => rfl
  | [_, _], _ => rfl
  | [_, _, _], _ => rfl
  | _ :: _ :: _ :: _ :: _, h => by simp at h; omega
theorem getD_drop (S : List Nat) (i j : Nat) : (S.drop i).getD j 0 = S.getD (i + j) 0 := by
  rw [List.getD_eq_getElem?_getD, List.getElem?_drop, List.getD_eq_getElem?_getD]
theorem four_yes {S : List Nat} {i : Nat} (h : ∀ j, j < 4 → Jq.hexv (S.getD (i + j) 0) < 16) : Jq.four (S.drop i) = some (hexN S i 4) := by
  have hl : 4 ≤ (S.drop i).length := by
    rcases Nat.lt_or_ge (S.drop i).length 4 with hl | hl
    · exfalso
      have := h 3 (by omega)
      rw [← getD_drop, List.getD_eq_getElem?_getD, List.getElem?_eq_none (by omega)] at this
      exact absurd this (by decide)
    · exact hl
  have h0 := h 0 (by omega)
  have h1 := h 1 (by omega)
  have h2 := h 2 (by omega)
  have h3 := h 3 (by omega)
  simp only [hexN]
  rw [← getD_drop] at h0 h1 h2 h3
  rw [← getD_drop, ← getD_drop, ← getD_drop, ← getD_drop]
  match hd : S.drop i, hl with
  | a :: b :: c :: d :: r, _ =>
    rw [hd] at h0 h1 h2 h3
    rw [Jq.four, if_pos ⟨h0, h1, h2, h3⟩]
    simp
theorem four_no {S : List Nat} {i j : Nat} (hj : j < 4) (h : ¬ Jq.hexv (S.getD (i + j) 0) < 16) : Jq.four (S.drop i) = none := by
  rcases Nat.lt_or_ge (S.drop i).length 4 with hl | hl
  · exact four_short _ hl
  rw [← getD_drop] at h
  match hd : S.drop i, hl with
  | a :: b :: c :: d :: r, _ =>
    rw [hd] at h
    rw [Jq.four, if_neg]
    rintro ⟨h0, h1, h2, h3⟩
    match j, hj with
    | 0, _ => exact h h0
    | 1, _ => exact h h1
    | 2, _ => exact h h2
    | 3, _ => exact h h3
theorem hexN_lt {S : List Nat} {i : Nat} : ∀ (k : Nat), (∀ j, j < k → Jq.hexv (S.getD (i + j) 0) < 16) → hexN S i k < 16 ^ k
  | 0, _ => Nat.lt_of_lt_of_le Nat.zero_lt_one (Nat.le_refl _)
  | k + 1, h => by
    have ih := hexN_lt k fun j hj => h j (by omega)
    have := h k (by omega)
    rw [hexN, Nat.pow_succ]
    omega
end Go.Proofs.YtnbaajdcakjlmaaDoor

/-
  The library's ParseUint on four bytes, at base 16 and 16 bits.
-/
namespace Go.Proofs.YtnbaajdcakjlmaaDoor
open Go.RowKit
set_option maxRecDepth 100000 in
theorem low_letter : ∀ x : Fin 256, (65 ≤ x.val → x.val ≤ 90 → bits .or .u8 ((x.val : Nat) : Int) 32 = ((x.val + 32 : Nat) : Int)) ∧ (97 ≤ x.val → x.val ≤ 122 → bits .or .u8 ((x.val : Nat) : Int) 32 = ((x.val : Nat) : Int)) ∧ (¬ (65 ≤ x.val ∧ x.val ≤ 90) → ¬ (97 ≤ x.val ∧ x.val ≤ 122) → ¬ (97 ≤ bits .or .u8 ((x.val : Nat) : Int) 32 ∧ bits .or .u8 ((x.val : Nat) : Int) 32 ≤ 122)) := by decide

end Go.Proofs.YtnbaajdcakjlmaaDoor

/-
  The reader's unit: a u and four hexadecimal signs.
-/
namespace Go.Proofs.YtnbaajdcakjlmaaDoor
open Go.RowKit

/-- How the public ParseUint ends. -/
def UintEnd (L : List Nat) (w : World) (e : Ending) (w' : World) : Prop :=
  Below w.heap.size w w' ∧ ((∃ n : Nat, Jq.four L = some n ∧ e = .returned (.tuple #[.int .u64 (n : Int), .nilIface])) ∨ (Jq.four L = none ∧ ∃ (v : Int) (t : TypeId) (p : Value), e = .returned (.tuple #[.int .u64 v, .iface t p])))
abbrev uB : ByteArray := { data := #[117] }
theorem head_u {s : ByteArray} : (numsOf s).take 1 = numsOf uB ↔ (numsOf s).head? = some 117 := by
  have e : numsOf uB = [117] := rfl
  rw [e]
  cases numsOf s with
  | nil => simp
  | cons a r => simp
theorem unit_cases (L : List Nat) (h : L.head? = some 117) : Jq.unit L = (Jq.four (L.drop 1)).map fun n => (n, L.drop 5) := by
  match L, h with
  | a :: r, h =>
    have : a = 117 := by simpa using h
    subst this
    rw [Jq.unit_u]
    rfl
/-- A step that gives a value, or ErrJsonText. -/
def orText {α : Type} : Option (α × List Nat) → Jq.R α
  | none => .error 53
  | some p => .ok p

end Go.Proofs.YtnbaajdcakjlmaaDoor

/-
  The reader's short, escapedRune and escape.
-/
namespace Go.Proofs.YtnbaajdcakjlmaaDoor
open Go.RowKit

/-- How short ends. -/
def ShortEnd (c : Nat) (w : World) (e : Ending) (w' : World) : Prop :=
  w = w' ∧ match Jq.short c with
  | some x => e = .returned (.int .i32 (x : Int))
  | none => e = errEnd 53
end Go.Proofs.YtnbaajdcakjlmaaDoor

/-
  The reader's escape and letter.
-/
namespace Go.Proofs.YtnbaajdcakjlmaaDoor
open Go.RowKit

theorem nums_cons {s : ByteArray} {c : Nat} (h0 : s.size ≠ 0) (hc : (numsOf s).getD 0 0 = c) : numsOf s = c :: (numsOf s).drop 1 := by
  cases hh : numsOf s with
  | nil => exact absurd ((nums_nil s).1 hh) h0
  | cons a r =>
    rw [hh] at hc
    have : a = c := by simpa using hc
    subst this
    rfl

/-- The plain letter, by the library's decoder. -/
theorem letter_bad {L : List Nat} (h : L = [] ∨ L.getD 0 0 < 32 ∨ Jq.long L = 0) : Jq.letter L = none := by
  match L with
  | [] => rfl
  | c :: r =>
    rw [Jq.letter]
    rcases h with h | h | h
    · cases h
    · rw [if_pos (by simpa using h)]
    · by_cases h1 : c < 32
      · rw [if_pos h1]
      rw [if_neg h1]
      by_cases h2 : c = 92
      · exfalso
        subst h2
        have : Jq.isRune 1 (92 :: r) = true := by rw [Jq.isRune1 (by omega)]; rfl
        unfold Jq.long at h
        rw [if_pos this] at h
        cases h
      · rw [if_neg h2, if_pos h]
theorem letter_esc (r : List Nat) : Jq.letter (92 :: r) = Jq.escape r := by
  rw [Jq.letter, if_neg (by omega), if_pos rfl]
theorem small_byte {a : Nat} (h : a < 128) : ∀ {q : List Nat}, Jq.runeBytes a = q → q = [a] := fun e => by rw [← e, Jq.bytes_low h]
/-- What the decoder tells, put to the plain letter. -/
theorem dec_letter {L : List Nat} (hne : L ≠ []) {c k : Nat} (h : Jq.DecAs L (c, k)) :
    (((c = 65533 ∧ k ≤ 1) ∨ c < 32) ∧ Jq.letter L = none) ∨ (¬ (c = 65533 ∧ k ≤ 1) ∧ 32 ≤ c ∧ c ≤ 1114111 ∧ 1 ≤ k ∧ k ≤ L.length ∧ ((c = 92 ∧ k = 1 ∧ Jq.letter L = Jq.escape (L.drop k)) ∨ (c ≠ 92 ∧ Jq.letter L = some (c, L.drop k)))) := by
  rcases h with ⟨h1, h2⟩ | ⟨h1, h2, h3, h4, h5, h6, h7, h8, h9⟩
  · injection h1 with h1 h1'
    subst h1 h1'
    exact .inl ⟨.inl ⟨rfl, by omega⟩, letter_bad (.inr (.inr h2))⟩
  · simp only at h1 h2 h3 h4 h5 h6 h7 h8 h9
    match L, hne with
    | a :: r, _ =>
      by_cases hc : c < 128
      · have hk := h9.1 hc
        subst hk
        have ha : a = c := by
          rw [Jq.bytes_low hc] at h6
          have e : [c] = [a] := h6
          injection e with e
          exact e.symm
        subst ha
        by_cases h32 : a < 32
        · exact .inl ⟨.inr h32, letter_bad (.inr (.inl h32))⟩
        refine .inr ⟨h1, by omega, h7, h3, h5, ?_⟩
        by_cases h92 : a = 92
        · subst h92
          exact .inl ⟨rfl, rfl, letter_esc r⟩
        · refine .inr ⟨h92, ?_⟩
          rw [Jq.letter, if_neg h32, if_neg h92, h2, if_neg (by decide)]
          rfl
      · refine .inr ⟨h1, by omega, h7, h3, h5, .inr ⟨by omega, ?_⟩⟩
        have hk1 : k ≠ 1 := fun e => hc (h9.2 e)
        have ha : 128 ≤ a := by
          rcases Jq.runeBytes_cases c with ⟨h, _⟩ | ⟨_, _, hx⟩
          · omega
          · refine hx a ?_
            rw [h6]
            match k, h3 with
            | k + 1, _ => simp
        have hr : Jq.runeOf k (a :: r) = c := by
          have hlb : (Jq.runeBytes c).length = k := by rw [h6, List.length_take]; omega
          have h10 := Jq.rune_back h7 ((a :: r).drop k)
          rw [hlb, h6, List.take_append_drop] at h10
          exact h10
        rw [Jq.letter, if_neg (by omega), if_neg (by omega), h2, if_neg (by omega), hr]

end Go.Proofs.YtnbaajdcakjlmaaDoor

/-
  The reader's text, from the first quotation mark on.
-/
namespace Go.Proofs.YtnbaajdcakjlmaaDoor
open Go.RowKit

theorem own_gb {w w' : World} {base R : Nat} {e : TypeId} {size n : Nat} {v : Value} {xs : List Value} (h : w.ownsRow base e size v n xs) (hb : w.grownBy w' (some R)) (hR : R < base) : w'.ownsRow base e size v n xs :=
  h.kept hb (by
    cases hv : v.ownBlock with
    | none => exact .inl rfl
    | some k => exact .inr (fun e => by have := (h.lt k hv).1; injection e with e; omega))
/-- A row of the call's own is grown: what lies below its base is as it was. -/
theorem gb_row {w0 w w' : World} {R base : Nat} {v : Value} (h : w0.grownBy w (some R)) (hg : w.grownBy w' v.ownBlock) (hv : ∀ k, v.ownBlock = some k → base ≤ k) (hb : w0.heap.size ≤ base) : w0.grownBy w' (some R) :=
  ⟨hg.os.trans h.os, hg.tape.trans h.tape, hg.output.trans h.output, Nat.le_trans h.size hg.size, fun k hk hr => (hg.block k (Nat.lt_of_lt_of_le hk h.size) (fun e => by have := hv k e.symm; omega)).trans (h.block k hk hr)⟩
theorem letter_len {L r : List Nat} {x : Nat} (h : Jq.letter L = some (x, r)) : (Jq.runeBytes x).length + r.length ≤ L.length := by
  match L, h with
  | c :: q, h =>
    rw [Jq.letter] at h
    split at h
    · cases h
    split at h
    · obtain ⟨_, h2, _⟩ := Jq.escape_ok h
      rw [List.length_cons]; omega
    split at h
    · cases h
    · rename_i h0
      injection h with h
      injection h with h1 h2
      have hle := Jq.long_le (c :: q) (by omega)
      rw [← h1, ← h2, (Jq.long_rune_bytes h0).1, List.length_drop, List.length_take]
      omega
theorem rune_bytes_lt {r : Nat} (h : Jq.okRune r = true) : ∀ x ∈ Jq.runeBytes r, x < 256 := by
  have hr : r ≤ 1114111 := by
    unfold Jq.okRune at h
    simp only [Bool.and_eq_true, decide_eq_true_eq] at h
    exact h.1
  intro x hx
  unfold Jq.runeBytes at hx
  split at hx
  · simp at hx; omega
  · split at hx
    · simp at hx; omega
    · split at hx
      · simp at hx; omega
      · simp at hx; omega
/-- How much is left to read. -/
def restLen (R : Nat) (w : World) : Nat := match w.cell? ⟨R, 0, none⟩ with
  | some (.string s) => s.size
  | _ => 0
/-- A text that was read. -/
def IsText (t : List Nat) (v : Value) (_ : World) : Prop := v = .string (strOf t) ∧ t.length ≤ 4096 ∧ ∀ x ∈ t, x < 256

end Go.Proofs.YtnbaajdcakjlmaaDoor

/-
  The reader's number.
-/
namespace Go.Proofs.YtnbaajdcakjlmaaDoor
open Go.RowKit

def numVOf (m : Bool) (r : List Nat) : Jq.R Int := if Jq.NumBad m r then .error 52 else .ok (if m then -(Uq.val (Jq.digs r) : Int) else (Uq.val (Jq.digs r) : Int), r.drop (Jq.digs r).length)
def numV (L : List Nat) : Jq.R Int := if L.head? = some 45 then numVOf true (L.drop 1) else numVOf false L
theorem number_V (L : List Nat) : Jq.number L = (numV L).map fun q => (Jq.intJ q.1, q.2) := by
  have h : ∀ m r, Jq.numberOf m r = (numVOf m r).map fun q => (Jq.intJ q.1, q.2) := fun m r => by
    unfold Jq.numberOf numVOf
    split <;> rfl
  unfold Jq.number numV
  split <;> exact h _ _
theorem digs_drop (r : List Nat) : r.dropWhile Jq.dig = r.drop (Jq.digs r).length ∧ Jq.digs r = r.take (Jq.digs r).length := by
  have key : ∀ a b : List Nat, a ++ b = r → b = r.drop a.length ∧ a = r.take a.length := fun a b e => by subst e; simp
  exact key _ _ (List.takeWhile_append_dropWhile (p := Jq.dig) (l := r))
theorem digs_le (r : List Nat) : (Jq.digs r).length ≤ r.length := (List.takeWhile_prefix Jq.dig).length_le
theorem head_minus {s : ByteArray} : (numsOf s).take 1 = [45] ↔ (numsOf s).head? = some 45 := by
  cases numsOf s with
  | nil => simp
  | cons a r => simp
abbrev minusB : ByteArray := { data := #[45] }
theorem num_bad {m : Bool} {r : List Nat} (h : Jq.NumBad m r) : numVOf m r = .error 52 := if_pos h
theorem num_good {m : Bool} {r : List Nat} (h : ¬ Jq.NumBad m r) : numVOf m r = .ok (if m then -(Uq.val (Jq.digs r) : Int) else (Uq.val (Jq.digs r) : Int), r.drop (Jq.digs r).length) := if_neg h
/-- A number that was read. -/
def IsNum (n : Int) (v : Value) (_ : World) : Prop := v = .int .i64 n ∧ -9007199254740991 ≤ n ∧ n ≤ 9007199254740991

end Go.Proofs.YtnbaajdcakjlmaaDoor
