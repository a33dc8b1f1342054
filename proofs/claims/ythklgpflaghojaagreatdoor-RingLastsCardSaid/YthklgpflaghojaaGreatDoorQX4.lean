/-
  QX4: JREsc JRT JRL JRBox JROut JRWord, side by side.
-/
import Derived.Test.YthklgpflaghojaaGreatDoorQX1
import Derived.Test.YthklgpflaghojaaGreatDoorQC
import Derived.Test.YthklgpflaghojaaGreatDoorQS
import Derived.Test.YthklgpflaghojaaGreatDoorQA

/-
  The document's escape.
-/
namespace Go.Proofs.YthklgpflaghojaaGreatDoor
open Go.RowKit
theorem drop_of {S : List Nat} {i c : Nat} (h : S.getD i 0 = c) (hc : c ≠ 0) : i < S.length ∧ S.drop i = c :: S.drop (i + 1) := by
  have hi : i < S.length := by
    rcases Nat.lt_or_ge i S.length with h1 | h1
    · exact h1
    · exfalso; rw [List.getD_eq_getElem?_getD, List.getElem?_eq_none h1] at h; exact hc h.symm
  refine ⟨hi, ?_⟩
  rw [List.drop_eq_getElem_cons hi]
  rw [List.getD_eq_getElem?_getD, List.getElem?_eq_getElem hi] at h
  simp at h
  rw [h]
end Go.Proofs.YthklgpflaghojaaGreatDoor

/-
  The document's reading, plain: what holds at a place of the text.
-/
namespace Go.Proofs.YthklgpflaghojaaGreatDoor
open Go.RowKit

theorem text_if (c : Nat) (r : List Nat) : Jq.text (c :: r) = if c < 32 then .error 53 else if c = 34 then .ok ([], r) else if c = 92 then (match Jq.escape r with
      | none => .error 53
      | some (x, r') => (Jq.text r').map fun q => (Jq.runeBytes x ++ q.1, q.2))
    else if Jq.long (c :: r) = 0 then .error 53 else (Jq.text ((c :: r).drop (Jq.long (c :: r)))).map fun q => ((c :: r).take (Jq.long (c :: r)) ++ q.1, q.2) := by
  by_cases hc : c = 34
  · subst hc
    rw [Jq.text_end]
    simp
  · have hh : (c :: r).head? ≠ some 34 := by simpa using hc
    rw [Jq.text_step hh, Jq.letter]
    by_cases h1 : c < 32
    · rw [if_pos h1, if_pos h1]
    rw [if_neg h1, if_neg h1, if_neg hc]
    by_cases h2 : c = 92
    · rw [if_pos h2, if_pos h2]
      cases Jq.escape r <;> rfl
    rw [if_neg h2, if_neg h2]
    by_cases h3 : Jq.long (c :: r) = 0
    · rw [if_pos h3, if_pos h3]
    rw [if_neg h3, if_neg h3]
    simp only
    rw [(Jq.long_rune_bytes h3).1]
theorem drop_get {S : List Nat} {k c : Nat} (h : S.getD k 0 = c) (hk : k < S.length) : S.drop k = c :: S.drop (k + 1) := by
  rw [List.drop_eq_getElem_cons hk]
  rw [List.getD_eq_getElem?_getD, List.getElem?_eq_getElem hk] at h
  simp at h
  rw [h]
theorem map_app {R : Jq.R (List Nat)} {a b : List Nat} : (R.map fun q => (b ++ q.1, q.2)).map (fun q => (a ++ q.1, q.2)) = R.map fun q => ((a ++ b) ++ q.1, q.2) := by
  cases R with
  | error e => rfl
  | ok p => simp [Except.map, List.append_assoc]
/-- A text under way: what the whole says, by what is read and what the rest says. -/
def TextAt (RES : Jq.R (List Nat)) (S : List Nat) (k : Nat) (acc : List Nat) : Prop := RES = (Jq.text (S.drop k)).map fun q => (acc ++ q.1, q.2)
section
variable {RES : Jq.R (List Nat)} {S : List Nat} {k c : Nat} {acc : List Nat}
theorem TextAt.fin (h : TextAt RES S k acc) (hk : k < S.length) (hc : S.getD k 0 = 34) : RES = .ok (acc, S.drop (k + 1)) := by
  rw [h, drop_get hc hk, text_if, if_neg (by decide), if_pos rfl]; simp [Except.map]
theorem TextAt.rune (h : TextAt RES S k acc) (hk : k < S.length) (hc : S.getD k 0 = c) (h1 : 32 ≤ c) (h2 : c ≠ 34) (h3 : c ≠ 92) {n : Nat} (hl : Jq.long (S.drop k) = n) (hn : n ≠ 0) : TextAt RES S (k + n) (acc ++ (S.drop k).take n) := by
  have e := drop_get hc hk
  have hl' := hl
  rw [e] at hl'
  unfold TextAt at h ⊢
  rw [h, e, text_if, if_neg (by omega), if_neg h2, if_neg h3, if_neg (by omega), hl', ← e, List.drop_drop]
  exact map_app
end

/-! A number's digits, so many of which are read. -/
/-- So many digits are read from a place on. -/
def DigAt (S : List Nat) (p j n : Nat) : Prop := j ≤ (Jq.digs (S.drop p)).length ∧ n = Uq.val ((Jq.digs (S.drop p)).take j)
theorem DigAt.zero (S : List Nat) (p : Nat) : DigAt S p 0 0 := ⟨Nat.zero_le _, rfl⟩
theorem digs_get {l : List Nat} {j : Nat} (hj : j ≤ (Jq.digs l).length) : (∀ c, l[j]? = some c → Jq.dig c = true → j < (Jq.digs l).length ∧ (Jq.digs l)[j]? = some c) ∧ ((∀ c, l[j]? = some c → Jq.dig c = false) → j = (Jq.digs l).length) := by
  obtain ⟨d1, d2⟩ := digs_drop l
  refine ⟨fun c hc hd => ?_, fun h => ?_⟩
  · have hlt : j < (Jq.digs l).length := by
      rcases Nat.lt_or_eq_of_le hj with h | h
      · exact h
      · exfalso
        have h0 : (l.drop j).head? = some c := by rw [List.head?_drop]; exact hc
        rw [h, ← d1] at h0
        have := List.head?_dropWhile_not Jq.dig l
        rw [h0] at this
        simp [hd] at this
    refine ⟨hlt, ?_⟩
    rw [d2, List.getElem?_take_of_lt hlt]
    exact hc
  · rcases Nat.lt_or_eq_of_le hj with h' | h'
    · exfalso
      have hlen := digs_le l
      have hc : l[j]? = some ((Jq.digs l)[j]) := by
        have : (Jq.digs l)[j]? = some ((Jq.digs l)[j]) := List.getElem?_eq_getElem h'
        rw [← this]
        conv => rhs; rw [d2]
        rw [List.getElem?_take_of_lt h']
      have := h _ hc
      have h2 := Jq.digs_dig l _ (List.getElem_mem h')
      rw [h2] at this
      cases this
    · exact h'
theorem getD_some {S : List Nat} {i c : Nat} (h : S.getD i 0 = c) (hc : c ≠ 0) : S[i]? = some c := by
  rw [List.getD_eq_getElem?_getD] at h
  cases hs : S[i]? with
  | none => rw [hs] at h; exact absurd h.symm hc
  | some x => rw [hs] at h; simp at h; rw [h]
theorem DigAt.step {S : List Nat} {p j n c : Nat} (h : DigAt S p j n) (hc : S.getD (p + j) 0 = c) (hd : Jq.dig c = true) : p + j < S.length ∧ DigAt S p (j + 1) (n * 10 + (c - 48)) := by
  obtain ⟨h1, h2⟩ := h
  have h48 := ((Jq.dig_iff c).1 hd).1
  have hs := getD_some hc (by omega)
  obtain ⟨k1, k2⟩ := (digs_get h1).1 c (by rw [List.getElem?_drop]; exact hs) hd
  refine ⟨(List.getElem?_eq_some_iff.1 hs).1, k1, ?_⟩
  rw [List.take_add_one, k2, Option.toList_some, Uq.val_snoc, h2]
theorem head_drop {S : List Nat} {i x : Nat} (hx : x ≠ 0) : (S.drop i).head? = some x ↔ S.getD i 0 = x := by
  rw [List.head?_drop, List.getD_eq_getElem?_getD]
  cases S[i]? with
  | none => simp; omega
  | some y => simp
end Go.Proofs.YthklgpflaghojaaGreatDoor

/-
  The document's reading, plain: lists and objects under way.
-/
namespace Go.Proofs.YthklgpflaghojaaGreatDoor
open Go.RowKit

/-- A list under way: what the whole says, by the elements read and what the rest says. -/
def ListAt (elem : List Nat → Jq.R Jq.J) (RES : Jq.R Jq.J) (S : List Nat) (k : Nat) (acc : List Jq.J) : Prop :=
  ∃ f, S.length - k < f ∧ RES = (Jq.items elem f (S.drop k)).map fun q => (Jq.listJ (acc ++ q.1), q.2)
def MembersAt (elem : List Nat → Jq.R Jq.J) (RES : Jq.R Jq.J) (S : List Nat) (k : Nat) (ns : List (List Nat)) (acc : List Jq.J) : Prop :=
  ∃ f, S.length - k < f ∧ RES = (Jq.members elem f ns (S.drop k)).map fun q => (Jq.objJ (ns ++ q.1.1) (acc ++ q.1.2), q.2)
section
variable {elem : List Nat → Jq.R Jq.J} {RES : Jq.R Jq.J} {S : List Nat} {k : Nat} {acc : List Jq.J} {ns : List (List Nat)}
theorem skip_head (j : Nat) {c : Nat} (hc : c ≠ 0) : (Jq.skip (S.drop j)).head? = some c ↔ S.getD (past S j) 0 = c := by
  rw [skip_drop, head_drop hc]
theorem skip_tail (j : Nat) : (Jq.skip (S.drop j)).drop 1 = S.drop (past S j + 1) := by
  rw [skip_drop, List.drop_drop]
theorem lt_of_get {i c : Nat} (h : S.getD i 0 = c) (hc : c ≠ 0) : i < S.length := (drop_of h hc).1
theorem ListAt.err (h : ListAt elem RES S k acc) {n : Nat} (he : elem (S.drop k) = .error n) : RES = .error n := by
  obtain ⟨f, hf, h⟩ := h
  cases f with
  | zero => omega
  | succ f => rw [h, Jq.items_if, he]; rfl
theorem ListAt.next (h : ListAt elem RES S k acc) {v : Jq.J} {r : List Nat} {j : Nat} (he : elem (S.drop k) = .ok (v, r)) (hr : r = S.drop j) (hkj : k ≤ j) (hj : j ≤ S.length) :
    (S.getD (past S j) 0 = 93 → RES = .ok (Jq.listJ (acc ++ [v]), S.drop (past S j + 1))) ∧
    (S.getD (past S j) 0 = 44 → ListAt elem RES S (past S (past S j + 1)) (acc ++ [v])) ∧
    (S.getD (past S j) 0 ≠ 93 → S.getD (past S j) 0 ≠ 44 → RES = .error 51) := by
  obtain ⟨f, hf, h⟩ := h
  cases f with
  | zero => omega
  | succ f =>
    rw [Jq.items_if, he] at h
    simp only at h
    subst hr
    refine ⟨fun hc => ?_, fun hc => ?_, fun h1 h2 => ?_⟩
    · rw [if_pos ((skip_head j (by decide)).2 hc), skip_tail] at h
      simpa [Except.map] using h
    · rw [if_neg (fun e => by rw [skip_head j (by decide), hc] at e; cases e), if_pos ((skip_head j (by decide)).2 hc), skip_tail, skip_drop] at h
      have g1 := past_ge hj
      have g2 := lt_of_get hc (by decide)
      have g3 := past_ge (S := S) (i := past S j + 1) (by omega)
      refine ⟨f, by omega, ?_⟩
      rw [h]
      cases Jq.items elem f (S.drop (past S (past S j + 1))) with
      | error e => rfl
      | ok p => simp [Except.map]
    · rw [if_neg (fun e => h1 ((skip_head j (by decide)).1 e)), if_neg (fun e => h2 ((skip_head j (by decide)).1 e))] at h
      exact h
/-- A member's name is read. -/
def NameAt (elem : List Nat → Jq.R Jq.J) (RES : Jq.R Jq.J) (S : List Nat) (k j : Nat) (t : List Nat) (ns : List (List Nat)) (acc : List Jq.J) : Prop :=
  ∃ f, S.length - k < f + 1 ∧ RES = (if t ∈ ns then (.error 54 : Jq.R (List (List Nat) × List Jq.J)) else if S.getD (past S j) 0 = 58 then (match elem (S.drop (past S j + 1)) with
          | .error e => .error e
          | .ok (v, r3) => if (Jq.skip r3).head? = some 125 then .ok (([t], [v]), (Jq.skip r3).drop 1) else if (Jq.skip r3).head? = some 44 then (Jq.members elem f (ns ++ [t]) (Jq.skip ((Jq.skip r3).drop 1))).map (fun q => ((t :: q.1.1, v :: q.1.2), q.2)) else .error 51)
        else .error 51).map fun q => (Jq.objJ (ns ++ q.1.1) (acc ++ q.1.2), q.2)
theorem MembersAt.name (h : MembersAt elem RES S k ns acc) (hc : S.getD k 0 = 34) :
    (∀ n, Jq.text (S.drop (k + 1)) = .error n → RES = .error n) ∧ (∀ t r j, Jq.text (S.drop (k + 1)) = .ok (t, r) → r = S.drop j → NameAt elem RES S k j t ns acc) := by
  obtain ⟨f, hf, h⟩ := h
  cases f with
  | zero => omega
  | succ f =>
    rw [Jq.members_if, if_pos ((head_drop (by decide)).2 hc), List.drop_drop] at h
    refine ⟨fun n ht => ?_, fun t r j ht hr => ⟨f, hf, ?_⟩⟩
    · rw [ht] at h; exact h
    · rw [ht] at h
      subst hr
      simp only [skip_head j (show (58 : Nat) ≠ 0 by decide), skip_tail] at h
      exact h
section
variable {j : Nat} {t : List Nat}
theorem NameAt.err (h : NameAt elem RES S k j t ns acc) (ht : t ∉ ns) (hc : S.getD (past S j) 0 = 58) {n : Nat} (he : elem (S.drop (past S j + 1)) = .error n) : RES = .error n := by
  obtain ⟨f, hf, h⟩ := h
  rw [h, if_neg ht, if_pos hc, he]; rfl
theorem NameAt.next (h : NameAt elem RES S k j t ns acc) (ht : t ∉ ns) (hc : S.getD (past S j) 0 = 58) {v : Jq.J} {r : List Nat} {i : Nat} (he : elem (S.drop (past S j + 1)) = .ok (v, r)) (hr : r = S.drop i) (hki : k ≤ i) (hi : i ≤ S.length) :
    (S.getD (past S i) 0 = 125 → RES = .ok (Jq.objJ (ns ++ [t]) (acc ++ [v]), S.drop (past S i + 1))) ∧
    (S.getD (past S i) 0 = 44 → MembersAt elem RES S (past S (past S i + 1)) (ns ++ [t]) (acc ++ [v])) ∧
    (S.getD (past S i) 0 ≠ 125 → S.getD (past S i) 0 ≠ 44 → RES = .error 51) := by
  obtain ⟨f, hf, h⟩ := h
  rw [if_neg ht, if_pos hc, he] at h
  simp only at h
  subst hr
  refine ⟨fun hc => ?_, fun hc => ?_, fun h1 h2 => ?_⟩
  · rw [if_pos ((skip_head i (by decide)).2 hc), skip_tail] at h
    simpa [Except.map] using h
  · rw [if_neg (fun e => by rw [skip_head i (by decide), hc] at e; cases e), if_pos ((skip_head i (by decide)).2 hc), skip_tail, skip_drop] at h
    have g1 := past_ge hi
    have g2 := lt_of_get hc (by decide)
    have g3 := past_ge (S := S) (i := past S i + 1) (by omega)
    refine ⟨f, by omega, ?_⟩
    rw [h]
    cases Jq.members elem f (ns ++ [t]) (S.drop (past S (past S i + 1))) with
    | error e => rfl
    | ok p => simp [Except.map]
  · rw [if_neg (fun e => h1 ((skip_head i (by decide)).1 e)), if_neg (fun e => h2 ((skip_head i (by decide)).1 e))] at h
    exact h
end
end
end Go.Proofs.YthklgpflaghojaaGreatDoor

/-
  The document's list or object under way: the variable and its two rows; how its reading functions end.
-/
namespace Go.Proofs.YthklgpflaghojaaGreatDoor
open Go.RowKit

structure RBox (kind : Int) (B V : Nat) (ns : List (List Nat)) (l : List Jq.J) (nv lv : Value) (w : World) : Prop where
  box : Lies w V 26 [.int .i64 kind, .bool false, .int .i64 0, .string ByteArray.empty, nv, lv]
  names : w.ownsRow B 9 1 nv ns.length (tcells ns)
  nlt : ∀ p ∈ ns, p.length ≤ 140737488355328 ∧ ∀ x ∈ p, x < 256
  rows : ∃ vs : List Value, vs.length = l.length ∧ w.ownsRow B 26 6 lv l.length (vs.flatMap jcells) ∧ ∀ (i : Nat) v x, vs[i]? = some v → l[i]? = some x → IsJ w (fun b => B ≤ b ∧ nv.ownBlock ≠ some b ∧ lv.ownBlock ≠ some b) v x
  apart : ∀ b, nv.ownBlock = some b → lv.ownBlock ≠ some b
  size : B ≤ w.heap.size
  hV : V < B
section
variable {kind : Int} {B V : Nat} {ns : List (List Nat)} {l : List Jq.J} {nv lv : Value} {w w' : World}
theorem RBox.on (h : RBox kind B V ns l nv lv w) (hb : Below w.heap.size w w') : RBox kind B V ns l nv lv w' := by
  obtain ⟨vs, hv, ho, hJ⟩ := h.rows
  exact ⟨h.box.below hb h.box.lt, own_below h.names hb, h.nlt, ⟨vs, hv, own_below ho hb, fun i v x h1 h2 => (hJ i v x h1 h2).on hb⟩, h.apart, Nat.le_trans h.size hb.size, h.hV⟩
theorem RBox.cells (h : RBox kind B V ns l nv lv w) : (w.cell? ⟨V, 0, none⟩ = some (.int .i64 kind) ∧ w.cell? ⟨V, 1, none⟩ = some (.bool false) ∧ w.cell? ⟨V, 2, none⟩ = some (.int .i64 0) ∧ w.cell? ⟨V, 3, none⟩ = some (.string ByteArray.empty) ∧ w.cell? ⟨V, 4, none⟩ = some nv ∧ w.cell? ⟨V, 5, none⟩ = some lv) ∧ w.frozen? ⟨V, 4, none⟩ = false ∧ w.frozen? ⟨V, 5, none⟩ = false :=
  ⟨h.box.six.1, h.box.free 4, h.box.free 5⟩
theorem RBox.isJ {C : Nat} (h : RBox kind B V ns l nv lv w) (hk : 0 ≤ kind ∧ kind ≤ 9) (hl : l.length ≤ 20000) (hn : ns.length ≤ 20000) (hC : C ≤ B) : IsJ w (C ≤ ·) (jv kind false 0 ByteArray.empty nv lv) (.mk kind false 0 [] ns l) := by
  obtain ⟨vs, hvs, ho, hel⟩ := h.rows
  have e : strOf [] = ByteArray.empty := rfl
  rw [← e]
  exact .mk (by omega) (by omega) ⟨Nat.zero_le _, fun _ h => nomatch h⟩ ((own_slIs h.names).keep (fun b hb _ => ⟨Nat.le_trans hC hb, rfl⟩) (Nat.le_refl _)) h.nlt (by omega)
    ((own_slIs ho).keep (fun b hb _ => ⟨Nat.le_trans hC hb, rfl⟩) (Nat.le_refl _)) hvs (by omega)
    (fun i v x e1 e2 => (hel i v x e1 e2).keep (fun b hb _ => ⟨Nat.le_trans hC hb.1, rfl⟩) (Nat.le_refl _))
/-- One element more: its row is grown, and then the variable is told. -/
theorem RBox.elem {C g cap : Nat} {v : Value} {x : Jq.J} {w1 w2 : World} {vs : List Value} (h : RBox kind B V ns l nv lv w1) (hvs : vs.length = l.length)
    (hel : ∀ (i : Nat) u y, vs[i]? = some u → l[i]? = some y → IsJ w1 (fun b => B ≤ b ∧ nv.ownBlock ≠ some b ∧ lv.ownBlock ≠ some b) u y)
    (hJ : IsJ w1 (C ≤ ·) v x) (hBC : B ≤ C) (hnC : ∀ k, nv.ownBlock = some k → k < C) (hlC : ∀ k, lv.ownBlock = some k → k < C) (hlb : ∀ k, lv.ownBlock = some k → B ≤ k)
    (hgr : w1.grownBy w2 lv.ownBlock) (hg : lv.ownBlock = some g ∨ g = w1.heap.size)
    (e1 : w2.ownsRow B 26 6 (.slice (some ⟨g, 0, none⟩) (l.length + 1) cap) (l.length + 1) (vs.flatMap jcells ++ jcells v)) :
    RBox kind B V ns (l ++ [x]) nv (.slice (some ⟨g, 0, none⟩) (l.length + 1) cap) (w2.setCell ⟨V, 5, none⟩ (.slice (some ⟨g, 0, none⟩) (l.length + 1) cap)) := by
  have hV := h.hV
  have hnlt := h.names.lt
  have hgB : B ≤ g := (e1.lt g rfl).1
  have key : ∀ k, k < w1.heap.size → k ≠ V → lv.ownBlock ≠ some k → (w2.setCell ⟨V, 5, none⟩ (.slice (some ⟨g, 0, none⟩) (l.length + 1) cap)).heap[k]? = w1.heap[k]? := fun k h1 h2 h3 => by
    rw [Below.heap_setCell _ _ _ _ h2, hgr.block k h1 (fun e => h3 e.symm)]
  have hs : w1.heap.size ≤ (w2.setCell ⟨V, 5, none⟩ (.slice (some ⟨g, 0, none⟩) (l.length + 1) cap)).heap.size := by
    have h1 := hgr.size
    have h2 : ∀ (W : World) (a : Addr) (v : Value), (W.setCell a v).heap.size = W.heap.size := fun W a v => by simp [World.setCell]
    rw [h2]; exact h1
  have napart : ∀ b, nv.ownBlock = some b → b ≠ g := fun b hb => by
    rcases hg with hg | hg
    · exact fun e => h.apart b hb (by rw [e]; exact hg)
    · have := (hnlt b hb).2; omega
  refine { h with
    box := by
      have := (h.box.grown hgr (fun e => by have := hlb V e.symm; omega)).put 5 (.slice (some ⟨g, 0, none⟩) (l.length + 1) cap)
      simpa using this
    names := own_far h.names (fun k hk => key k (hnlt k hk).2 (by have := (hnlt k hk).1; omega) (h.apart k hk))
    rows := ⟨vs ++ [v], by simp [hvs], by
      rw [List.length_append, List.flatMap_append]
      have : ([v] : List Value).flatMap jcells = jcells v := by simp
      rw [this]
      exact own_far e1 (fun k hk => Below.heap_setCell _ _ _ _ (show k ≠ V by have := (e1.lt k hk).1; omega)), ?_⟩
    apart := fun b hb => fun e => napart b hb (by simpa [Value.ownBlock] using e.symm)
    size := Nat.le_trans h.size hs }
  intro i u y hu hy
  by_cases hi : i < l.length
  · rw [List.getElem?_append_left (by omega)] at hu hy
    refine (hel i u y hu hy).keep (fun b hb hlt => ⟨⟨hb.1, hb.2.1, fun e => ?_⟩, key b hlt (by have := hb.1; omega) hb.2.2⟩) hs
    have hbg : b = g := by simpa [Value.ownBlock] using e.symm
    rcases hg with hg | hg
    · exact hb.2.2 (by rw [hbg]; exact hg)
    · omega
  · rw [List.getElem?_append_right (by omega)] at hu hy
    have hi0 : i - l.length = 0 := by
      have := (List.getElem?_eq_some_iff.1 hy).1
      simp at this; omega
    rw [hi0] at hy
    rw [hvs, hi0] at hu
    simp at hu hy
    subst hu hy
    refine hJ.keep (fun b hb hlt => ⟨⟨Nat.le_trans hBC hb, fun e => ?_, fun e => ?_⟩, key b hlt (by have : C ≤ b := hb; omega) (fun e => ?_)⟩) hs
    · have := hlC b e; have : C ≤ b := hb; omega
    · have := hnC b e; have : C ≤ b := hb; omega
    · have hbg : b = g := by simpa [Value.ownBlock] using e.symm
      have : C ≤ b := hb
      rcases hg with hg | hg
      · have := hlC g hg; omega
      · omega
/-- One name more. -/
theorem RBox.name {nv' : Value} {t : List Nat} {w2 : World} (h : RBox kind B V ns l nv lv w) (ht : t.length ≤ 140737488355328 ∧ ∀ x ∈ t, x < 256)
    (ho : w2.ownsRow B 9 1 nv' (ns.length + 1) (tcells ns ++ [.string (strOf t)])) (hgr : w.grownBy w2 nv.ownBlock) (hat : nv'.ownBlock = nv.ownBlock ∨ nv'.ownBlock = some w.heap.size) :
    RBox kind B V (ns ++ [t]) l nv' lv (w2.setCell ⟨V, 4, none⟩ nv') := by
  obtain ⟨vs, hvs, hr, hel⟩ := h.rows
  have hV := h.hV
  have hnlt := h.names.lt
  have hs : w.heap.size ≤ (w2.setCell ⟨V, 4, none⟩ nv').heap.size := by
    have h1 := hgr.size
    have h2 : ∀ (W : World) (a : Addr) (v : Value), (W.setCell a v).heap.size = W.heap.size := fun W a v => by simp [World.setCell]
    rw [h2]; exact h1
  have key : ∀ k, k < w.heap.size → k ≠ V → nv.ownBlock ≠ some k → (w2.setCell ⟨V, 4, none⟩ nv').heap[k]? = w.heap[k]? := fun k h1 h2 h3 => by
    rw [Below.heap_setCell _ _ _ _ h2, hgr.block k h1 (fun e => h3 e.symm)]
  have hnew : ∀ b, b < w.heap.size → nv.ownBlock ≠ some b → nv'.ownBlock ≠ some b := fun b h1 h2 e => by
    rcases hat with hat | hat
    · exact h2 (hat.symm.trans e)
    · rw [hat] at e; injection e with e; omega
  refine { h with
    box := by
      have := (h.box.grown hgr (fun e => by have := (hnlt V e.symm).1; omega)).put 4 nv'
      simpa using this
    names := by
      have e : tcells (ns ++ [t]) = tcells ns ++ [.string (strOf t)] := by simp [tcells]
      rw [e, List.length_append]
      exact own_far ho (fun k hk => Below.heap_setCell _ _ _ _ (show k ≠ V by have := (ho.lt k hk).1; omega))
    nlt := fun p hp => by
      rcases List.mem_append.1 hp with hp | hp
      · exact h.nlt p hp
      · rw [List.mem_singleton.1 hp]; exact ht
    rows := ⟨vs, hvs, own_far hr (fun k hk => key k (hr.lt k hk).2 (by have := (hr.lt k hk).1; omega) (fun e => h.apart k e hk)), fun i u y hu hy => (hel i u y hu hy).keep (fun b hb hlt => ⟨⟨hb.1, hnew b hlt hb.2.1, hb.2.2⟩, key b hlt (by have := hb.1; omega) hb.2.1⟩) hs⟩
    apart := fun b hb e => hnew b (hr.lt b e).2 (fun e' => h.apart b e' e) hb
    size := Nat.le_trans h.size hs }
end

/-- A value that was read, the place behind it, what is amiss. -/
abbrev gotV (k : Int) (b : Bool) (n : Int) (t : ByteArray) (names list : Value) (at_ e : Int) : Value := .agg #[.int .i64 k, .bool b, .int .i64 n, .string t, names, list, .int .i64 at_, .int .i64 e]
/-- How a reading function ends. -/
def GotEnd (S : List Nat) (i : Nat) (res : Jq.R Jq.J) (w : World) (e : Ending) (w' : World) : Prop := Below w.heap.size w w' ∧ match res with
  | .ok (x, r) => ∃ A1 c1 A2 c2, ∃ j : Nat, e = .returned (gotV x.kind x.bool x.int (strOf x.text) (.slice A1 x.names.length c1) (.slice A2 x.list.length c2) j 0) ∧ IsJ w' (w.heap.size ≤ ·) (jv x.kind x.bool x.int (strOf x.text) (.slice A1 x.names.length c1) (.slice A2 x.list.length c2)) x ∧ r = S.drop j ∧ j ≤ S.length ∧ i ≤ j
  | .error n => 0 < n ∧ ∃ k b m t A1 n1 c1 A2 n2 c2 at_, e = .returned (gotV k b m t (.slice A1 n1 c1) (.slice A2 n2 c2) at_ n)
section
variable {S : List Nat} {i : Nat} {res : Jq.R Jq.J} {w w' : World} {e : Ending}
theorem GotEnd.cases (h : GotEnd S i res w e w') :
    (∃ x r A1 c1 A2 c2, ∃ j : Nat, res = .ok (x, r) ∧ e = .returned (gotV x.kind x.bool x.int (strOf x.text) (.slice A1 x.names.length c1) (.slice A2 x.list.length c2) j 0) ∧ IsJ w' (w.heap.size ≤ ·) (jv x.kind x.bool x.int (strOf x.text) (.slice A1 x.names.length c1) (.slice A2 x.list.length c2)) x ∧ r = S.drop j ∧ j ≤ S.length ∧ i ≤ j ∧ Below w.heap.size w w') ∨
    (∃ n, res = .error n ∧ 0 < n ∧ (∃ k b m t A1 n1 c1 A2 n2 c2 at_, e = .returned (gotV k b m t (.slice A1 n1 c1) (.slice A2 n2 c2) at_ n)) ∧ Below w.heap.size w w') := by
  obtain ⟨hb, h⟩ := h
  cases hr : res with
  | ok p =>
    obtain ⟨x, r⟩ := p
    rw [hr] at h
    obtain ⟨A1, c1, A2, c2, j, h1, h2, h3, h4, h5⟩ := h
    exact .inl ⟨x, r, A1, c1, A2, c2, j, rfl, h1, h2, h3, h4, h5, hb⟩
  | error n =>
    rw [hr] at h
    exact .inr ⟨n, rfl, h.1, h.2, hb⟩
theorem GotEnd.err {n : Nat} {k m at_ : Int} {b : Bool} {t : ByteArray} {A1 A2 : Option Addr} {n1 c1 n2 c2 : Nat} (h : res = .error n) (hn : 0 < n) (hb : Below w.heap.size w w') : GotEnd S i res w (.returned (gotV k b m t (.slice A1 n1 c1) (.slice A2 n2 c2) at_ n)) w' := by
  rw [h]; exact ⟨hb, hn, _, _, _, _, _, _, _, _, _, _, _, rfl⟩
theorem GotEnd.ok {x : Jq.J} {r : List Nat} {A1 A2 : Option Addr} {c1 c2 j : Nat} (h : res = .ok (x, r)) (hJ : IsJ w' (w.heap.size ≤ ·) (jv x.kind x.bool x.int (strOf x.text) (.slice A1 x.names.length c1) (.slice A2 x.list.length c2)) x) (hr : r = S.drop j) (hj : j ≤ S.length) (hij : i ≤ j) (hb : Below w.heap.size w w') :
    GotEnd S i res w (.returned (gotV x.kind x.bool x.int (strOf x.text) (.slice A1 x.names.length c1) (.slice A2 x.list.length c2) j 0)) w' := by
  rw [h]; exact ⟨hb, _, _, _, _, _, rfl, hJ, hr, hj, hij⟩
end
end Go.Proofs.YthklgpflaghojaaGreatDoor

/-
  The result of the document's reading functions: a struct of eight cells in a block of the call's own.
-/
namespace Go.Proofs.YthklgpflaghojaaGreatDoor
open Go.RowKit
abbrev zero8 : List Value := [.int .i64 0, .bool false, .int .i64 0, .string ByteArray.empty, nilS, nilS, .int .i64 0, .int .i64 0]
/-- Eight cells are written. -/
abbrev put8 (w : World) (g : Nat) (a b c d e f h i : Value) : World := (((((((w.setCell ⟨g, 0, none⟩ a).setCell ⟨g, 1, none⟩ b).setCell ⟨g, 2, none⟩ c).setCell ⟨g, 3, none⟩ d).setCell ⟨g, 4, none⟩ e).setCell ⟨g, 5, none⟩ f).setCell ⟨g, 6, none⟩ h).setCell ⟨g, 7, none⟩ i
section
variable {w w' : World} {g : Nat} {ty : TypeId} {a b c d e f h i x0 x1 x2 x3 x4 x5 x6 x7 : Value}
theorem Lies.put8 (hl : Lies w g ty [x0, x1, x2, x3, x4, x5, x6, x7]) : Lies (put8 w g a b c d e f h i) g ty [a, b, c, d, e, f, h, i] := by
  have := (((((((hl.put 0 a).put 1 b).put 2 c).put 3 d).put 4 e).put 5 f).put 6 h).put 7 i
  simpa using this
theorem Lies.eight (hl : Lies w g ty [a, b, c, d, e, f, h, i]) : (w.cell? ⟨g, 0, none⟩ = some a ∧ w.cell? ⟨g, 1, none⟩ = some b ∧ w.cell? ⟨g, 2, none⟩ = some c ∧ w.cell? ⟨g, 3, none⟩ = some d ∧ w.cell? ⟨g, 4, none⟩ = some e ∧ w.cell? ⟨g, 5, none⟩ = some f ∧ w.cell? ⟨g, 6, none⟩ = some h ∧ w.cell? ⟨g, 7, none⟩ = some i) ∧
    (w.frozen? ⟨g, 0, none⟩ = false ∧ w.frozen? ⟨g, 1, none⟩ = false ∧ w.frozen? ⟨g, 2, none⟩ = false ∧ w.frozen? ⟨g, 3, none⟩ = false ∧ w.frozen? ⟨g, 4, none⟩ = false ∧ w.frozen? ⟨g, 5, none⟩ = false ∧ w.frozen? ⟨g, 6, none⟩ = false ∧ w.frozen? ⟨g, 7, none⟩ = false) :=
  ⟨⟨hl.cell 0, hl.cell 1, hl.cell 2, hl.cell 3, hl.cell 4, hl.cell 5, hl.cell 6, hl.cell 7⟩, hl.free 0, hl.free 1, hl.free 2, hl.free 3, hl.free 4, hl.free 5, hl.free 6, hl.free 7⟩
theorem put8_far {k : Nat} (hk : k ≠ g) : (Go.Proofs.YthklgpflaghojaaGreatDoor.put8 w g a b c d e f h i).heap[k]? = w.heap[k]? := by
  rw [Below.heap_setCell _ _ _ _ hk, Below.heap_setCell _ _ _ _ hk, Below.heap_setCell _ _ _ _ hk, Below.heap_setCell _ _ _ _ hk, Below.heap_setCell _ _ _ _ hk, Below.heap_setCell _ _ _ _ hk, Below.heap_setCell _ _ _ _ hk, Below.heap_setCell _ _ _ _ hk]
theorem put8_size : (Go.Proofs.YthklgpflaghojaaGreatDoor.put8 w g a b c d e f h i).heap.size = w.heap.size := by simp [World.setCell]
theorem below_put8 {w0 : World} {B : Nat} (hb : Below B w0 w) (hg : B ≤ g) : Below B w0 (Go.Proofs.YthklgpflaghojaaGreatDoor.put8 w g a b c d e f h i) :=
  (((((((hb.setCell hg _).setCell hg _).setCell hg _).setCell hg _).setCell hg _).setCell hg _).setCell hg _).setCell hg _
theorem IsJ.put8 {B : Nat} {v : Value} {x : Jq.J} (hJ : IsJ w (B ≤ ·) v x) (hg : g < B) : IsJ (Go.Proofs.YthklgpflaghojaaGreatDoor.put8 w g a b c d e f h i) (B ≤ ·) v x :=
  hJ.keep (fun k hk _ => ⟨hk, put8_far (by have : B ≤ k := hk; omega)⟩) (Nat.le_of_eq put8_size.symm)
end
section
variable {S : List Nat} {i G : Nat} {res : Jq.R Jq.J} {w wr : World}
theorem got_err {n : Nat} {k m at_ : Int} {b : Bool} {t : ByteArray} {A1 A2 : Option Addr} {n1 c1 n2 c2 : Nat} {a0 a1 a2 a3 a4 a5 a6 a7 : Value} (h : res = .error n) (hn : 0 < n) (hb : Below w.heap.size w wr) :
    GotEnd S i res w (.returned (gotV k b m t (.slice A1 n1 c1) (.slice A2 n2 c2) at_ n)) (put8 wr w.heap.size a0 a1 a2 a3 a4 a5 a6 a7) := GotEnd.err h hn (below_put8 hb (Nat.le_refl _))
theorem got_ok {x : Jq.J} {r : List Nat} {A1 A2 : Option Addr} {c1 c2 j C : Nat} {a0 a1 a2 a3 a4 a5 a6 a7 : Value} (h : res = .ok (x, r)) (hJ : IsJ wr (C ≤ ·) (jv x.kind x.bool x.int (strOf x.text) (.slice A1 x.names.length c1) (.slice A2 x.list.length c2)) x) (hC : w.heap.size < C) (hr : r = S.drop j) (hj : j ≤ S.length) (hij : i ≤ j) (hb : Below w.heap.size w wr) :
    GotEnd S i res w (.returned (gotV x.kind x.bool x.int (strOf x.text) (.slice A1 x.names.length c1) (.slice A2 x.list.length c2) j 0)) (put8 wr w.heap.size a0 a1 a2 a3 a4 a5 a6 a7) :=
  GotEnd.ok h ((hJ.put8 hC).from (Nat.le_of_lt hC)) hr hj hij (below_put8 hb (Nat.le_refl _))
end
end Go.Proofs.YthklgpflaghojaaGreatDoor

/-
  The document's word.
-/
namespace Go.Proofs.YthklgpflaghojaaGreatDoor
open Go.RowKit
end Go.Proofs.YthklgpflaghojaaGreatDoor
