/-
  The document's write and Encode.
-/
import Derived.Test.YtkjofadabaecfaaTRSize
import Derived.Test.YtkjofadabaecfaaTRAmiss
namespace Go.Proofs.Ytkjofadabaecfaa
open Go.RowKit

/-- How write ends. -/
def WrEnd (res : Option (List Nat)) (w : World) (e : Ending) (w' : World) : Prop := Below w.heap.size w w' ∧ match res with
  | some q => ∃ A c, e = .returned (.tuple #[.slice A q.length c, .bool true]) ∧ ArgIs w' A c q
  | none => e = .returned (.tuple #[nilS, .bool false])
theorem WrEnd.yes {res : Option (List Nat)} {q : List Nat} {w w' : World} {A : Option Addr} {c : Nat} (h : res = some q) (hq : ArgIs w' A c q) (hb : Below w.heap.size w w') : WrEnd res w (.returned (.tuple #[.slice A q.length c, .bool true])) w' := by
  rw [h]; exact ⟨hb, A, c, rfl, hq⟩
theorem WrEnd.no {res : Option (List Nat)} {w w' : World} (h : res = none) (hb : Below w.heap.size w w') : WrEnd res w (.returned (.tuple #[nilS, .bool false])) w' := by
  rw [h]; exact ⟨hb, rfl⟩
theorem WrEnd.cases {res : Option (List Nat)} {w w' : World} {e : Ending} (h : WrEnd res w e w') : (∃ q A c, res = some q ∧ e = .returned (.tuple #[.slice A q.length c, .bool true]) ∧ ArgIs w' A c q ∧ Below w.heap.size w w') ∨ (res = none ∧ e = .returned (.tuple #[nilS, .bool false]) ∧ Below w.heap.size w w') := by
  obtain ⟨hb, h⟩ := h
  cases hr : res with
  | some q =>
    rw [hr] at h
    obtain ⟨A, c, h1, h2⟩ := h
    exact .inl ⟨q, A, c, rfl, h1, h2, hb⟩
  | none =>
    rw [hr] at h
    exact .inr ⟨rfl, h, hb⟩
theorem write_form {lv : Nat} {t : Bq.T} (h : Bq.amiss lv t = 0) : ∃ g : Bq.T → Option (List Nat), Bq.write lv t = ((Bq.wlist g t.bytes t.list).bind fun x => if 65535 < x.length then none else some (t.tag :: (Bq.size x.length ++ x))) ∧
    (t.list ≠ [] → ∃ m, lv = m + 1 ∧ g = Bq.write m ∧ ∀ x ∈ t.list, Bq.amiss m x = 0) := by
  obtain ⟨_, h2, h3⟩ := Bq.amiss_zero h
  cases lv with
  | zero =>
    have hl : t.list = [] := h2 (Classical.byContradiction fun e => by
      obtain ⟨_, n, hn, _⟩ := h3 e
      cases hn)
    refine ⟨fun _ => none, ?_, fun e => absurd hl e⟩
    rw [hl, Bq.wlist, Bq.write]
    rfl
  | succ m =>
    refine ⟨Bq.write m, by rw [Bq.write], fun hne => ⟨m, rfl, rfl, ?_⟩⟩
    by_cases hs : t.tag / 32 % 2 = 0
    · exact absurd (h2 hs) hne
    · obtain ⟨_, n, hn, hx⟩ := h3 hs
      injection hn with hn
      subst hn
      exact hx
theorem wl_step {g : Bq.T → Option (List Nat)} {l : List Bq.T} {k : Nat} {x : Bq.T} {acc : List Nat} (hx : l[k]? = some x) :
    (g x = none → Bq.wlist g acc (l.drop k) = none) ∧ (∀ y, g x = some y → (65535 < acc.length → Bq.wlist g acc (l.drop k) = none) ∧ (¬ 65535 < acc.length → Bq.wlist g acc (l.drop k) = Bq.wlist g (acc ++ y) (l.drop (k + 1)))) := by
  obtain ⟨h1, h2⟩ := List.getElem?_eq_some_iff.1 hx
  rw [List.drop_eq_getElem_cons h1, h2, Bq.wlist]
  refine ⟨fun h => by rw [h], fun y h => ⟨fun h3 => by rw [h]; simp only; rw [if_pos h3], fun h3 => by rw [h]; simp only; rw [if_neg h3]⟩⟩
theorem write_len {m : Nat} {x : Bq.T} {y : List Nat} (ha : Bq.amiss m x = 0) (h : Bq.write m x = some y) : y.length ≤ 65539 := by
  rw [Bq.write_enc m x ha] at h
  split at h
  · rename_i hc
    injection h with h
    rw [← h]
    have := (Bq.enc_len m x).2.2
    omega
  · cases h
theorem own_new1 {W : World} {g base : Nat} {e : TypeId} {v : Value} (hg : g = W.heap.size) (hb : base ≤ g) : (W.alloc (.cells #[v] e)).ownsRow base e 1 (.slice (some ⟨g, 0, none⟩) 1 1) 1 [v] := by
  subst hg
  exact ⟨rfl, .inr ⟨W.heap.size, 1, #[v], rfl, hb, heap_alloc_new W _, Nat.le_refl _, by decide, rfl, rfl⟩⟩
theorem reg_a {w w1 : World} (h : Below w.drew.heap.size w.drew w1) : Below w.heap.size w w1 := below_undrew h
theorem reg_b {w w1 : World} {o : Obj} (h : Below (w.alloc o).drew.heap.size (w.alloc o).drew w1) : Below w.heap.size w w1 :=
  ((Below.refl w.heap.size w).alloc (Nat.le_refl _) o).trans ((below_undrew h).mono (by show w.heap.size ≤ (w.alloc o).heap.size; simp))
theorem reg_own {w w1 : World} {e : TypeId} {v : Value} (h : Below (w.alloc (.cells #[v] e)).drew.heap.size (w.alloc (.cells #[v] e)).drew w1) : w1.ownsRow w.heap.size e 1 (.slice (some ⟨w.heap.size, 0, none⟩) 1 1) 1 [v] :=
  own_below (w := (w.alloc (.cells #[v] e)).drew) (own_new1 (W := w) rfl (Nat.le_refl _)) h
/-- A row under way: what the whole says, by what is there and what the rest says. -/
def WRel (g : Bq.T → Option (List Nat)) (t : Bq.T) (W0 : World) (xv i : Value) (wr : World) : Prop :=
  ∃ (k : Nat) (acc : List Nat), i = .int .i64 k ∧ k ≤ t.list.length ∧ wr.ownsRow W0.heap.size 5 1 xv acc.length (u8s acc) ∧ (∀ x ∈ acc, x < 256) ∧ acc.length ≤ t.bytes.length + 131074 ∧ Below W0.heap.size W0 wr ∧ Hid (Bq.wlist g t.bytes t.list = Bq.wlist g acc (t.list.drop k))

end Go.Proofs.Ytkjofadabaecfaa
