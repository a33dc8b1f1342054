/-
  QI: JAdd JComma JValid JQuoted JWList JWMembers JWValue JPrint, side by side.
-/
import Derived.Test.YthklgpflaghojaaGreatDoorQB
import Derived.Test.YthklgpflaghojaaGreatDoorQA
import Derived.Lib.AppendStr
import Derived.Test.YthklgpflaghojaaGreatDoorQV
import Derived.Shelf.Unicode.ValidAny
import Derived.Test.YthklgpflaghojaaGreatDoorQS
import Derived.Test.YthklgpflaghojaaGreatDoorQD

/-
  A writer in memory; the writer's add and comma.
-/
namespace Go.Proofs.YthklgpflaghojaaGreatDoor
open Go.RowKit
/-- What a step of the writer may change: its own block, what lies above it, and of that no block that holds other things than bytes. -/
structure Stays (Wb : Nat) (w w' : World) : Prop where
  below : Below Wb w w'
  size : w.heap.size ≤ w'.heap.size
  lies : ∀ k t cs, t ≠ 5 → k ≠ Wb → Lies w k t cs → Lies w' k t cs
theorem Stays.refl (Wb : Nat) (w : World) : Stays Wb w w := ⟨Below.refl _ _, Nat.le_refl _, fun _ _ _ _ _ h => h⟩
theorem Stays.trans {Wb : Nat} {w w1 w2 : World} (h1 : Stays Wb w w1) (h2 : Stays Wb w1 w2) : Stays Wb w w2 :=
  ⟨h1.below.trans h2.below, Nat.le_trans h1.size h2.size, fun k t cs a b h => h2.lies k t cs a b (h1.lies k t cs a b h)⟩
theorem Stays.of_below {Wb : Nat} {w w' : World} (h : Below w.heap.size w w') (hw : Wb ≤ w.heap.size) : Stays Wb w w' :=
  ⟨h.mono hw, h.size, fun _ _ _ _ _ hl => hl.below h hl.lt⟩
theorem Stays.alloc {Wb : Nat} {w w' : World} (h : Stays Wb w w') (hw : Wb ≤ w'.heap.size) (o : Obj) : Stays Wb w (w'.alloc o) :=
  h.trans (Stays.of_below ((Below.refl _ _).alloc (Nat.le_refl _) o) hw)
theorem Stays.set {Wb : Nat} {w w' : World} (h : Stays Wb w w') (i : Nat) (v : Value) : Stays Wb w (w'.setCell ⟨Wb, i, none⟩ v) :=
  h.trans ⟨(Below.refl Wb w').setCell (p := ⟨Wb, i, none⟩) (Nat.le_refl Wb) v, by simp [World.setCell], fun k t cs _ hk hl => (Below.heap_setCell _ _ _ _ hk).trans hl⟩
theorem Stays.row {Wb base : Nat} {w w' : World} {v : Value} {n : Nat} {xs : List Value} (ho : w.ownsRow base 5 1 v n xs) (hg : w.grownBy w' v.ownBlock) (hb : Wb ≤ base) (hw : Wb ≤ w.heap.size) : Stays Wb w w' :=
  ⟨(Below.refl _ _).grown hg hw (fun k e => Nat.le_trans hb (ho.lt k e).1), hg.size, fun k t cs ht _ hl => hl.grown hg (fun e => by
    rcases ho.2 with ⟨rfl, _⟩ | ⟨g, cap, cur, rfl, _, hg, _⟩
    · cases e
    · have hk : k = g := by simpa [Value.ownBlock] using e
      subst hk
      have := hl.symm.trans hg
      injection this with this
      injection this with _ h2 _
      exact ht h2)⟩
end Go.Proofs.YthklgpflaghojaaGreatDoor

/-
  The writer's comma.
-/
namespace Go.Proofs.YthklgpflaghojaaGreatDoor
open Go.RowKit
end Go.Proofs.YthklgpflaghojaaGreatDoor

/-
  The library's ValidString.
-/
namespace Go.Proofs.YthklgpflaghojaaGreatDoor
open Go.RowKit
end Go.Proofs.YthklgpflaghojaaGreatDoor

/-
  The writer's quoted.
-/
namespace Go.Proofs.YthklgpflaghojaaGreatDoor
open Go.RowKit

section
variable {ops : Array Oper} {o : Oper} {a : Act} {Q : Exit → Act → World → Prop} {w : World} {K : Act → World → Prop} {E : Prop}
end
theorem own_as {w : World} {base : Nat} {e : TypeId} {size n : Nat} {v : Value} {xs us vs : List Value} (h : w.ownsRow base e size v n (xs ++ us)) (hv : us = vs) : w.ownsRow base e size v n (xs ++ vs) := hv ▸ h
/-- The signs, as the program has them. -/
abbrev hexB : ByteArray := { data := #[48, 49, 50, 51, 52, 53, 54, 55, 56, 57, 97, 98, 99, 100, 101, 102] }
theorem hex_get : ∀ n, n < 16 → (hexB.data.toList[n]?).map (fun u : UInt8 => u.toNat) = some (Jq.hexl n) := by decide +kernel
theorem hex_at (i : Int) (n : Nat) (hi : i = n) (hn : n < 16) (p : i.toNat < hexB.size) : ((hexB[i.toNat]'p).toNat : Int) = ((Jq.hexl n : Nat) : Int) := by
  subst hi
  have hg := hex_get n hn
  have hn' : n < hexB.data.toList.length := hn
  rw [List.getElem?_eq_getElem hn'] at hg
  have hg' : (hexB.data.toList[n]).toNat = Jq.hexl n := by simpa using hg
  rw [← hg']
  rfl
theorem hexl_lt {n : Nat} (h : n < 16) : Jq.hexl n < 256 := by unfold Jq.hexl; split <;> omega
theorem q_take (S : List Nat) (k : Nat) (h : k < S.length) : (S.take (k + 1)).flatMap Jq.q1 = (S.take k).flatMap Jq.q1 ++ Jq.q1 (S.getD k 0) := by
  rw [List.take_succ_eq_append_getElem h, List.flatMap_append]
  simp [List.getD_eq_getElem?_getD, List.getElem?_eq_getElem h]
theorem q1_esc {c : Nat} (h : c = 34 ∨ c = 92) : Jq.q1 c = [92, c] := by
  unfold Jq.q1
  rw [if_neg (by omega), if_pos h]
theorem q1_ctl {c : Nat} (h : c < 32) : Jq.q1 c = [92, 117, 48, 48, Jq.hexl (c / 16), Jq.hexl (c % 16)] := if_pos h
theorem q1_lit {c : Nat} (h1 : c ≠ 34) (h2 : c ≠ 92) (h3 : ¬ c < 32) : Jq.q1 c = [c] := by
  unfold Jq.q1
  rw [if_neg h3, if_neg (by omega)]
/-- A row that was just built of one value. -/
theorem own_new1 {W : World} {g base : Nat} {e : TypeId} {v : Value} (hg : g = W.heap.size) (hb : base ≤ g) : (W.alloc (.cells #[v] e)).ownsRow base e 1 (.slice (some ⟨g, 0, none⟩) 1 1) 1 [v] := by
  subst hg
  exact ⟨rfl, .inr ⟨W.heap.size, 1, #[v], rfl, hb, heap_alloc_new W _, Nat.le_refl _, by decide, rfl, rfl⟩⟩

/-- What holds at each round of quoted's loop. -/
def QRel (S : List Nat) (w : World) (text i : Value) (wr : World) : Prop :=
  ∃ (k n : Nat) (T : List Nat), i = .int .i64 k ∧ k ≤ S.length ∧ T.length = n ∧ n ≤ 1 + 6 * k ∧ Hid (T = 34 :: (S.take k).flatMap Jq.q1) ∧ wr.ownsRow w.heap.size 5 1 text n (u8s T) ∧ (∀ x ∈ T, x < 256) ∧ Below w.heap.size w wr
theorem QRel.next {S : List Nat} {w w2 : World} {k n m : Nat} {T q : List Nat} {v : Value} {x : Nat} (hx : S.getD k 0 = x) (hk : k < S.length) (hT : T.length = n) (hn : n ≤ 1 + 6 * k) (he : Hid (T = 34 :: (S.take k).flatMap Jq.q1)) (hq : Jq.q1 x = q) (hm : q.length = m) (hm6 : m ≤ 6)
    (hlt : ∀ x ∈ T, x < 256) (hq2 : ∀ x ∈ q, x < 256) (ho : w2.ownsRow w.heap.size 5 1 v (n + m) (u8s T ++ u8s q)) (hb : Below w.heap.size w w2) : QRel S w v (.int .i64 ((k + 1 : Nat) : Int)) w2 :=
  ⟨k + 1, n + m, T ++ q, rfl, hk, by rw [List.length_append]; omega, by omega, by unfold Hid; rw [q_take S k hk, hx, hq, he.out]; rfl, by rw [u8s_append]; exact ho, fun y hy => by
    rcases List.mem_append.1 hy with hy | hy
    · exact hlt y hy
    · exact hq2 y hy, hb⟩

end Go.Proofs.YthklgpflaghojaaGreatDoor

/-
  The writer's list.
-/
namespace Go.Proofs.YthklgpflaghojaaGreatDoor
open Go.RowKit
end Go.Proofs.YthklgpflaghojaaGreatDoor

/-
  The writer's members.
-/
namespace Go.Proofs.YthklgpflaghojaaGreatDoor
open Go.RowKit
end Go.Proofs.YthklgpflaghojaaGreatDoor

/-
  The writer's value, at every depth.
-/
namespace Go.Proofs.YthklgpflaghojaaGreatDoor
open Go.RowKit
/-! The plain writing by kinds. -/
end Go.Proofs.YthklgpflaghojaaGreatDoor

/-
  Print.
-/
namespace Go.Proofs.YthklgpflaghojaaGreatDoor
open Go.RowKit

/-- How Print ends. -/
def PrintEnd (res : Option (List Nat)) (w : World) (e : Ending) (w' : World) : Prop := Below w.heap.size w w' ∧ match res with
  | some B => e = .returned (.tuple #[.string (strOf B), .bool true]) ∧ (∀ x ∈ B, x < 256) ∧ B.length ≤ 4096
  | none => e = .returned (.tuple #[.string ByteArray.empty, .bool false])
theorem PrintEnd.cases {res : Option (List Nat)} {w w' : World} {e : Ending} (h : PrintEnd res w e w') :
    (∃ B, res = some B ∧ e = .returned (.tuple #[.string (strOf B), .bool true]) ∧ (∀ x ∈ B, x < 256) ∧ B.length ≤ 4096 ∧ Below w.heap.size w w') ∨ (res = none ∧ e = .returned (.tuple #[.string ByteArray.empty, .bool false]) ∧ Below w.heap.size w w') := by
  obtain ⟨hb, h⟩ := h
  split at h
  · exact .inl ⟨_, rfl, h.1, h.2.1, h.2.2, hb⟩
  · exact .inr ⟨rfl, h, hb⟩
/-- A value that came in is one in any later world. -/
theorem IsJ.later {w w' : World} {ok : Nat → Prop} {v : Value} {x : Jq.J} (h : IsJ w ok v x) {B : Nat} (hb : Below w.heap.size w w') (hB : w.heap.size ≤ B) : IsJ w' (· < B) v x :=
  h.keep (fun b _ hlt => ⟨Nat.lt_of_lt_of_le hlt hB, hb.block b hlt⟩) hb.size

end Go.Proofs.YthklgpflaghojaaGreatDoor
