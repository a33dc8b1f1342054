/-
  QH: JValueR JWhole JCatch JParse JParseL, side by side.
-/
import Derived.Test.YtoocejcoaojaiaaDoorQG
import Derived.Test.YtoocejcoaojaiaaDoorQE
import Derived.Recover

/-
  A value read.
-/
namespace Go.Proofs.YtoocejcoaojaiaaDoor
open Go.RowKit

def lists (n : Nat) (l : List Nat) : Jq.R Jq.J := match n with | 0 => .error 55 | n + 1 => Jq.listOf (Jq.value n) l
def objects (n : Nat) (l : List Nat) : Jq.R Jq.J := match n with | 0 => .error 55 | n + 1 => Jq.objectOf (Jq.value n) l
theorem value_nil {n : Nat} {L : List Nat} (h : Jq.skip L = []) : Jq.value n L = .error 51 := by
  rw [Jq.value.eq_def]
  simp only [h]
theorem value_head {n c : Nat} {L : List Nat} (h : (Jq.skip L).head? = some c) : Jq.value n L = if c = 91 then lists n ((Jq.skip L).drop 1) else if c = 123 then objects n ((Jq.skip L).drop 1) else Jq.scalar c (Jq.skip L) := by
  rw [Jq.value.eq_def]
  cases hs : Jq.skip L with
  | nil => rw [hs] at h; cases h
  | cons a r =>
    rw [hs] at h
    obtain rfl : a = c := by simpa using h
    simp only [hs]
    cases n <;> rfl
end Go.Proofs.YtoocejcoaojaiaaDoor

/-
  Values of every depth are read as they must be; the whole text.
-/
namespace Go.Proofs.YtoocejcoaojaiaaDoor
open Go.RowKit
/-- The whole text. -/
def wholeP (S : List Nat) : Jq.R Jq.J := match Jq.value 16 S with
  | .error e => .error e
  | .ok (v, r) => if Jq.skip r = [] then .ok (v, []) else .error 51
end Go.Proofs.YtoocejcoaojaiaaDoor

/-
  The closure that Parse defers.
-/
namespace Go.Proofs.YtoocejcoaojaiaaDoor
open Go.RowKit
theorem catch_world {p q : Nat} {n : Nat} {x0 x1 x2 x3 x4 x5 y0 : Value} {w w3 : World} (hp : Lies w p 28 [x0, x1, x2, x3, x4, x5]) (hq : Lies w q 31 [y0]) (hpq : p ≠ q)
    (h : w3 = (put6 w p (.int .i64 0) (.bool false) (.int .i64 0) (.string { data := #[] }) (.slice none 0 0) (.slice none 0 0)).setCell ⟨q, 0, none⟩ (.int .i64 (n : Int)) ∨ w3 = put6 (w.setCell ⟨q, 0, none⟩ (.int .i64 (n : Int))) p (.int .i64 0) (.bool false) (.int .i64 0) (.string { data := #[] }) (.slice none 0 0) (.slice none 0 0)) :
    w3.heap.size = w.heap.size ∧ Below (min p q) w w3 ∧ Lies w3 p 28 zero6 ∧ Lies w3 q 31 [.int .i64 (n : Int)] := by
  have e1 : min p q ≤ p := Nat.min_le_left _ _
  have e2 : min p q ≤ q := Nat.min_le_right _ _
  rcases h with rfl | rfl
  · refine ⟨by simp [World.setCell], ((((((((Below.refl _ _).setCell e1 _).setCell e1 _).setCell e1 _).setCell e1 _).setCell e1 _).setCell e1 _).setCell e2 _), (hp.put6).gb (gb_set _ _ _ _) hpq, ?_⟩
    have : Lies (put6 w p (.int .i64 0) (.bool false) (.int .i64 0) (.string { data := #[] }) (.slice none 0 0) (.slice none 0 0)) q 31 [y0] := hq.gb gb_put6 hpq.symm
    exact this.put 0 _
  · refine ⟨by simp [World.setCell], ((((((((Below.refl _ _).setCell e2 _).setCell e1 _).setCell e1 _).setCell e1 _).setCell e1 _).setCell e1 _).setCell e1 _), (hp.gb (gb_set _ _ _ _) hpq).put6, ?_⟩
    exact (show Lies (w.setCell ⟨q, 0, none⟩ (.int .i64 (n : Int))) q 31 [.int .i64 (n : Int)] from hq.put 0 _).gb gb_put6 hpq.symm
end Go.Proofs.YtoocejcoaojaiaaDoor

/-
  Parse.
-/
namespace Go.Proofs.YtoocejcoaojaiaaDoor
open Go.RowKit

/-- How Parse ends. -/
def ParsedAs (w : World) (res : Jq.R Jq.J) (e : Ending) (w' : World) : Prop := Below w.heap.size w w' ∧ match res with
  | .ok (v, _) => ∃ u, e = .returned (.tuple #[u, .int .i64 0]) ∧ IsJ w' (w.heap.size ≤ ·) u v
  | .error m => e = .returned (.tuple #[jv 0 false 0 ByteArray.empty nilS nilS, .int .i64 (m : Int)])
end Go.Proofs.YtoocejcoaojaiaaDoor

/-
  Parse of a text that is too long; Parse and the plain reading.
-/
namespace Go.Proofs.YtoocejcoaojaiaaDoor
open Go.RowKit

theorem parse_whole {S : List Nat} (h : S.length ≤ 4096) : Jq.parse S = match wholeP S with | .error e => .error e | .ok (v, _) => .ok v := by
  rw [Jq.parse, if_neg (by omega), wholeP]
  cases Jq.value 16 S with
  | error e => rfl
  | ok p =>
    obtain ⟨v, r⟩ := p
    simp only
    split <;> rfl
end Go.Proofs.YtoocejcoaojaiaaDoor
