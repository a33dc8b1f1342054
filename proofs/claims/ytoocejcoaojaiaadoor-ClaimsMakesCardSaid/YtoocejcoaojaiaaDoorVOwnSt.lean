/-
  What own has made so far: an object under way in a variable of its own.
-/
import Derived.Test.YtoocejcoaojaiaaDoorVWith
import Derived.Test.YtoocejcoaojaiaaDoorVAdd
import Derived.Test.YtoocejcoaojaiaaDoorQTail
namespace Go.Proofs.YtoocejcoaojaiaaDoor
open Go.RowKit

/-- What is wanted, in memory. -/
abbrev wcells (q : Vq.Want) : List Value := [.string (strOf q.issuer), .string (strOf q.aud), .string (strOf q.nonce), .int .i64 q.now, .int .i64 q.slack]
abbrev wantv (q : Vq.Want) : Value := .agg #[.string (strOf q.issuer), .string (strOf q.aud), .string (strOf q.nonce), .int .i64 q.now, .int .i64 q.slack]
abbrev TextOk (t : List Nat) : Prop := t.length ≤ 140737488355328 ∧ ∀ y ∈ t, y < 256
def WantOk (q : Vq.Want) : Prop := TextOk q.issuer ∧ TextOk q.aud ∧ TextOk q.nonce ∧ (-9223372036854775808 ≤ q.now ∧ q.now ≤ 9223372036854775807) ∧ (-9223372036854775808 ≤ q.slack ∧ q.slack ≤ 9223372036854775807)
structure OwnSt (B g : Nat) (q : Vq.Want) (rs : List (List Nat × Jq.J)) (nv lv : Value) (w W : World) : Prop where
  below : Below g w W
  want : Lies W g 30 (wcells q)
  out : Lies W (g + 1) 28 zero6
  var : Lies W (g + 2) 28 [.int .i64 5, .bool false, .int .i64 0, .string ByteArray.empty, nv, lv]
  row : ObjRow B (rs.map (·.1)) (rs.map (·.2)) nv lv W
  off : ∀ k, k ≤ g + 2 → nv.ownBlock ≠ some k ∧ lv.ownBlock ≠ some k
section
variable {B g : Nat} {q : Vq.Want} {rs : List (List Nat × Jq.J)} {nv lv nv' lv' : Value} {w W W' : World}
theorem OwnSt.more (h : OwnSt B g q rs nv lv w W) (hb : Below W.heap.size W W') : OwnSt B g q rs nv lv w W' :=
  ⟨h.below.trans (hb.mono (by have := h.want.lt; omega)), h.want.below hb h.want.lt, h.out.below hb h.out.lt, h.var.below hb h.var.lt, h.row.on hb, h.off⟩
theorem Two.lies {g : Nat} {ty : TypeId} {cs : List Value} (h : Two nv lv nv' lv' W W') (hl : Lies W g ty cs) (h1 : nv.ownBlock ≠ some g ∧ lv.ownBlock ≠ some g) : Lies W' g ty cs := (h.block g hl.lt h1.1 h1.2).1.trans hl
theorem OwnSt.next {r : List Nat × Jq.J} (h : OwnSt B g q rs nv lv w W) (hB : B ≤ g) (hO : ObjRow B (rs.map (·.1) ++ [r.1]) (rs.map (·.2) ++ [r.2]) nv' lv' W') (hT : Two nv lv nv' lv' W W') :
    Lies W' (g + 2) 28 [.int .i64 5, .bool false, .int .i64 0, .string ByteArray.empty, nv, lv] ∧ OwnSt B g q (rs ++ [r]) nv' lv' w (put6 W' (g + 2) (.int .i64 5) (.bool false) (.int .i64 0) (.string ByteArray.empty) nv' lv') := by
  have hv := hT.lies h.var (h.off _ (by omega))
  have hlt := h.var.lt
  have hoff : ∀ k, k ≤ g + 2 → nv'.ownBlock ≠ some k ∧ lv'.ownBlock ≠ some k := fun k hk => (hT.block k (by omega) (h.off k hk).1 (h.off k hk).2).2
  have hb : Below g w W' := h.below.trans ⟨hT.os, hT.tape, hT.output, hT.size, fun k hk => (hT.block k (by omega) (h.off k (by omega)).1 (h.off k (by omega)).2).1⟩
  refine ⟨hv, ⟨hb.trans (gb_down gb_put6 (by have := hT.size; omega) (by omega)), ?_, ?_, hv.put6, ?_, hoff⟩⟩
  · exact (hT.lies h.want (h.off _ (by omega))).grown gb_put6 (by simp)
  · exact (hT.lies h.out (h.off _ (by omega))).grown gb_put6 (by simp)
  · rw [List.map_append, List.map_append]
    exact hO.off gb_put6 (by omega) (hoff _ (by omega)).1 (hoff _ (by omega)).2
end
theorem isJ_text (W : World) (ok : Nat → Prop) {t : List Nat} (ht : TextOk t) : IsJ W ok (jv 3 false 0 (strOf t) nilS nilS) (Jq.textJ t) := isJ_plain W ok (by omega) (by omega) ht
theorem isJ_num (W : World) (ok : Nat → Prop) {n : Int} (hn : 0 ≤ n ∧ n ≤ 1099511627776) : IsJ W ok (jv 2 false n ByteArray.empty nilS nilS) (Jq.intJ n) := isJ_plain W ok (k := 2) (b := false) (n := n) (t := []) (by omega) (by omega) ⟨Nat.zero_le _, fun _ h => nomatch h⟩
theorem add_ge (a b : Int) : 0 ≤ Vq.add a b ∧ Vq.add a b ≤ 1099511627776 := by unfold Vq.add Vq.top; omega
end Go.Proofs.YtoocejcoaojaiaaDoor
