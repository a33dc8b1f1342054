/-
  QD: JBox JSlices JName JElem JItem0, side by side.
-/
import Derived.Test.YtnbaajdcakjlmaaDoorQC
import Derived.Maps.AppendAt
import Derived.Laws.OwnMore
import Derived.Deep.RegionLaw
import Derived.Shelf.Slices.Turned
import Derived.Shelf.Slices.Equal
import Derived.Shelf.Slices.Empties2

/-
  A list or an object under way: the variable that a closure captures, its two rows, and the elements that lie in neither.
-/
namespace Go.Proofs.YtnbaajdcakjlmaaDoor
open Go.RowKit

/-- What a step of a list under way may change: the reader's block, and what lies from B on. -/
structure Far (B R : Nat) (w w' : World) : Prop where
  os : w'.os = w.os
  tape : w'.tape = w.tape
  output : w'.output = w.output
  size : w.heap.size ≤ w'.heap.size
  block : ∀ k, k < B → k ≠ R → w'.heap[k]? = w.heap[k]?
theorem Far.refl (B R : Nat) (w : World) : Far B R w w := ⟨rfl, rfl, rfl, Nat.le_refl _, fun _ _ _ => rfl⟩
theorem Far.trans {B R : Nat} {w w1 w2 : World} (h1 : Far B R w w1) (h2 : Far B R w1 w2) : Far B R w w2 :=
  ⟨h2.os.trans h1.os, h2.tape.trans h1.tape, h2.output.trans h1.output, Nat.le_trans h1.size h2.size, fun k hk hr => (h2.block k hk hr).trans (h1.block k hk hr)⟩
theorem Far.of_gb {B R : Nat} {w w' : World} (h : w.grownBy w' (some R)) (hB : B ≤ w.heap.size) : Far B R w w' :=
  ⟨h.os, h.tape, h.output, h.size, fun k hk hr => h.block k (Nat.lt_of_lt_of_le hk hB) (fun e => hr (by injection e))⟩
theorem Far.of_below {B R : Nat} {w w' : World} (h : Below B w w') : Far B R w w' := ⟨h.os, h.tape, h.output, h.size, fun k hk _ => h.block k hk⟩
theorem Far.of_row {B R base : Nat} {w w' : World} {v : Value} (h : w.grownBy w' v.ownBlock) (hv : ∀ k, v.ownBlock = some k → base ≤ k) (hB : B ≤ base) (hs : B ≤ w.heap.size) : Far B R w w' :=
  ⟨h.os, h.tape, h.output, h.size, fun k hk _ => h.block k (Nat.lt_of_lt_of_le hk hs) (fun e => by have := hv k e.symm; omega)⟩
theorem Far.set {B R : Nat} (w : World) {g i : Nat} (v : Value) (hg : B ≤ g) : Far B R w (w.setCell ⟨g, i, none⟩ v) :=
  Far.of_below ((Below.refl _ _).setCell hg v)
theorem Far.drew {B R : Nat} {w w' : World} (h : Far B R w.drew w') : Far B R w w' := ⟨h.os, h.tape, h.output, h.size, h.block⟩
theorem Far.alloc {B R : Nat} {w w' : World} {o : Obj} (h : Far B R (w.alloc o) w') (hB : B ≤ w.heap.size) : Far B R w w' :=
  (Far.of_below ((Below.refl B w).alloc hB o)).trans h
theorem Far.gb {R : Nat} {w w' : World} (h : Far w.heap.size R w w') : w.grownBy w' (some R) :=
  ⟨h.os, h.tape, h.output, h.size, fun k hk hr => h.block k hk (fun e => hr (by rw [e]))⟩

section
variable {kind : Int} {B Rb V R : Nat} {ns : List (List Nat)} {l : List Jq.J} {nv lv : Value} {w w' : World}
end
section
variable {ops : Array Oper} {o : Oper} {a : Act} {Q : Exit → Act → World → Prop} {w : World} {K : Act → World → Prop} {E : Prop}
/-- append of one element that was just laid, in a region that draws its order: and where the new row lies. -/
theorem step_append_at (hgd : o.guard = none) (s x : Operand) (t e : TypeId) (z : Value) (size bytes : Nat)
    (ho : o.op = .call { callee := .builtin .append, args := #[s, x], argTypes := #[t, t] }) (ht : Tryd.prog.underlying t = some (.slice e))
    (hi : (Tryd.prog.info? e).map (fun i => (i.zero, i.size, i.bytes)) = some (some z, size, bytes)) (hz : z.cells.size = size) (hsz : 0 < size)
    (base : Nat) (v : Value) (n : Nat) (xs : List Value) (A : Addr) (c : Nat) (us : List Value) (hown : w.ownsRow base e size v n xs) (hl : us.length = size) (hc : ∀ j u, us[j]? = some u → w.cell? (A.add j) = some u) (h1 : ∀ u ∈ us, u.oneCell' = true)
    (hs : a.eval s = v) (hx : a.eval x = .slice (some A) 1 c) (hb : (n + 1) * bytes ≤ 140737488355328) (hm : n + 1 ≤ 140737488355328) (hbase : base ≤ w.heap.size)
    (hK : ∀ g cap w', w'.ownsRow base e size (.slice (some ⟨g, 0, none⟩) (n + 1) cap) (n + 1) (xs ++ us) → w.grownBy w' v.ownBlock → (v.ownBlock = some g ∨ g = w.heap.size) → K (a.put o.dst (.slice (some ⟨g, 0, none⟩) (n + 1) cap)) w') : if Region.wanted o (yielded ops a.tmps) = true then Oper.wp Tryd.prog o a w K Q else E := by
  have hw : Region.wanted o (yielded ops a.tmps) = true := by simp [Region.wanted, hgd]
  rw [if_pos hw]
  obtain ⟨i0, hi0, hz0, hz1, hz2⟩ := info_parts hi
  obtain ⟨v', w', hrun, h2, h3, _, h5⟩ := run_append_own_at (P := Tryd.prog) w base t o.type e i0 z size bytes ht hi0 hz0 hz1 hz2 hz hsz v n xs hown A 1 c us (by rw [hl, Nat.one_mul]) hc h1 (by unfold maxLen; omega) hb hbase
  obtain ⟨g, cap, rfl⟩ := own_form h2 (by omega)
  unfold Oper.wp
  simp [execOp, ho, resolve, invoke, builtin, hs, hx, hrun, Result.andThen]
  refine hK g cap w' h2 h3 ?_
  rcases h5 with h5 | h5
  · exact .inl (by rw [← h5]; rfl)
  · exact .inr (by injection h5)
end
end Go.Proofs.YtnbaajdcakjlmaaDoor

/-
  The library's Contains, Index and Equal on texts.
-/
namespace Go.Proofs.YtnbaajdcakjlmaaDoor
open Go.RowKit

theorem tcells_length (l : List (List Nat)) : (tcells l).length = l.length := by simp [tcells]
theorem tcells_at (l : List (List Nat)) (j : Nat) (hj : j < l.length) : (tcells l)[j]? = some (.string ((l.map strOf).getD j ByteArray.empty)) := by
  simp [tcells, List.getElem?_eq_getElem hj, List.getD_eq_getElem?_getD]
/-- A row of the call's own is a slice whose cells are these. -/
theorem own_slIs {w : World} {base : Nat} {e : TypeId} {size : Nat} {v : Value} {n : Nat} {cs : List Value} (h : w.ownsRow base e size v n cs) : SlIs w (base ≤ ·) v n cs := by
  obtain ⟨h1, h2⟩ := h
  rcases h2 with ⟨rfl, rfl⟩ | ⟨g, cap, cur, rfl, hb, hg, hn, hc, hs, ht⟩
  · have : cs = [] := List.eq_nil_of_length_eq_zero (by simpa using h1)
    subst this
    exact SlIs.nil w _
  · unfold maxLen at hc
    refine ⟨_, cap, rfl, hn, by omega, fun _ => ⟨g, 0, rfl, hb, (Array.getElem?_eq_some_iff.1 hg).1, fun j x hj => ?_⟩⟩
    rw [Nat.zero_add, cell_of_row w g j cur _ _ hg, ← Array.getElem?_toList]
    rw [← ht, List.getElem?_take] at hj
    split at hj
    · exact hj
    · cases hj
theorem strOf_mem {ns : List (List Nat)} {t : List Nat} (hns : ∀ p ∈ ns, ∀ x ∈ p, x < 256) (ht : ∀ x ∈ t, x < 256) : strOf t ∈ ns.map strOf ↔ t ∈ ns := by
  rw [List.mem_map]
  constructor
  · rintro ⟨p, hp, e⟩
    rw [← strOf_inj (hns p hp) ht e]; exact hp
  · exact fun h => ⟨t, h, rfl⟩
theorem contains_any {ok : Nat → Prop} (ns : List (List Nat)) (t : List Nat) (v : Value) (w : World) (h : SlIs w ok v ns.length (tcells ns)) (hns : ∀ p ∈ ns, ∀ x ∈ p, x < 256) (ht : ∀ x ∈ t, x < 256) :
    Calls Tryd.prog 69 #[v, .string (strOf t)] w fun e w' => e = .returned (.bool (decide (t ∈ ns))) ∧ w = w' := by
  obtain ⟨A, c, rfl, h1, h2, h3⟩ := h
  by_cases h0 : ns.length = 0
  · obtain rfl : ns = [] := List.eq_nil_of_length_eq_zero h0
    exact (Any.slices_Contains_string_empty (P := Tryd.prog) (ρ := lays110_ren) lays110 A c (strOf t) w).mono fun e w' ⟨he, hw⟩ => ⟨by rw [he]; simp, hw.symm⟩
  · obtain ⟨b, off, rfl, _, _, hc⟩ := h3 (by omega)
    refine (Any.slices_Contains_string (P := Tryd.prog) (ρ := lays110_ren) lays110 b off ns.length c (ns.map strOf) (strOf t) w (by simp) (by omega) (fun j hj => hc j _ (tcells_at ns j (by simpa using hj)))).mono fun e w' ⟨he, hw⟩ => ⟨?_, hw.symm⟩
    rw [he]
    congr 2
    rw [Bool.eq_iff_iff, Lib.containsS_iff, decide_eq_true_iff, List.take_of_length_le (by simp), strOf_mem hns ht]

/-- The first place of a text. -/
def firstAt (t : List Nat) : List (List Nat) → Option Nat
  | [] => none
  | p :: r => if p = t then some 0 else (firstAt t r).map (· + 1)
theorem firstAt_iff (t : List Nat) : ∀ (ns : List (List Nat)), match firstAt t ns with
    | none => t ∉ ns
    | some k => k < ns.length ∧ ns[k]? = some t ∧ ∀ j, j < k → ns[j]? ≠ some t
  | [] => by simp [firstAt]
  | p :: r => by
    have ih := firstAt_iff t r
    unfold firstAt
    by_cases h : p = t
    · rw [if_pos h]
      exact ⟨by simp, by simp [h], fun j hj => by omega⟩
    · rw [if_neg h]
      cases hf : firstAt t r with
      | none =>
        rw [hf] at ih
        simp only [Option.map_none]
        intro hm
        rcases List.mem_cons.1 hm with e | e
        · exact h e.symm
        · exact ih e
      | some k =>
        rw [hf] at ih
        obtain ⟨i1, i2, i3⟩ := ih
        simp only [Option.map_some]
        refine ⟨by simp; omega, by simpa using i2, fun j hj => ?_⟩
        cases j with
        | zero => simpa using h
        | succ j => simpa using i3 j (by omega)
theorem index_any {ok : Nat → Prop} (ns : List (List Nat)) (t : List Nat) (v : Value) (w : World) (h : SlIs w ok v ns.length (tcells ns)) (hns : ∀ p ∈ ns, ∀ x ∈ p, x < 256) (ht : ∀ x ∈ t, x < 256) :
    Calls Tryd.prog 36 #[v, .string (strOf t)] w fun e w' => e = .returned (.int .i64 (match firstAt t ns with | none => -1 | some k => (k : Int))) ∧ w = w' := by
  have hf := firstAt_iff t ns
  have hget : ∀ j, j < ns.length → (ns.map strOf).getD j ByteArray.empty = strOf (ns.getD j []) := fun j hj => by
    simp [List.getD_eq_getElem?_getD, List.getElem?_eq_getElem hj]
  have hin : ∀ j, j < ns.length → strOf (ns.getD j []) = strOf t → ns[j]? = some t := fun j hj e => by
    have hm : ns.getD j [] ∈ ns := by
      rw [List.getD_eq_getElem?_getD, List.getElem?_eq_getElem hj]
      exact List.getElem_mem hj
    have := strOf_inj (hns _ hm) ht e
    rw [← this, List.getD_eq_getElem?_getD, List.getElem?_eq_getElem hj]; rfl
  obtain ⟨A, c, rfl, h1, h2, h3⟩ := h
  by_cases h0 : ns.length = 0
  · obtain rfl : ns = [] := List.eq_nil_of_length_eq_zero h0
    exact (Any.slices_Index_string_empty (P := Tryd.prog) (ρ := lays109_ren) lays109 A c (strOf t) w).mono fun e w' ⟨he, hw⟩ => ⟨by rw [he]; rfl, hw.symm⟩
  · obtain ⟨b, off, rfl, _, _, hc⟩ := h3 (by omega)
    refine (Any.slices_Index_string (P := Tryd.prog) (ρ := lays109_ren) lays109 b off ns.length c (ns.map strOf) (strOf t) w (by simp) (by omega) (fun j hj => hc j _ (tcells_at ns j (by simpa using hj)))).mono fun e w' ⟨he, hw⟩ => ⟨?_, hw.symm⟩
    rw [he]
    cases hk : firstAt t ns with
    | none =>
      rw [hk] at hf
      rw [Lib.idxOfS_miss (ns.map strOf) ns.length (strOf t) (fun j hj e => hf (List.mem_of_getElem? (hin j hj (by rw [← hget j hj]; exact e))))]
    | some k =>
      rw [hk] at hf
      obtain ⟨i1, i2, i3⟩ := hf
      rw [Lib.idxOfS_hit (ns.map strOf) ns.length k (strOf t) i1 (by simp) (by rw [hget k i1, List.getD_eq_getElem?_getD, i2]; rfl) (fun j hj e => i3 j hj (hin j (by omega) (by rw [← hget j (by omega)]; exact e)))]
theorem equal_any {ok ok' : Nat → Prop} (ns ms : List (List Nat)) (v u : Value) (w : World) (h : SlIs w ok v ns.length (tcells ns)) (k : SlIs w ok' u ms.length (tcells ms)) (hns : ∀ p ∈ ns, ∀ x ∈ p, x < 256) (hms : ∀ p ∈ ms, ∀ x ∈ p, x < 256) :
    Calls Tryd.prog 55 #[v, u] w fun e w' => e = .returned (.bool (decide (ns = ms))) ∧ ∃ q, w' = w.drewN q := by
  obtain ⟨A, c, rfl, h1, h2, h3⟩ := h
  obtain ⟨A', c', rfl, k1, k2, k3⟩ := k
  by_cases hl : ns.length = ms.length
  · by_cases h0 : ns.length = 0
    · obtain rfl : ns = [] := List.eq_nil_of_length_eq_zero h0
      obtain rfl : ms = [] := List.eq_nil_of_length_eq_zero (by rw [← hl]; rfl)
      exact (Any.slices_Equal_string_empty (P := Tryd.prog) (ρ := lays193_ren) lays193 A A' c 0 c' w (by omega)).mono fun e w' ⟨he, hw⟩ => ⟨by rw [he]; rfl, 0, hw⟩
    · obtain ⟨b, off, rfl, _, _, hc⟩ := h3 (by omega)
      obtain ⟨b', off', rfl, _, _, hc'⟩ := k3 (by omega)
      refine (Any.slices_Equal_string (P := Tryd.prog) (ρ := lays193_ren) lays193 b off ns.length c b' off' ms.length c' (ns.map strOf) (ms.map strOf) w (by simp) (by simp) (by omega) (by omega) (fun j hj => hc j _ (tcells_at ns j (by simpa using hj))) (fun j hj => hc' j _ (tcells_at ms j (by simpa using hj)))).mono fun e w' ⟨he, hw⟩ => ⟨?_, hw⟩
      rw [he]
      congr 2
      rw [Bool.eq_iff_iff, decide_eq_true_iff, decide_eq_true_iff, List.take_of_length_le (by simp), List.take_of_length_le (by simp)]
      constructor
      · intro e
        apply List.ext_getElem hl
        intro i hi1 hi2
        have := congrArg (fun l => l[i]?) e
        simp only [List.getElem?_map, List.getElem?_eq_getElem hi1, List.getElem?_eq_getElem hi2, Option.map_some, Option.some.injEq] at this
        exact strOf_inj (hns _ (List.getElem_mem hi1)) (hms _ (List.getElem_mem hi2)) this
      · rintro rfl; rfl
  · refine (Any.slices_Equal_string_lens (P := Tryd.prog) (ρ := lays193_ren) lays193 A A' ns.length c ms.length c' w hl).mono fun e w' ⟨he, hw⟩ => ⟨?_, 0, hw⟩
    rw [he, decide_eq_false (fun e => hl (by rw [e]))]
end Go.Proofs.YtnbaajdcakjlmaaDoor

/-
  The reader's name.
-/
namespace Go.Proofs.YtnbaajdcakjlmaaDoor
open Go.RowKit

def nameP (ns : List (List Nat)) (L : List Nat) : Jq.R (List Nat) :=
  if (Jq.skip L).head? = some 34 then match Jq.text ((Jq.skip L).drop 1) with
    | .error e => .error e
    | .ok (t, r) => if t ∈ ns then .error 54 else .ok (t, r)
  else .error 51

end Go.Proofs.YtnbaajdcakjlmaaDoor

/-
  One element more of a list under way, and one name more of an object.
-/
namespace Go.Proofs.YtnbaajdcakjlmaaDoor
open Go.RowKit
set_option maxRecDepth 100000 in
theorem infoJson : (Tryd.prog.info? 27).map (fun i => (i.zero, i.size, i.bytes)) = some (some (jv 0 false 0 ByteArray.empty nilS nilS), 6, 88) := by kernel_rfl
abbrev zero6 : List Value := [.int .i64 0, .bool false, .int .i64 0, .string ByteArray.empty, nilS, nilS]
/-- Six cells are written from a place on. -/
abbrev putAt (w : World) (g i : Nat) (a b c d e f : Value) : World := (((((w.setCell ⟨g, i, none⟩ a).setCell ⟨g, i + 1, none⟩ b).setCell ⟨g, i + 2, none⟩ c).setCell ⟨g, i + 3, none⟩ d).setCell ⟨g, i + 4, none⟩ e).setCell ⟨g, i + 5, none⟩ f
section
variable {w w' : World} {g i : Nat} {ty : TypeId} {a b c d e f x0 x1 x2 x3 x4 x5 : Value}
theorem putAt_far {k : Nat} (hk : k ≠ g) : (putAt w g i a b c d e f).heap[k]? = w.heap[k]? := by
  rw [Below.heap_setCell _ _ _ _ hk, Below.heap_setCell _ _ _ _ hk, Below.heap_setCell _ _ _ _ hk, Below.heap_setCell _ _ _ _ hk, Below.heap_setCell _ _ _ _ hk, Below.heap_setCell _ _ _ _ hk]
theorem putAt_size : (putAt w g i a b c d e f).heap.size = w.heap.size := by simp [World.setCell]
theorem gb_putAt : w.grownBy (putAt w g i a b c d e f) (some g) :=
  gb_trans (gb_trans (gb_trans (gb_trans (gb_trans (gb_set _ _ _ _) (gb_set _ _ _ _)) (gb_set _ _ _ _)) (gb_set _ _ _ _)) (gb_set _ _ _ _)) (gb_set _ _ _ _)
theorem set_six (xs : List Value) (n : Nat) (hx : xs.length = n * 6) : ((((((xs ++ [x0, x1, x2, x3, x4, x5]).set (n * 6) a).set (n * 6 + 1) b).set (n * 6 + 2) c).set (n * 6 + 3) d).set (n * 6 + 4) e).set (n * 6 + 5) f = xs ++ [a, b, c, d, e, f] := by
  rw [← hx]
  rw [List.set_append_right _ _ (Nat.le_refl _), List.set_append_right _ _ (by omega), List.set_append_right _ _ (by omega), List.set_append_right _ _ (by omega), List.set_append_right _ _ (by omega), List.set_append_right _ _ (by omega)]
  simp
theorem own_putAt {base cap n : Nat} {xs : List Value} (h : w.ownsRow base ty 6 (.slice (some ⟨g, 0, none⟩) (n + 1) cap) (n + 1) (xs ++ [x0, x1, x2, x3, x4, x5])) (hx : xs.length = n * 6) :
    (putAt w g (n * 6) a b c d e f).ownsRow base ty 6 (.slice (some ⟨g, 0, none⟩) (n + 1) cap) (n + 1) (xs ++ [a, b, c, d, e, f]) := by
  have := ((((((h.stored (n * 6) a).1.stored (n * 6 + 1) b).1.stored (n * 6 + 2) c).1.stored (n * 6 + 3) d).1.stored (n * 6 + 4) e).1.stored (n * 6 + 5) f).1
  rw [set_six xs n hx] at this
  exact this
end
theorem flat_len {w : World} {base n : Nat} {ty : TypeId} {v : Value} {xs : List Value} (h : w.ownsRow base ty 6 v n xs) : xs.length = n * 6 := h.1

end Go.Proofs.YtnbaajdcakjlmaaDoor

/-
  What the closures of the reader's list and object leave behind.
-/
namespace Go.Proofs.YtnbaajdcakjlmaaDoor
open Go.RowKit
/-- The world behind the two stores, in whichever order. -/
def Stored (w2 w3 : World) (V g i : Nat) (v lv' : Value) : Prop :=
  ∃ a b c d e f, v = .agg #[a, b, c, d, e, f] ∧ (w3 = (putAt w2 g i a b c d e f).setCell ⟨V, 5, none⟩ lv' ∨ w3 = putAt (w2.setCell ⟨V, 5, none⟩ lv') g i a b c d e f)
theorem stored_a {w2 : World} {V g i : Nat} {a b c d e f lv' : Value} : Stored w2 ((putAt w2 g i a b c d e f).setCell ⟨V, 5, none⟩ lv') V g i (.agg #[a, b, c, d, e, f]) lv' := ⟨a, b, c, d, e, f, rfl, .inl rfl⟩
theorem stored_b {w2 : World} {V g i : Nat} {a b c d e f lv' : Value} : Stored w2 (putAt (w2.setCell ⟨V, 5, none⟩ lv') g i a b c d e f) V g i (.agg #[a, b, c, d, e, f]) lv' := ⟨a, b, c, d, e, f, rfl, .inr rfl⟩
/-- What is laid of the world behind the call of value. -/
theorem new6 (w : World) : ∀ (j : Nat) u, zero6[j]? = some u → (w.alloc (.cells #[.int .i64 0, .bool false, .int .i64 0, .string { data := #[] }, .slice none 0 0, .slice none 0 0] 27)).cell? ((⟨w.heap.size, 0, none⟩ : Addr).add j) = some u := fun j u hj => new_cells w _ _ j u hj
theorem new6_gb {w w1 : World} {R : Nat} (h : (w.alloc (.cells #[.int .i64 0, .bool false, .int .i64 0, .string { data := #[] }, .slice none 0 0, .slice none 0 0] 27)).grownBy w1 (some R)) (hR : R < w.heap.size) : ∀ (j : Nat) u, zero6[j]? = some u → w1.cell? ((⟨w.heap.size, 0, none⟩ : Addr).add j) = some u := fun j u hj => h.cell (new6 w j u hj) (by
  rw [Addr.add_lit]
  intro e
  injection e with e
  simp at e
  omega)
theorem gb_undrew {w w' : World} {r : Option Nat} (h : w.drew.grownBy w' r) : w.grownBy w' r := ⟨h.os, h.tape, h.output, h.size, h.block⟩
theorem six_one : ∀ u ∈ zero6, u.oneCell' = true := by
  intro u hu
  simp at hu
  rcases hu with rfl | rfl | rfl | rfl | rfl <;> rfl

section
variable {w : World} {g n cap base : Nat} {ty : TypeId} {x0 x1 x2 x3 x4 x5 : Value} {xs : List Value}
theorem six_at (h : w.ownsRow base ty 6 (.slice (some ⟨g, 0, none⟩) (n + 1) cap) (n + 1) (xs ++ [x0, x1, x2, x3, x4, x5])) (hx : xs.length = n * 6) :
    (w.cell? ⟨g, n * 6, none⟩ = some x0 ∧ w.cell? ⟨g, n * 6 + 1, none⟩ = some x1 ∧ w.cell? ⟨g, n * 6 + 2, none⟩ = some x2 ∧ w.cell? ⟨g, n * 6 + 3, none⟩ = some x3 ∧ w.cell? ⟨g, n * 6 + 4, none⟩ = some x4 ∧ w.cell? ⟨g, n * 6 + 5, none⟩ = some x5) ∧
    (w.frozen? ⟨g, n * 6, none⟩ = false ∧ w.frozen? ⟨g, n * 6 + 1, none⟩ = false ∧ w.frozen? ⟨g, n * 6 + 2, none⟩ = false ∧ w.frozen? ⟨g, n * 6 + 3, none⟩ = false ∧ w.frozen? ⟨g, n * 6 + 4, none⟩ = false ∧ w.frozen? ⟨g, n * 6 + 5, none⟩ = false) := by
  refine ⟨⟨?_, ?_, ?_, ?_, ?_, ?_⟩, h.frozenAt _, h.frozenAt _, h.frozenAt _, h.frozenAt _, h.frozenAt _, h.frozenAt _⟩
  · rw [h.cellAt _ (by omega), List.getElem?_append_right (by omega), show n * 6 - xs.length = 0 from by omega]; rfl
  · rw [h.cellAt _ (by omega), List.getElem?_append_right (by omega), show n * 6 + 1 - xs.length = 1 from by omega]; rfl
  · rw [h.cellAt _ (by omega), List.getElem?_append_right (by omega), show n * 6 + 2 - xs.length = 2 from by omega]; rfl
  · rw [h.cellAt _ (by omega), List.getElem?_append_right (by omega), show n * 6 + 3 - xs.length = 3 from by omega]; rfl
  · rw [h.cellAt _ (by omega), List.getElem?_append_right (by omega), show n * 6 + 4 - xs.length = 4 from by omega]; rfl
  · rw [h.cellAt _ (by omega), List.getElem?_append_right (by omega), show n * 6 + 5 - xs.length = 5 from by omega]; rfl
end
end Go.Proofs.YtnbaajdcakjlmaaDoor
