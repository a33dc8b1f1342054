/-
  QD: JBox JSlices JName JElem JItem0, side by side.
-/
import Derived.Test.YthklgpflaghojaaGreatDoorQC
import Derived.Maps.AppendAt
import Derived.Laws.OwnMore
import Derived.Deep.RegionLaw
import Derived.Shelf.Slices.Turned
import Derived.Shelf.Slices.Equal
import Derived.Shelf.Slices.Empties2

/-
  A list or an object under way: the variable that a closure captures, its two rows, and the elements that lie in neither.
-/
namespace Go.Proofs.YthklgpflaghojaaGreatDoor
open Go.RowKit

/-- What a step of a list under way may change: the reader's block, and what lies from B on. -/
structure Far (B R : Nat) (w w' : World) : Prop where
  os : w'.os = w.os
  tape : w'.tape = w.tape
  output : w'.output = w.output
  size : w.heap.size ≤ w'.heap.size
  block : ∀ k, k < B → k ≠ R → w'.heap[k]? = w.heap[k]?
theorem Far.refl (B R : Nat) (w : World) : Far B R w w := ⟨rfl, rfl, rfl, Nat.le_refl _, fun _ _ _ => rfl⟩
theorem Far.trans {B R : Nat} {w w1 w2 : World} (h1 : Far B R w w1) (h2 : Far B R w1 w2) : Far B R w w2 :=
  ⟨h2.os.trans h1.os, h2.tape.trans h1.tape, h2.output.trans h1.output, Nat.le_trans h1.size h2.size, fun k hk hr => (h2.block k hk hr).trans (h1.block k hk hr)⟩
theorem Far.of_gb {B R : Nat} {w w' : World} (h : w.grownBy w' (some R)) (hB : B ≤ w.heap.size) : Far B R w w' :=
  ⟨h.os, h.tape, h.output, h.size, fun k hk hr => h.block k (Nat.lt_of_lt_of_le hk hB) (fun e => hr (by injection e))⟩
theorem Far.of_below {B R : Nat} {w w' : World} (h : Below B w w') : Far B R w w' := ⟨h.os, h.tape, h.output, h.size, fun k hk _ => h.block k hk⟩
theorem Far.of_row {B R base : Nat} {w w' : World} {v : Value} (h : w.grownBy w' v.ownBlock) (hv : ∀ k, v.ownBlock = some k → base ≤ k) (hB : B ≤ base) (hs : B ≤ w.heap.size) : Far B R w w' :=
  ⟨h.os, h.tape, h.output, h.size, fun k hk _ => h.block k (Nat.lt_of_lt_of_le hk hs) (fun e => by have := hv k e.symm; omega)⟩
theorem Far.set {B R : Nat} (w : World) {g i : Nat} (v : Value) (hg : B ≤ g) : Far B R w (w.setCell ⟨g, i, none⟩ v) :=
  Far.of_below ((Below.refl _ _).setCell hg v)
theorem Far.drew {B R : Nat} {w w' : World} (h : Far B R w.drew w') : Far B R w w' := ⟨h.os, h.tape, h.output, h.size, h.block⟩
theorem Far.alloc {B R : Nat} {w w' : World} {o : Obj} (h : Far B R (w.alloc o) w') (hB : B ≤ w.heap.size) : Far B R w w' :=
  (Far.of_below ((Below.refl B w).alloc hB o)).trans h
theorem Far.gb {R : Nat} {w w' : World} (h : Far w.heap.size R w w') : w.grownBy w' (some R) :=
  ⟨h.os, h.tape, h.output, h.size, fun k hk hr => h.block k hk (fun e => hr (by rw [e]))⟩

structure Box (kind : Int) (B Rb V R : Nat) (ns : List (List Nat)) (l : List Jq.J) (nv lv : Value) (w : World) : Prop where
  box : Lies w V 26 [.int .i64 kind, .bool false, .int .i64 0, .string ByteArray.empty, nv, lv]
  ptr : Lies w Rb 125 [.pointer (some ⟨R, 0, none⟩)]
  names : w.ownsRow B 9 1 nv ns.length (tcells ns)
  nlt : ∀ p ∈ ns, p.length ≤ 4096 ∧ ∀ x ∈ p, x < 256
  rows : ∃ vs : List Value, vs.length = l.length ∧ w.ownsRow B 26 6 lv l.length (vs.flatMap jcells) ∧ ∀ (i : Nat) v x, vs[i]? = some v → l[i]? = some x → IsJ w (fun b => B ≤ b ∧ nv.ownBlock ≠ some b ∧ lv.ownBlock ≠ some b) v x
  apart : ∀ b, nv.ownBlock = some b → lv.ownBlock ≠ some b
  size : B ≤ w.heap.size
  hRV : R ≠ V
  hRRb : R ≠ Rb
  hVRb : V ≠ Rb
  hV : V < B
  hRb : Rb < B
  hR : R < B

section
variable {kind : Int} {B Rb V R : Nat} {ns : List (List Nat)} {l : List Jq.J} {nv lv : Value} {w w' : World}
theorem Box.keep (h : Box kind B Rb V R ns l nv lv w) (hk : ∀ k, k < w.heap.size → k ≠ R → w'.heap[k]? = w.heap[k]?) (hs : w.heap.size ≤ w'.heap.size) : Box kind B Rb V R ns l nv lv w' := by
  have lies : ∀ {g t cs}, Lies w g t cs → g ≠ R → Lies w' g t cs := fun h hg => (hk _ h.lt hg).trans h
  have own : ∀ {e size v n xs}, w.ownsRow B e size v n xs → w'.ownsRow B e size v n xs := fun {e size v n xs} ho => by
    refine ⟨ho.1, ?_⟩
    rcases ho.2 with hn | ⟨g, cap, cur, rfl, hb, hg, rest⟩
    · exact .inl hn
    · refine .inr ⟨g, cap, cur, rfl, hb, (hk g (Array.getElem?_eq_some_iff.1 hg).1 ?_).trans hg, rest⟩
      have := h.hR; omega
  obtain ⟨vs, hv, ho, hJ⟩ := h.rows
  have hR := h.hR
  refine { h with box := lies h.box (Ne.symm h.hRV), ptr := lies h.ptr (Ne.symm h.hRRb), names := own h.names, rows := ⟨vs, hv, own ho, fun i v x h1 h2 => (hJ i v x h1 h2).keep (fun b hb hlt => ⟨hb, hk b hlt (by have := hb.1; omega)⟩) hs⟩, size := Nat.le_trans h.size hs }
theorem Box.gb (h : Box kind B Rb V R ns l nv lv w) (hg : w.grownBy w' (some R)) : Box kind B Rb V R ns l nv lv w' :=
  h.keep (fun k hk hr => hg.block k hk (fun e => hr (by injection e))) hg.size
theorem Box.alloc (h : Box kind B Rb V R ns l nv lv w) (o : Obj) : Box kind B Rb V R ns l nv lv (w.alloc o) := h.gb (World.grownBy_alloc w o _)
theorem Box.drew (h : Box kind B Rb V R ns l nv lv w) : Box kind B Rb V R ns l nv lv w.drew := h.keep (fun _ _ _ => rfl) (Nat.le_refl _)
theorem Box.cells (h : Box kind B Rb V R ns l nv lv w) : w.cell? ⟨V, 4, none⟩ = some nv ∧ w.cell? ⟨V, 5, none⟩ = some lv ∧ w.frozen? ⟨V, 4, none⟩ = false ∧ w.frozen? ⟨V, 5, none⟩ = false ∧ w.cell? ⟨Rb, 0, none⟩ = some (.pointer (some ⟨R, 0, none⟩)) :=
  ⟨h.box.cell 4, h.box.cell 5, h.box.free 4, h.box.free 5, h.ptr.cell 0⟩
end
theorem Rd.drew {W w : World} {R d : Nat} {s : ByteArray} (h : Rd W R s d w) : Rd W R s d w.drew := ⟨h.held, h.below.drew, h.le, h.lies, h.small, h.deep⟩

section
variable {ops : Array Oper} {o : Oper} {a : Act} {Q : Exit → Act → World → Prop} {w : World} {K : Act → World → Prop} {E : Prop}
/-- append of one element that was just laid, in a region that draws its order: and where the new row lies. -/
theorem step_append_at (hgd : o.guard = none) (s x : Operand) (t e : TypeId) (z : Value) (size bytes : Nat)
    (ho : o.op = .call { callee := .builtin .append, args := #[s, x], argTypes := #[t, t] }) (ht : Tryz.prog.underlying t = some (.slice e))
    (hi : (Tryz.prog.info? e).map (fun i => (i.zero, i.size, i.bytes)) = some (some z, size, bytes)) (hz : z.cells.size = size) (hsz : 0 < size)
    (base : Nat) (v : Value) (n : Nat) (xs : List Value) (A : Addr) (c : Nat) (us : List Value) (hown : w.ownsRow base e size v n xs) (hl : us.length = size) (hc : ∀ j u, us[j]? = some u → w.cell? (A.add j) = some u) (h1 : ∀ u ∈ us, u.oneCell' = true)
    (hs : a.eval s = v) (hx : a.eval x = .slice (some A) 1 c) (hb : (n + 1) * bytes ≤ 140737488355328) (hm : n + 1 ≤ 140737488355328) (hbase : base ≤ w.heap.size)
    (hK : ∀ g cap w', w'.ownsRow base e size (.slice (some ⟨g, 0, none⟩) (n + 1) cap) (n + 1) (xs ++ us) → w.grownBy w' v.ownBlock → (v.ownBlock = some g ∨ g = w.heap.size) → K (a.put o.dst (.slice (some ⟨g, 0, none⟩) (n + 1) cap)) w') : if Region.wanted o (yielded ops a.tmps) = true then Oper.wp Tryz.prog o a w K Q else E := by
  have hw : Region.wanted o (yielded ops a.tmps) = true := by simp [Region.wanted, hgd]
  rw [if_pos hw]
  obtain ⟨i0, hi0, hz0, hz1, hz2⟩ := info_parts hi
  obtain ⟨v', w', hrun, h2, h3, _, h5⟩ := run_append_own_at (P := Tryz.prog) w base t o.type e i0 z size bytes ht hi0 hz0 hz1 hz2 hz hsz v n xs hown A 1 c us (by rw [hl, Nat.one_mul]) hc h1 (by unfold maxLen; omega) hb hbase
  obtain ⟨g, cap, rfl⟩ := own_form h2 (by omega)
  unfold Oper.wp
  simp [execOp, ho, resolve, invoke, builtin, hs, hx, hrun, Result.andThen]
  refine hK g cap w' h2 h3 ?_
  rcases h5 with h5 | h5
  · exact .inl (by rw [← h5]; rfl)
  · exact .inr (by injection h5)
end
end Go.Proofs.YthklgpflaghojaaGreatDoor

/-
  The library's Contains, Index and Equal on texts.
-/
namespace Go.Proofs.YthklgpflaghojaaGreatDoor
open Go.RowKit

theorem tcells_length (l : List (List Nat)) : (tcells l).length = l.length := by simp [tcells]
theorem tcells_at (l : List (List Nat)) (j : Nat) (hj : j < l.length) : (tcells l)[j]? = some (.string ((l.map strOf).getD j ByteArray.empty)) := by
  simp [tcells, List.getElem?_eq_getElem hj, List.getD_eq_getElem?_getD]
/-- A row of the call's own is a slice whose cells are these. -/
theorem own_slIs {w : World} {base : Nat} {e : TypeId} {size : Nat} {v : Value} {n : Nat} {cs : List Value} (h : w.ownsRow base e size v n cs) : SlIs w (base ≤ ·) v n cs := by
  obtain ⟨h1, h2⟩ := h
  rcases h2 with ⟨rfl, rfl⟩ | ⟨g, cap, cur, rfl, hb, hg, hn, hc, hs, ht⟩
  · have : cs = [] := List.eq_nil_of_length_eq_zero (by simpa using h1)
    subst this
    exact SlIs.nil w _
  · unfold maxLen at hc
    refine ⟨_, cap, rfl, hn, by omega, fun _ => ⟨g, 0, rfl, hb, (Array.getElem?_eq_some_iff.1 hg).1, fun j x hj => ?_⟩⟩
    rw [Nat.zero_add, cell_of_row w g j cur _ _ hg, ← Array.getElem?_toList]
    rw [← ht, List.getElem?_take] at hj
    split at hj
    · exact hj
    · cases hj
theorem strOf_mem {ns : List (List Nat)} {t : List Nat} (hns : ∀ p ∈ ns, ∀ x ∈ p, x < 256) (ht : ∀ x ∈ t, x < 256) : strOf t ∈ ns.map strOf ↔ t ∈ ns := by
  rw [List.mem_map]
  constructor
  · rintro ⟨p, hp, e⟩
    rw [← strOf_inj (hns p hp) ht e]; exact hp
  · exact fun h => ⟨t, h, rfl⟩
theorem contains_any {ok : Nat → Prop} (ns : List (List Nat)) (t : List Nat) (v : Value) (w : World) (h : SlIs w ok v ns.length (tcells ns)) (hns : ∀ p ∈ ns, ∀ x ∈ p, x < 256) (ht : ∀ x ∈ t, x < 256) :
    Calls Tryz.prog 155 #[v, .string (strOf t)] w fun e w' => e = .returned (.bool (decide (t ∈ ns))) ∧ w = w' := by
  obtain ⟨A, c, rfl, h1, h2, h3⟩ := h
  by_cases h0 : ns.length = 0
  · obtain rfl : ns = [] := List.eq_nil_of_length_eq_zero h0
    exact (Any.slices_Contains_string_empty (P := Tryz.prog) (ρ := lays110_ren) lays110 A c (strOf t) w).mono fun e w' ⟨he, hw⟩ => ⟨by rw [he]; simp, hw.symm⟩
  · obtain ⟨b, off, rfl, _, _, hc⟩ := h3 (by omega)
    refine (Any.slices_Contains_string (P := Tryz.prog) (ρ := lays110_ren) lays110 b off ns.length c (ns.map strOf) (strOf t) w (by simp) (by omega) (fun j hj => hc j _ (tcells_at ns j (by simpa using hj)))).mono fun e w' ⟨he, hw⟩ => ⟨?_, hw.symm⟩
    rw [he]
    congr 2
    rw [Bool.eq_iff_iff, Lib.containsS_iff, decide_eq_true_iff, List.take_of_length_le (by simp), strOf_mem hns ht]

/-- The first place of a text. -/
def firstAt (t : List Nat) : List (List Nat) → Option Nat
  | [] => none
  | p :: r => if p = t then some 0 else (firstAt t r).map (· + 1)
theorem firstAt_iff (t : List Nat) : ∀ (ns : List (List Nat)), match firstAt t ns with
    | none => t ∉ ns
    | some k => k < ns.length ∧ ns[k]? = some t ∧ ∀ j, j < k → ns[j]? ≠ some t
  | [] => by simp [firstAt]
  | p :: r => by
    have ih := firstAt_iff t r
    unfold firstAt
    by_cases h : p = t
    · rw [if_pos h]
      exact ⟨by simp, by simp [h], fun j hj => by omega⟩
    · rw [if_neg h]
      cases hf : firstAt t r with
      | none =>
        rw [hf] at ih
        simp only [Option.map_none]
        intro hm
        rcases List.mem_cons.1 hm with e | e
        · exact h e.symm
        · exact ih e
      | some k =>
        rw [hf] at ih
        obtain ⟨i1, i2, i3⟩ := ih
        simp only [Option.map_some]
        refine ⟨by simp; omega, by simpa using i2, fun j hj => ?_⟩
        cases j with
        | zero => simpa using h
        | succ j => simpa using i3 j (by omega)
theorem index_any {ok : Nat → Prop} (ns : List (List Nat)) (t : List Nat) (v : Value) (w : World) (h : SlIs w ok v ns.length (tcells ns)) (hns : ∀ p ∈ ns, ∀ x ∈ p, x < 256) (ht : ∀ x ∈ t, x < 256) :
    Calls Tryz.prog 75 #[v, .string (strOf t)] w fun e w' => e = .returned (.int .i64 (match firstAt t ns with | none => -1 | some k => (k : Int))) ∧ w = w' := by
  have hf := firstAt_iff t ns
  have hget : ∀ j, j < ns.length → (ns.map strOf).getD j ByteArray.empty = strOf (ns.getD j []) := fun j hj => by
    simp [List.getD_eq_getElem?_getD, List.getElem?_eq_getElem hj]
  have hin : ∀ j, j < ns.length → strOf (ns.getD j []) = strOf t → ns[j]? = some t := fun j hj e => by
    have hm : ns.getD j [] ∈ ns := by
      rw [List.getD_eq_getElem?_getD, List.getElem?_eq_getElem hj]
      exact List.getElem_mem hj
    have := strOf_inj (hns _ hm) ht e
    rw [← this, List.getD_eq_getElem?_getD, List.getElem?_eq_getElem hj]; rfl
  obtain ⟨A, c, rfl, h1, h2, h3⟩ := h
  by_cases h0 : ns.length = 0
  · obtain rfl : ns = [] := List.eq_nil_of_length_eq_zero h0
    exact (Any.slices_Index_string_empty (P := Tryz.prog) (ρ := lays109_ren) lays109 A c (strOf t) w).mono fun e w' ⟨he, hw⟩ => ⟨by rw [he]; rfl, hw.symm⟩
  · obtain ⟨b, off, rfl, _, _, hc⟩ := h3 (by omega)
    refine (Any.slices_Index_string (P := Tryz.prog) (ρ := lays109_ren) lays109 b off ns.length c (ns.map strOf) (strOf t) w (by simp) (by omega) (fun j hj => hc j _ (tcells_at ns j (by simpa using hj)))).mono fun e w' ⟨he, hw⟩ => ⟨?_, hw.symm⟩
    rw [he]
    cases hk : firstAt t ns with
    | none =>
      rw [hk] at hf
      rw [Lib.idxOfS_miss (ns.map strOf) ns.length (strOf t) (fun j hj e => hf (List.mem_of_getElem? (hin j hj (by rw [← hget j hj]; exact e))))]
    | some k =>
      rw [hk] at hf
      obtain ⟨i1, i2, i3⟩ := hf
      rw [Lib.idxOfS_hit (ns.map strOf) ns.length k (strOf t) i1 (by simp) (by rw [hget k i1, List.getD_eq_getElem?_getD, i2]; rfl) (fun j hj e => i3 j hj (hin j (by omega) (by rw [← hget j (by omega)]; exact e)))]
theorem equal_any {ok ok' : Nat → Prop} (ns ms : List (List Nat)) (v u : Value) (w : World) (h : SlIs w ok v ns.length (tcells ns)) (k : SlIs w ok' u ms.length (tcells ms)) (hns : ∀ p ∈ ns, ∀ x ∈ p, x < 256) (hms : ∀ p ∈ ms, ∀ x ∈ p, x < 256) :
    Calls Tryz.prog 77 #[v, u] w fun e w' => e = .returned (.bool (decide (ns = ms))) ∧ ∃ q, w' = w.drewN q := by
  obtain ⟨A, c, rfl, h1, h2, h3⟩ := h
  obtain ⟨A', c', rfl, k1, k2, k3⟩ := k
  by_cases hl : ns.length = ms.length
  · by_cases h0 : ns.length = 0
    · obtain rfl : ns = [] := List.eq_nil_of_length_eq_zero h0
      obtain rfl : ms = [] := List.eq_nil_of_length_eq_zero (by rw [← hl]; rfl)
      exact (Any.slices_Equal_string_empty (P := Tryz.prog) (ρ := lays193_ren) lays193 A A' c 0 c' w (by omega)).mono fun e w' ⟨he, hw⟩ => ⟨by rw [he]; rfl, 0, hw⟩
    · obtain ⟨b, off, rfl, _, _, hc⟩ := h3 (by omega)
      obtain ⟨b', off', rfl, _, _, hc'⟩ := k3 (by omega)
      refine (Any.slices_Equal_string (P := Tryz.prog) (ρ := lays193_ren) lays193 b off ns.length c b' off' ms.length c' (ns.map strOf) (ms.map strOf) w (by simp) (by simp) (by omega) (by omega) (fun j hj => hc j _ (tcells_at ns j (by simpa using hj))) (fun j hj => hc' j _ (tcells_at ms j (by simpa using hj)))).mono fun e w' ⟨he, hw⟩ => ⟨?_, hw⟩
      rw [he]
      congr 2
      rw [Bool.eq_iff_iff, decide_eq_true_iff, decide_eq_true_iff, List.take_of_length_le (by simp), List.take_of_length_le (by simp)]
      constructor
      · intro e
        apply List.ext_getElem hl
        intro i hi1 hi2
        have := congrArg (fun l => l[i]?) e
        simp only [List.getElem?_map, List.getElem?_eq_getElem hi1, List.getElem?_eq_getElem hi2, Option.map_some, Option.some.injEq] at this
        exact strOf_inj (hns _ (List.getElem_mem hi1)) (hms _ (List.getElem_mem hi2)) this
      · rintro rfl; rfl
  · refine (Any.slices_Equal_string_lens (P := Tryz.prog) (ρ := lays193_ren) lays193 A A' ns.length c ms.length c' w hl).mono fun e w' ⟨he, hw⟩ => ⟨?_, 0, hw⟩
    rw [he, decide_eq_false (fun e => hl (by rw [e]))]
end Go.Proofs.YthklgpflaghojaaGreatDoor

/-
  The reader's name.
-/
namespace Go.Proofs.YthklgpflaghojaaGreatDoor
open Go.RowKit

def nameP (ns : List (List Nat)) (L : List Nat) : Jq.R (List Nat) :=
  if (Jq.skip L).head? = some 34 then match Jq.text ((Jq.skip L).drop 1) with
    | .error e => .error e
    | .ok (t, r) => if t ∈ ns then .error 54 else .ok (t, r)
  else .error 51

set_option maxRecDepth 100000 in
set_option maxHeartbeats 4000000 in
theorem name_any (W : World) (R d : Nat) (s : ByteArray) (w : World) (h : Rd W R s d w) (B : Nat) (nv : Value) (ns : List (List Nat)) (hR : R < B) (hown : w.ownsRow B 9 1 nv ns.length (tcells ns)) (hns : ∀ p ∈ ns, ∀ x ∈ p, x < 256) :
    Calls Tryz.prog 141 #[.pointer (some ⟨R, 0, none⟩), nv] w fun e w' => Ends W R d w IsText (nameP ns (numsOf s)) e w' := by
  have hS := space_any W R d s w h
  obtain ⟨NP, eNP⟩ : ∃ NP, nameP ns (numsOf s) = NP := ⟨_, rfl⟩
  have HNP := Lib.hid eNP
  rw [eNP]
  clear eNP
  go_enter Tryz.func141, Tryz.ntmps141
  go_wp2_with fail
  refine hS.mono ?_
  rintro e w1 ⟨rfl, s1, hs1, h1, hg1⟩
  clear hS
  have hN := next_any W R d s1 w1 h1
  have hh := nums_head s1 34 (by decide)
  have HS := Lib.hid hs1
  clear hs1
  obtain ⟨x, ex⟩ : ∃ x, (numsOf s1).getD 0 0 = x := ⟨_, rfl⟩
  rw [ex] at hN hh
  clear ex
  by_cases hx : x = 34
  · have hhd := hh.2 hx
    subst hx
    have hT := textR_any W R d s1 w1 h1 hhd
    cases ht : Jq.text ((numsOf s1).drop 1) with
    | error n =>
      have HP : Hid (NP = .error n) := by
        unfold Hid
        rw [← HNP.out, nameP, ← HS.out, if_pos hhd, ht]
      rw [ht] at hT
      clear ht hhd hh
      go_wp2_with fail
      refine hN.mono ?_
      rintro e w2 ⟨rfl, rfl⟩
      clear hN
      go_wp2_with fail
      refine hT.mono ?_
      rintro e w2 ⟨rfl, hg2⟩
      clear hT
      go_wp2
      exact ⟨rfl, Ends.err HP.out (gb_trans hg1 hg2)⟩
    | ok p =>
      obtain ⟨t, r⟩ := p
      have HP : Hid (NP = if t ∈ ns then .error 54 else .ok (t, r)) := by
        unfold Hid
        rw [← HNP.out, nameP, ← HS.out, if_pos hhd, ht]
      rw [ht] at hT
      clear ht hhd hh
      go_wp2_with fail
      refine hN.mono ?_
      rintro e w2 ⟨rfl, rfl⟩
      clear hN
      go_wp2_with fail
      refine hT.mono ?_
      rintro e w2 ⟨v, s2, rfl, ⟨rfl, htl, htx⟩, hs2, h2, hg2⟩
      clear hT
      have HS2 := Lib.hid hs2
      clear hs2
      have hC := contains_any ns t nv w2 (own_slIs (own_gb (own_gb hown hg1 hR) hg2 hR)) hns htx
      by_cases hm : t ∈ ns
      · rw [decide_eq_true hm] at hC
        have HQ : Hid (NP = .error 54) := by unfold Hid; rw [HP.out, if_pos hm]
        clear hm
        go_wp2_with fail
        refine hC.mono ?_
        rintro e w3 ⟨rfl, rfl⟩
        clear hC
        go_wp2
        exact ⟨rfl, Ends.err HQ.out (gb_trans hg1 hg2)⟩
      · rw [decide_eq_false hm] at hC
        have HQ : Hid (NP = .ok (t, r)) := by unfold Hid; rw [HP.out, if_neg hm]
        clear hm
        go_wp2_with fail
        refine hC.mono ?_
        rintro e w3 ⟨rfl, rfl⟩
        clear hC
        go_wp2
        go_ret
        exact Ends.ok HQ.out ⟨rfl, htl, htx⟩ HS2.out h2 (gb_trans hg1 hg2)
  · have hd : ((x : Int) != 34) = true := byte_ne hx
    have HP : Hid (NP = .error 51) := by
      unfold Hid
      rw [← HNP.out, nameP, ← HS.out, if_neg (fun e => hx (hh.1 e))]
    clear hx hh
    go_wp2_with fail
    refine hN.mono ?_
    rintro e w2 ⟨rfl, rfl⟩
    clear hN
    go_wp2
    exact ⟨rfl, Ends.err HP.out hg1⟩
end Go.Proofs.YthklgpflaghojaaGreatDoor

/-
  One element more of a list under way, and one name more of an object.
-/
namespace Go.Proofs.YthklgpflaghojaaGreatDoor
open Go.RowKit
set_option maxRecDepth 100000 in
theorem infoJson : (Tryz.prog.info? 26).map (fun i => (i.zero, i.size, i.bytes)) = some (some (jv 0 false 0 ByteArray.empty nilS nilS), 6, 88) := by kernel_rfl
abbrev zero6 : List Value := [.int .i64 0, .bool false, .int .i64 0, .string ByteArray.empty, nilS, nilS]
/-- Six cells are written from a place on. -/
abbrev putAt (w : World) (g i : Nat) (a b c d e f : Value) : World := (((((w.setCell ⟨g, i, none⟩ a).setCell ⟨g, i + 1, none⟩ b).setCell ⟨g, i + 2, none⟩ c).setCell ⟨g, i + 3, none⟩ d).setCell ⟨g, i + 4, none⟩ e).setCell ⟨g, i + 5, none⟩ f
section
variable {w w' : World} {g i : Nat} {ty : TypeId} {a b c d e f x0 x1 x2 x3 x4 x5 : Value}
theorem putAt_far {k : Nat} (hk : k ≠ g) : (putAt w g i a b c d e f).heap[k]? = w.heap[k]? := by
  rw [Below.heap_setCell _ _ _ _ hk, Below.heap_setCell _ _ _ _ hk, Below.heap_setCell _ _ _ _ hk, Below.heap_setCell _ _ _ _ hk, Below.heap_setCell _ _ _ _ hk, Below.heap_setCell _ _ _ _ hk]
theorem gb_putAt : w.grownBy (putAt w g i a b c d e f) (some g) :=
  gb_trans (gb_trans (gb_trans (gb_trans (gb_trans (gb_set _ _ _ _) (gb_set _ _ _ _)) (gb_set _ _ _ _)) (gb_set _ _ _ _)) (gb_set _ _ _ _)) (gb_set _ _ _ _)
theorem set_six (xs : List Value) (n : Nat) (hx : xs.length = n * 6) : ((((((xs ++ [x0, x1, x2, x3, x4, x5]).set (n * 6) a).set (n * 6 + 1) b).set (n * 6 + 2) c).set (n * 6 + 3) d).set (n * 6 + 4) e).set (n * 6 + 5) f = xs ++ [a, b, c, d, e, f] := by
  rw [← hx]
  rw [List.set_append_right _ _ (Nat.le_refl _), List.set_append_right _ _ (by omega), List.set_append_right _ _ (by omega), List.set_append_right _ _ (by omega), List.set_append_right _ _ (by omega), List.set_append_right _ _ (by omega)]
  simp
theorem own_putAt {base cap n : Nat} {xs : List Value} (h : w.ownsRow base ty 6 (.slice (some ⟨g, 0, none⟩) (n + 1) cap) (n + 1) (xs ++ [x0, x1, x2, x3, x4, x5])) (hx : xs.length = n * 6) :
    (putAt w g (n * 6) a b c d e f).ownsRow base ty 6 (.slice (some ⟨g, 0, none⟩) (n + 1) cap) (n + 1) (xs ++ [a, b, c, d, e, f]) := by
  have := ((((((h.stored (n * 6) a).1.stored (n * 6 + 1) b).1.stored (n * 6 + 2) c).1.stored (n * 6 + 3) d).1.stored (n * 6 + 4) e).1.stored (n * 6 + 5) f).1
  rw [set_six xs n hx] at this
  exact this
end
theorem flat_len {w : World} {base n : Nat} {ty : TypeId} {v : Value} {xs : List Value} (h : w.ownsRow base ty 6 v n xs) : xs.length = n * 6 := h.1

/-- One element more. -/
theorem Box.elem {kind : Int} {B Rb V R C g cap : Nat} {ns : List (List Nat)} {l : List Jq.J} {nv lv v : Value} {x : Jq.J} {w1 w2 w3 : World} {vs : List Value}
    (h : Box kind B Rb V R ns l nv lv w1) (hvs : vs.length = l.length)
    (hel : ∀ (i : Nat) u y, vs[i]? = some u → l[i]? = some y → IsJ w1 (fun b => B ≤ b ∧ nv.ownBlock ≠ some b ∧ lv.ownBlock ≠ some b) u y)
    (hJ : IsJ w1 (C ≤ ·) v x) (hBC : B ≤ C) (hnC : ∀ k, nv.ownBlock = some k → k < C) (hlC : ∀ k, lv.ownBlock = some k → k < C)
    (hgr : w1.grownBy w2 lv.ownBlock) (hg : lv.ownBlock = some g ∨ g = w1.heap.size)
    (e1 : w3.ownsRow B 26 6 (.slice (some ⟨g, 0, none⟩) (l.length + 1) cap) (l.length + 1) (vs.flatMap jcells ++ jcells v))
    (e2 : Lies w3 V 26 [.int .i64 kind, .bool false, .int .i64 0, .string ByteArray.empty, nv, .slice (some ⟨g, 0, none⟩) (l.length + 1) cap])
    (e3 : ∀ k, k ≠ g → k ≠ V → w3.heap[k]? = w2.heap[k]?) (e4 : w2.heap.size ≤ w3.heap.size) :
    Box kind B Rb V R ns (l ++ [x]) nv (.slice (some ⟨g, 0, none⟩) (l.length + 1) cap) w3 := by
  have hV := h.hV
  have hRb := h.hRb
  have hnlt := h.names.lt
  have hllt : ∀ k, lv.ownBlock = some k → B ≤ k ∧ k < w1.heap.size := by
    obtain ⟨_, _, ho, _⟩ := h.rows
    exact ho.lt
  have key : ∀ k, k < w1.heap.size → k ≠ V → lv.ownBlock ≠ some k → w3.heap[k]? = w1.heap[k]? := fun k h1 h2 h3 => by
    have hkg : k ≠ g := by
      rcases hg with hg | hg
      · exact fun e => h3 (by rw [e]; exact hg)
      · omega
    rw [e3 k hkg h2, hgr.block k h1 (fun e => h3 e.symm)]
  have hs : w1.heap.size ≤ w3.heap.size := Nat.le_trans hgr.size e4
  have napart : ∀ b, nv.ownBlock = some b → b ≠ g := fun b hb => by
    rcases hg with hg | hg
    · exact fun e => h.apart b hb (by rw [e]; exact hg)
    · have := (hnlt b hb).2; omega
  refine { h with
    box := e2
    ptr := (key Rb h.ptr.lt (Ne.symm h.hVRb) (fun e => by have := (hllt _ e).1; omega)).trans h.ptr
    names := own_far h.names (fun k hk => key k (hnlt k hk).2 (by have := (hnlt k hk).1; omega) (h.apart k hk))
    rows := ⟨vs ++ [v], by simp [hvs], by rw [List.length_append, List.flatMap_append]; simpa using e1, ?_⟩
    apart := fun b hb => fun e => napart b hb (by simpa [Value.ownBlock] using e.symm)
    size := Nat.le_trans h.size hs }
  intro i u y hu hy
  by_cases hi : i < l.length
  · rw [List.getElem?_append_left (by omega)] at hu hy
    refine (hel i u y hu hy).keep (fun b hb hlt => ⟨⟨hb.1, hb.2.1, fun e => ?_⟩, key b hlt (by have := hb.1; omega) hb.2.2⟩) hs
    have hbg : b = g := by simpa [Value.ownBlock] using e.symm
    rcases hg with hg | hg
    · exact hb.2.2 (by rw [hbg]; exact hg)
    · omega
  · rw [List.getElem?_append_right (by omega)] at hu hy
    have hi0 : i - l.length = 0 := by
      have := (List.getElem?_eq_some_iff.1 hy).1
      simp at this; omega
    rw [hi0] at hy
    rw [hvs, hi0] at hu
    simp at hu hy
    subst hu hy
    refine hJ.keep (fun b hb hlt => ⟨⟨Nat.le_trans hBC hb, fun e => ?_, fun e => ?_⟩, key b hlt (by have : C ≤ b := hb; omega) (fun e => ?_)⟩) hs
    · have := hlC b e; have : C ≤ b := hb; omega
    · have := hnC b e; have : C ≤ b := hb; omega
    · have hbg : b = g := by simpa [Value.ownBlock] using e.symm
      have : C ≤ b := hb
      rcases hg with hg | hg
      · have := hlC g hg; omega
      · omega
end Go.Proofs.YthklgpflaghojaaGreatDoor

/-
  What the closures of the reader's list and object leave behind.
-/
namespace Go.Proofs.YthklgpflaghojaaGreatDoor
open Go.RowKit

/-- That values of n levels are read as they must be. -/
def ValueOk (n : Nat) : Prop := ∀ (W : World) (R : Nat) (s : ByteArray) (w : World), Rd W R s (16 - n) w →
  Calls Tryz.prog 95 #[.pointer (some ⟨R, 0, none⟩)] w fun e w' => Ends W R (16 - n) w (fun x v w' => IsJ w' (w.heap.size ≤ ·) v x) (Jq.value n (numsOf s)) e w'
/-- How a step of a list or an object under way ends. -/
def ItemEnd {σ : Type} (W : World) (R d B0 : Nat) (w : World) (St : σ → World → Prop) (res : Jq.R σ) (e : Ending) (w' : World) : Prop :=
  match res with
  | .ok (x, r) => ∃ s', e = .returned (.tuple #[]) ∧ St x w' ∧ numsOf s' = r ∧ Rd W R s' d w' ∧ Far B0 R w w'
  | .error n => e = errEnd n ∧ Far B0 R w w'
def ListSt (B0 B Rb V R : Nat) (l : List Jq.J) (w : World) : Prop := ∃ lv, Box 4 B Rb V R [] l nilS lv w ∧ B0 ≤ V ∧ B0 ≤ B
theorem Ends.cases {α : Type} {W : World} {R d : Nat} {w : World} {val : α → Value → World → Prop} {res : Jq.R α} {e : Ending} {w' : World} (h : Ends W R d w val res e w') :
    (∃ x r v s', res = .ok (x, r) ∧ e = .returned v ∧ val x v w' ∧ numsOf s' = r ∧ Rd W R s' d w' ∧ w.grownBy w' (some R)) ∨ (∃ n, res = .error n ∧ e = errEnd n ∧ w.grownBy w' (some R)) := by
  unfold Ends at h
  split at h
  · rename_i x r
    obtain ⟨v, s', h1, h2, h3, h4, h5⟩ := h
    exact .inl ⟨x, r, v, s', rfl, h1, h2, h3, h4, h5⟩
  · exact .inr ⟨_, rfl, h.1, h.2⟩

theorem ItemEnd.err {σ : Type} {W : World} {R d B0 : Nat} {w w' : World} {St : σ → World → Prop} {res : Jq.R σ} {n : Nat} (h : res = .error n) (hf : Far B0 R w w') : ItemEnd W R d B0 w St res (errEnd n) w' := by
  rw [h]; exact ⟨rfl, hf⟩
theorem ItemEnd.ok {σ : Type} {W : World} {R d B0 : Nat} {w w' : World} {St : σ → World → Prop} {res : Jq.R σ} {x : σ} {r : List Nat} {s' : ByteArray} (h : res = .ok (x, r)) (hs : St x w') (hr : numsOf s' = r) (hR : Rd W R s' d w') (hf : Far B0 R w w') : ItemEnd W R d B0 w St res (.returned (.tuple #[])) w' := by
  rw [h]; exact ⟨s', rfl, hs, hr, hR, hf⟩
/-- The world behind the two stores, in whichever order. -/
def Stored (w2 w3 : World) (V g i : Nat) (v lv' : Value) : Prop :=
  ∃ a b c d e f, v = .agg #[a, b, c, d, e, f] ∧ (w3 = (putAt w2 g i a b c d e f).setCell ⟨V, 5, none⟩ lv' ∨ w3 = putAt (w2.setCell ⟨V, 5, none⟩ lv') g i a b c d e f)
theorem stored_a {w2 : World} {V g i : Nat} {a b c d e f lv' : Value} : Stored w2 ((putAt w2 g i a b c d e f).setCell ⟨V, 5, none⟩ lv') V g i (.agg #[a, b, c, d, e, f]) lv' := ⟨a, b, c, d, e, f, rfl, .inl rfl⟩
theorem stored_b {w2 : World} {V g i : Nat} {a b c d e f lv' : Value} : Stored w2 (putAt (w2.setCell ⟨V, 5, none⟩ lv') g i a b c d e f) V g i (.agg #[a, b, c, d, e, f]) lv' := ⟨a, b, c, d, e, f, rfl, .inr rfl⟩
theorem stored_elem {kind : Int} {B Rb V R C g cap : Nat} {ns : List (List Nat)} {l : List Jq.J} {nv lv v : Value} {x : Jq.J} {w1 w2 w3 : World} {vs : List Value}
    (h : Box kind B Rb V R ns l nv lv w1) (hvs : vs.length = l.length)
    (hel : ∀ (i : Nat) u y, vs[i]? = some u → l[i]? = some y → IsJ w1 (fun b => B ≤ b ∧ nv.ownBlock ≠ some b ∧ lv.ownBlock ≠ some b) u y)
    (hJ : IsJ w1 (C ≤ ·) v x) (hBC : B ≤ C) (hnC : ∀ k, nv.ownBlock = some k → k < C) (hlC : ∀ k, lv.ownBlock = some k → k < C)
    (hown : w2.ownsRow B 26 6 (.slice (some ⟨g, 0, none⟩) (l.length + 1) cap) (l.length + 1) (vs.flatMap jcells ++ zero6))
    (hlen : (vs.flatMap jcells).length = l.length * 6)
    (hgr : w1.grownBy w2 lv.ownBlock) (hg : lv.ownBlock = some g ∨ g = w1.heap.size) (hgB : B ≤ g) (hb2 : Lies w2 V 26 [.int .i64 kind, .bool false, .int .i64 0, .string ByteArray.empty, nv, lv])
    (hst : Stored w2 w3 V g (l.length * 6) v (.slice (some ⟨g, 0, none⟩) (l.length + 1) cap)) :
    Box kind B Rb V R ns (l ++ [x]) nv (.slice (some ⟨g, 0, none⟩) (l.length + 1) cap) w3 ∧ Far (min B V) R w2 w3 := by
  obtain ⟨a, b, c, d, e, f, rfl, hw⟩ := hst
  have hV := h.hV
  have hVg : V ≠ g := by omega
  have hne : ∀ k, (Value.slice (some ⟨g, 0, none⟩) (l.length + 1) cap).ownBlock = some k → k ≠ V := fun k hk => by
    have hk : g = k := by simpa [Value.ownBlock] using hk
    omega
  rcases hw with rfl | rfl
  · refine ⟨Box.elem h hvs hel hJ hBC hnC hlC hgr hg (own_far (own_putAt hown hlen) (fun k hk => Below.heap_setCell _ _ _ _ (hne k hk))) ?_ (fun k h1 h2 => by rw [Below.heap_setCell _ _ _ _ h2, putAt_far h1]) (by simp [World.setCell]), ?_⟩
    · have : Lies (putAt w2 g (l.length * 6) a b c d e f) V 26 [.int .i64 kind, .bool false, .int .i64 0, .string ByteArray.empty, nv, lv] := (putAt_far hVg).trans hb2
      have := this.put 5 (.slice (some ⟨g, 0, none⟩) (l.length + 1) cap)
      simpa using this
    · exact (Far.of_below (gb_down gb_putAt (Nat.le_trans (Nat.min_le_right _ _) (Nat.le_of_lt hb2.lt)) (Nat.le_trans (Nat.min_le_left _ _) hgB))).trans (Far.set _ _ (Nat.min_le_right _ _))
  · refine ⟨Box.elem h hvs hel hJ hBC hnC hlC hgr hg (own_putAt (own_far hown (fun k hk => Below.heap_setCell _ _ _ _ (hne k hk))) hlen) ?_ (fun k h1 h2 => by rw [putAt_far h1, Below.heap_setCell _ _ _ _ h2]) (by simp [World.setCell]), ?_⟩
    · have := hb2.put 5 (.slice (some ⟨g, 0, none⟩) (l.length + 1) cap)
      have this : Lies (w2.setCell ⟨V, 5, none⟩ (.slice (some ⟨g, 0, none⟩) (l.length + 1) cap)) V 26 [.int .i64 kind, .bool false, .int .i64 0, .string ByteArray.empty, nv, .slice (some ⟨g, 0, none⟩) (l.length + 1) cap] := by simpa using this
      exact (putAt_far hVg).trans this
    · exact (Far.set _ _ (Nat.min_le_right _ _)).trans (Far.of_below (gb_down gb_putAt (Nat.le_trans (Nat.min_le_right _ _) (Nat.le_of_lt (by simpa [World.setCell] using hb2.lt))) (Nat.le_trans (Nat.min_le_left _ _) hgB)))
/-- What is laid of the world behind the call of value. -/
theorem new6 (w : World) : ∀ (j : Nat) u, zero6[j]? = some u → (w.alloc (.cells #[.int .i64 0, .bool false, .int .i64 0, .string { data := #[] }, .slice none 0 0, .slice none 0 0] 26)).cell? ((⟨w.heap.size, 0, none⟩ : Addr).add j) = some u := fun j u hj => new_cells w _ _ j u hj
theorem new6_gb {w w1 : World} {R : Nat} (h : (w.alloc (.cells #[.int .i64 0, .bool false, .int .i64 0, .string { data := #[] }, .slice none 0 0, .slice none 0 0] 26)).grownBy w1 (some R)) (hR : R < w.heap.size) : ∀ (j : Nat) u, zero6[j]? = some u → w1.cell? ((⟨w.heap.size, 0, none⟩ : Addr).add j) = some u := fun j u hj => h.cell (new6 w j u hj) (by
  rw [Addr.add_lit]
  intro e
  injection e with e
  simp at e
  omega)
theorem gb_undrew {w w' : World} {r : Option Nat} (h : w.drew.grownBy w' r) : w.grownBy w' r := ⟨h.os, h.tape, h.output, h.size, h.block⟩
theorem six_one : ∀ u ∈ zero6, u.oneCell' = true := by
  intro u hu
  simp at hu
  rcases hu with rfl | rfl | rfl | rfl | rfl <;> rfl

section
variable {w : World} {g n cap base : Nat} {ty : TypeId} {x0 x1 x2 x3 x4 x5 : Value} {xs : List Value}
theorem six_at (h : w.ownsRow base ty 6 (.slice (some ⟨g, 0, none⟩) (n + 1) cap) (n + 1) (xs ++ [x0, x1, x2, x3, x4, x5])) (hx : xs.length = n * 6) :
    (w.cell? ⟨g, n * 6, none⟩ = some x0 ∧ w.cell? ⟨g, n * 6 + 1, none⟩ = some x1 ∧ w.cell? ⟨g, n * 6 + 2, none⟩ = some x2 ∧ w.cell? ⟨g, n * 6 + 3, none⟩ = some x3 ∧ w.cell? ⟨g, n * 6 + 4, none⟩ = some x4 ∧ w.cell? ⟨g, n * 6 + 5, none⟩ = some x5) ∧
    (w.frozen? ⟨g, n * 6, none⟩ = false ∧ w.frozen? ⟨g, n * 6 + 1, none⟩ = false ∧ w.frozen? ⟨g, n * 6 + 2, none⟩ = false ∧ w.frozen? ⟨g, n * 6 + 3, none⟩ = false ∧ w.frozen? ⟨g, n * 6 + 4, none⟩ = false ∧ w.frozen? ⟨g, n * 6 + 5, none⟩ = false) := by
  refine ⟨⟨?_, ?_, ?_, ?_, ?_, ?_⟩, h.frozenAt _, h.frozenAt _, h.frozenAt _, h.frozenAt _, h.frozenAt _, h.frozenAt _⟩
  · rw [h.cellAt _ (by omega), List.getElem?_append_right (by omega), show n * 6 - xs.length = 0 from by omega]; rfl
  · rw [h.cellAt _ (by omega), List.getElem?_append_right (by omega), show n * 6 + 1 - xs.length = 1 from by omega]; rfl
  · rw [h.cellAt _ (by omega), List.getElem?_append_right (by omega), show n * 6 + 2 - xs.length = 2 from by omega]; rfl
  · rw [h.cellAt _ (by omega), List.getElem?_append_right (by omega), show n * 6 + 3 - xs.length = 3 from by omega]; rfl
  · rw [h.cellAt _ (by omega), List.getElem?_append_right (by omega), show n * 6 + 4 - xs.length = 4 from by omega]; rfl
  · rw [h.cellAt _ (by omega), List.getElem?_append_right (by omega), show n * 6 + 5 - xs.length = 5 from by omega]; rfl
end
/-- Behind the append and the two stores the list has one element more. -/
theorem list_done {kind : Int} {B0 B Rb V R C g cap d : Nat} {ns : List (List Nat)} {l : List Jq.J} {nv lv v : Value} {x : Jq.J} {W w wA w2 w3 : World} {vs : List Value} {s1 : ByteArray}
    (kA : Box kind B Rb V R ns l nv lv wA) (hRA : Rd W R s1 d wA) (hFA : Far B0 R w wA) (hvs : vs.length = l.length)
    (ho : wA.ownsRow B 26 6 lv l.length (vs.flatMap jcells))
    (hel : ∀ (i : Nat) u y, vs[i]? = some u → l[i]? = some y → IsJ wA (fun b => B ≤ b ∧ nv.ownBlock ≠ some b ∧ lv.ownBlock ≠ some b) u y)
    (hJ : IsJ wA (C ≤ ·) v x) (hBC : B ≤ C) (hnC : ∀ k, nv.ownBlock = some k → k < C) (hlC : ∀ k, lv.ownBlock = some k → k < C)
    (hown : w2.ownsRow B 26 6 (.slice (some ⟨g, 0, none⟩) (l.length + 1) cap) (l.length + 1) (vs.flatMap jcells ++ zero6))
    (hgr : wA.grownBy w2 lv.ownBlock) (hg : lv.ownBlock = some g ∨ g = wA.heap.size)
    (hB1 : B0 ≤ V) (hB3 : B0 ≤ B) (hWB : W.heap.size ≤ B0)
    (hst : Stored w2 w3 V g (l.length * 6) v (.slice (some ⟨g, 0, none⟩) (l.length + 1) cap)) :
    Box kind B Rb V R ns (l ++ [x]) nv (.slice (some ⟨g, 0, none⟩) (l.length + 1) cap) w3 ∧ Rd W R s1 d w3 ∧ Far B0 R w w3 := by
  have hgB : B ≤ g := (hown.lt g rfl).1
  have hV := kA.hV
  have hR := kA.hR
  have hRV := kA.hRV
  have hl := ho.lt
  have hb2 : Lies w2 V 26 [.int .i64 kind, .bool false, .int .i64 0, .string ByteArray.empty, nv, lv] := kA.box.grown hgr (fun e => by have := (hl V e.symm).1; omega)
  obtain ⟨hbox, hfar⟩ := stored_elem kA hvs hel hJ hBC hnC hlC hown (flat_len ho) hgr hg hgB hb2 hst
  have hF2 : Far B0 R wA w2 := Far.of_row hgr (fun k e => (hl k e).1) hB3 (Nat.le_trans hB3 kA.size)
  have hF3 : Far B0 R w2 w3 := ⟨hfar.os, hfar.tape, hfar.output, hfar.size, fun k hk hr => hfar.block k (by omega) hr⟩
  have hR3 : w3.heap[R]? = wA.heap[R]? := by
    obtain ⟨a, b, c, d, e, f, rfl, hw⟩ := hst
    have e2 : w2.heap[R]? = wA.heap[R]? := hgr.block R hRA.lt (fun e => by have := (hl R e.symm).1; omega)
    rcases hw with rfl | rfl
    · rw [Below.heap_setCell _ _ _ _ hRV, putAt_far (by omega), e2]
    · rw [putAt_far (by omega), Below.heap_setCell _ _ _ _ hRV, e2]
  have hFa := hF2.trans hF3
  refine ⟨hbox, ⟨hRA.held, ?_, hRA.le, hR3.trans hRA.lies, hRA.small, hRA.deep⟩, hFA.trans hFa⟩
  have hle := hRA.le
  exact hRA.below.trans ⟨hFa.os, hFa.tape, hFa.output, hFa.size, fun k hk => hFa.block k (by omega) (by omega)⟩

theorem after_append {kind : Int} {B Rb V R : Nat} {ns : List (List Nat)} {l : List Jq.J} {nv lv : Value} {wA w2 : World} (kA : Box kind B Rb V R ns l nv lv wA) (hgr : wA.grownBy w2 lv.ownBlock) :
    w2.cell? ⟨V, 5, none⟩ = some lv ∧ w2.frozen? ⟨V, 5, none⟩ = false := by
  obtain ⟨_, _, ho, _⟩ := kA.rows
  have hV := kA.hV
  have hb2 := kA.box.grown hgr (fun e => by have := (ho.lt V e.symm).1; omega)
  exact ⟨hb2.cell 5, hb2.free 5⟩
end Go.Proofs.YthklgpflaghojaaGreatDoor
