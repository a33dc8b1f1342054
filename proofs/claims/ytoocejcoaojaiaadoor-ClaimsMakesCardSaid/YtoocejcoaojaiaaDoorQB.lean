/-
  QB: JLay JX JLib JRead JTake JVal, side by side.
-/
import Derived.Shelf.Strings.Prefix
import Derived.Shelf.Strconv.Itoa3
import Derived.Shelf.Strconv.ErrVarAll
import Derived.Shelf.Small.Strs
import Derived.Shelf.Small.Wraps
import Derived.Shelf.Utf8.AppendRunePlain
import Derived.Shelf.Strings.SlTrimAscii
import Derived.Shelf.Unicode.DecodeAny
import Derived.Test.YtoocejcoaojaiaaDoorProg
import Derived.Test.YtoocejcoaojaiaaDoorQM
import Derived.Lib.AtoiErrMem
import Derived.Test.YtoocejcoaojaiaaDoorQV

/-
  The library's functions at this program: where they stand in it.
-/
namespace Go.Proofs.YtoocejcoaojaiaaDoor
open Go.Shelf
def laysM171_ren : Go.Shelf.Ren := ⟨fun | 171 => 55 | 243 => 63 | 246 => 68 | 283 => 71 | 284 => 72 | 285 => 73 | 286 => 74 | 129 => 76 | 317 => 75 | 318 => 77 | 319 => 78 | 320 => 79 | 337 => 80 | 338 => 81 | n => n, fun | 3 => 3 | 9 => 9 | 2 => 2 | 4 => 4 | 171 => 89 | 0 => 0 | 53 => 90 | 37 => 68 | 5 => 5 | 173 => 93 | 212 => 96 | 51 => 97 | 20 => 20 | 213 => 98 | 46 => 78 | 232 => 101 | 233 => 102 | n => n, fun | 17 => 2 | 18 => 3 | 19 => 4 | n => n⟩
set_option maxRecDepth 100000 in
theorem laysM171 : Go.Proofs.LaysM.n171 Tryd.prog laysM171_ren := {
  mixed := by kernel_rfl
  f129 := Tryd.func76.trans (congrArg some (by kernel_rfl))
  f171 := Tryd.func55.trans (congrArg some (by kernel_rfl))
  f243 := Tryd.func63.trans (congrArg some (by kernel_rfl))
  f246 := Tryd.func68.trans (congrArg some (by kernel_rfl))
  f283 := Tryd.func71.trans (congrArg some (by kernel_rfl))
  f284 := Tryd.func72.trans (congrArg some (by kernel_rfl))
  f285 := Tryd.func73.trans (congrArg some (by kernel_rfl))
  f286 := Tryd.func74.trans (congrArg some (by kernel_rfl))
  f317 := Tryd.func75.trans (congrArg some (by kernel_rfl))
  f318 := Tryd.func77.trans (congrArg some (by kernel_rfl))
  f319 := Tryd.func78.trans (congrArg some (by kernel_rfl))
  f320 := Tryd.func79.trans (congrArg some (by kernel_rfl))
  f337 := Tryd.func80.trans (congrArg some (by kernel_rfl))
  f338 := Tryd.func81.trans (congrArg some (by kernel_rfl))
  t0 := Tryd.underlying0
  a0 := Tryd.isAgg0
  z0 := Tryd.sizeOf0
  v0 := Tryd.zeroValue0
  t2 := Tryd.underlying2
  a2 := Tryd.isAgg2
  z2 := Tryd.sizeOf2
  v2 := Tryd.zeroValue2
  t3 := Tryd.underlying3
  a3 := Tryd.isAgg3
  z3 := Tryd.sizeOf3
  v3 := Tryd.zeroValue3
  t4 := Tryd.underlying4
  a4 := Tryd.isAgg4
  z4 := Tryd.sizeOf4
  v4 := Tryd.zeroValue4
  t5 := Tryd.underlying5
  a5 := Tryd.isAgg5
  z5 := Tryd.sizeOf5
  v5 := Tryd.zeroValue5
  t9 := Tryd.underlying9
  a9 := Tryd.isAgg9
  z9 := Tryd.sizeOf9
  v9 := Tryd.zeroValue9
  t20 := Tryd.underlying20
  a20 := Tryd.isAgg20
  z20 := Tryd.sizeOf20
  v20 := Tryd.zeroValue20
  t37 := Tryd.underlying68
  a37 := Tryd.isAgg68
  z37 := Tryd.sizeOf68
  v37 := Tryd.zeroValue68
  t46 := Tryd.underlying78
  a46 := Tryd.isAgg78
  z46 := Tryd.sizeOf78
  v46 := Tryd.zeroValue78
  t51 := Tryd.underlying97
  a51 := Tryd.isAgg97
  z51 := Tryd.sizeOf97
  v51 := Tryd.zeroValue97
  t53 := Tryd.underlying90
  a53 := Tryd.isAgg90
  z53 := Tryd.sizeOf90
  v53 := Tryd.zeroValue90
  t171 := Tryd.underlying89
  a171 := Tryd.isAgg89
  z171 := Tryd.sizeOf89
  v171 := Tryd.zeroValue89
  t173 := Tryd.underlying93
  a173 := Tryd.isAgg93
  z173 := Tryd.sizeOf93
  v173 := Tryd.zeroValue93
  t212 := Tryd.underlying96
  a212 := Tryd.isAgg96
  z212 := Tryd.sizeOf96
  v212 := Tryd.zeroValue96
  t213 := Tryd.underlying98
  a213 := Tryd.isAgg98
  z213 := Tryd.sizeOf98
  t232 := Tryd.underlying101
  a232 := Tryd.isAgg101
  z232 := Tryd.sizeOf101
  v232 := Tryd.zeroValue101
  t233 := Tryd.underlying102
  a233 := Tryd.isAgg102
  z233 := Tryd.sizeOf102
  v233 := Tryd.zeroValue102
  g17 := by kernel_rfl
  g18 := by kernel_rfl
  g19 := by kernel_rfl
  i0 := by kernel_rfl
  i2 := by kernel_rfl
  i3 := by kernel_rfl
  i4 := by kernel_rfl
  i5 := by kernel_rfl
  i9 := by kernel_rfl
  i20 := by kernel_rfl
  i37 := by kernel_rfl
  i46 := by kernel_rfl
  i51 := by kernel_rfl
  i53 := by kernel_rfl
  i171 := by kernel_rfl
  i173 := by kernel_rfl
  i212 := by kernel_rfl
  i232 := by kernel_rfl
  i233 := by kernel_rfl
  m17 := by kernel_rfl
  m18 := by kernel_rfl
  m19 := by kernel_rfl }
def lays121_ren : Go.Shelf.Ren := ⟨fun | 121 => 54 | 214 => 62 | n => n, fun | 4 => 4 | 9 => 9 | n => n, fun | n => n⟩
set_option maxRecDepth 100000 in
theorem lays121 : Go.Proofs.Lays.n121 Tryd.prog lays121_ren := {
  mixed := by kernel_rfl
  f121 := Tryd.func54.trans (congrArg some (by kernel_rfl))
  f214 := Tryd.func62.trans (congrArg some (by kernel_rfl))
  t4 := Tryd.underlying4
  a4 := Tryd.isAgg4
  z4 := Tryd.sizeOf4
  v4 := Tryd.zeroValue4
  t9 := Tryd.underlying9
  a9 := Tryd.isAgg9
  z9 := Tryd.sizeOf9
  v9 := Tryd.zeroValue9 }
def lays196_ren : Go.Shelf.Ren := ⟨fun | 196 => 64 | 259 => 69 | n => n, fun | 9 => 9 | 4 => 4 | 3 => 3 | 5 => 5 | 12 => 12 | 119 => 83 | 0 => 0 | 46 => 78 | 139 => 86 | 138 => 85 | 53 => 90 | n => n, fun | 3 => 0 | 4 => 1 | n => n⟩
set_option maxRecDepth 100000 in
theorem lays196 : Go.Proofs.Lays.n196 Tryd.prog lays196_ren := {
  mixed := by kernel_rfl
  f196 := Tryd.func64.trans (congrArg some (by kernel_rfl))
  f259 := Tryd.func69.trans (congrArg some (by kernel_rfl))
  t0 := Tryd.underlying0
  a0 := Tryd.isAgg0
  z0 := Tryd.sizeOf0
  v0 := Tryd.zeroValue0
  t3 := Tryd.underlying3
  a3 := Tryd.isAgg3
  z3 := Tryd.sizeOf3
  v3 := Tryd.zeroValue3
  t4 := Tryd.underlying4
  a4 := Tryd.isAgg4
  z4 := Tryd.sizeOf4
  v4 := Tryd.zeroValue4
  t5 := Tryd.underlying5
  a5 := Tryd.isAgg5
  z5 := Tryd.sizeOf5
  v5 := Tryd.zeroValue5
  t9 := Tryd.underlying9
  a9 := Tryd.isAgg9
  z9 := Tryd.sizeOf9
  v9 := Tryd.zeroValue9
  t12 := Tryd.underlying12
  a12 := Tryd.isAgg12
  z12 := Tryd.sizeOf12
  v12 := Tryd.zeroValue12
  t46 := Tryd.underlying78
  a46 := Tryd.isAgg78
  z46 := Tryd.sizeOf78
  v46 := Tryd.zeroValue78
  t53 := Tryd.underlying90
  a53 := Tryd.isAgg90
  z53 := Tryd.sizeOf90
  v53 := Tryd.zeroValue90
  t119 := Tryd.underlying83
  a119 := Tryd.isAgg83
  z119 := Tryd.sizeOf83
  t138 := Tryd.underlying85
  a138 := Tryd.isAgg85
  z138 := Tryd.sizeOf85
  v138 := Tryd.zeroValue85
  t139 := Tryd.underlying86
  a139 := Tryd.isAgg86
  z139 := Tryd.sizeOf86
  v139 := Tryd.zeroValue86
  g3 := by kernel_rfl
  g4 := by kernel_rfl }
def lays109_ren : Go.Shelf.Ren := ⟨fun | 109 => 47 | n => n, fun | 31 => 25 | 9 => 9 | 3 => 3 | 0 => 0 | 4 => 4 | n => n, fun | n => n⟩
set_option maxRecDepth 100000 in
theorem lays109 : Go.Proofs.Lays.n109 Tryd.prog lays109_ren := {
  mixed := by kernel_rfl
  f109 := Tryd.func47.trans (congrArg some (by kernel_rfl))
  t0 := Tryd.underlying0
  a0 := Tryd.isAgg0
  z0 := Tryd.sizeOf0
  v0 := Tryd.zeroValue0
  t3 := Tryd.underlying3
  a3 := Tryd.isAgg3
  z3 := Tryd.sizeOf3
  v3 := Tryd.zeroValue3
  t4 := Tryd.underlying4
  a4 := Tryd.isAgg4
  z4 := Tryd.sizeOf4
  v4 := Tryd.zeroValue4
  t9 := Tryd.underlying9
  a9 := Tryd.isAgg9
  z9 := Tryd.sizeOf9
  v9 := Tryd.zeroValue9
  t31 := Tryd.underlying25
  a31 := Tryd.isAgg25
  z31 := Tryd.sizeOf25
  v31 := Tryd.zeroValue25 }
def lays110_ren : Go.Shelf.Ren := ⟨fun | 110 => 66 | 109 => 47 | n => n, fun | 31 => 25 | 9 => 9 | 4 => 4 | 3 => 3 | 0 => 0 | n => n, fun | n => n⟩
set_option maxRecDepth 100000 in
theorem lays110 : Go.Proofs.Lays.n110 Tryd.prog lays110_ren := {
  mixed := by kernel_rfl
  f109 := Tryd.func47.trans (congrArg some (by kernel_rfl))
  f110 := Tryd.func66.trans (congrArg some (by kernel_rfl))
  t0 := Tryd.underlying0
  a0 := Tryd.isAgg0
  z0 := Tryd.sizeOf0
  v0 := Tryd.zeroValue0
  t3 := Tryd.underlying3
  a3 := Tryd.isAgg3
  z3 := Tryd.sizeOf3
  v3 := Tryd.zeroValue3
  t4 := Tryd.underlying4
  a4 := Tryd.isAgg4
  z4 := Tryd.sizeOf4
  v4 := Tryd.zeroValue4
  t9 := Tryd.underlying9
  a9 := Tryd.isAgg9
  z9 := Tryd.sizeOf9
  v9 := Tryd.zeroValue9
  t31 := Tryd.underlying25
  a31 := Tryd.isAgg25
  z31 := Tryd.sizeOf25
  v31 := Tryd.zeroValue25 }
end Go.Proofs.YtoocejcoaojaiaaDoor

/-
  A reader in memory; what a step of the reader may change; what the library's variables hold; how a step ends.
-/
namespace Go.Proofs.YtoocejcoaojaiaaDoor
open Go.RowKit

/-- What is read of the library's variables. -/
def Held (w : World) : Prop :=
  Lib.TabIs Tryd.prog w "internal/strconv.uint64pow10" .u64 Lib.pow10Tab ∧ True ∧ True ∧ Lib.Utf8Tabs 0 1 w
theorem var_below {n : String} {g : Nat} {cs : Array Value} {w w' : World} (hg : Tryd.prog.globalNamed n = some g) (h : w.var? Tryd.prog n = some cs) (hb : Below w.heap.size w w') : w'.var? Tryd.prog n = some cs := by
  unfold World.var? at h ⊢
  rw [hg] at h ⊢
  simp only [Option.bind_some] at h ⊢
  have hlt : g < w.heap.size := by
    rcases Nat.lt_or_ge g w.heap.size with h' | h'
    · exact h'
    · rw [Array.getElem?_eq_none h'] at h; cases h
  rw [hb.block g hlt]
  exact h
set_option maxRecDepth 100000 in
theorem Held.below {w w' : World} (h : Held w) (hb : Below w.heap.size w w') : Held w' := by
  obtain ⟨h1, _, _, h4⟩ := h
  exact ⟨var_below (g := 2) (by kernel_rfl) h1 hb, trivial, trivial, Utf8Tabs_below h4 hb⟩

theorem gb_trans {w w1 w2 : World} {r : Option Nat} (h1 : w.grownBy w1 r) (h2 : w1.grownBy w2 r) : w.grownBy w2 r :=
  ⟨h2.os.trans h1.os, h2.tape.trans h1.tape, h2.output.trans h1.output, Nat.le_trans h1.size h2.size, fun k hk hr => (h2.block k (Nat.lt_of_lt_of_le hk h1.size) hr).trans (h1.block k hk hr)⟩
theorem gb_below {w w' : World} {r : Option Nat} (h : Below w.heap.size w w') : w.grownBy w' r := ⟨h.os, h.tape, h.output, h.size, fun k hk _ => h.block k hk⟩
theorem gb_set (w : World) (R i : Nat) (v : Value) : w.grownBy (w.setCell ⟨R, i, none⟩ v) (some R) :=
  ⟨rfl, rfl, rfl, by simp [World.setCell], fun k _ hne => Below.heap_setCell w _ v k (fun e => hne (by rw [e]))⟩
theorem gb_down {w w' : World} {R B : Nat} (h : w.grownBy w' (some R)) (hB : B ≤ w.heap.size) (hR : B ≤ R) : Below B w w' :=
  ⟨h.os, h.tape, h.output, h.size, fun k hk => h.block k (Nat.lt_of_lt_of_le hk hB) (fun e => by injection e with e; omega)⟩

section
variable {W w w' : World} {R d : Nat} {s s' : ByteArray}
end

/-- The panic with an error's number. -/
abbrev errEnd (n : Nat) : Ending := .panicked [{ v := .iface 31 (.int .i64 (n : Int)), recovered := false }]
end Go.Proofs.YtoocejcoaojaiaaDoor

/-
  The library's functions at readers: TrimLeft, CutPrefix, Atoi on digits, DecodeRuneInString, AppendRune.
-/
namespace Go.Proofs.YtoocejcoaojaiaaDoor
open Go.RowKit

theorem nums_mk (l : List UInt8) : numsOf ⟨l.toArray⟩ = l.map fun u : UInt8 => u.toNat := rfl
theorem nums_data (s : ByteArray) : numsOf s = Uq.nums s.data.toList := rfl
theorem drop_nums (p : UInt8 → Bool) (q : Nat → Bool) (h : ∀ u : UInt8, q u.toNat = p u) (l : List UInt8) : (l.dropWhile p).map (fun u : UInt8 => u.toNat) = (l.map fun u : UInt8 => u.toNat).dropWhile q := by
  rw [List.dropWhile_map]
  congr 2
  funext u
  exact (h u).symm

abbrev blankB : ByteArray := { data := #[32, 9, 10, 13] }
abbrev digitB : ByteArray := { data := #[48, 49, 50, 51, 52, 53, 54, 55, 56, 57] }
theorem byte_all {p q : UInt8 → Bool} (h : ∀ n : Fin 256, p (UInt8.ofNat n.val) = q (UInt8.ofNat n.val)) (u : UInt8) : p u = q u := by
  have := h ⟨u.toNat, u.toNat_lt⟩
  simpa using this
set_option maxRecDepth 100000 in
theorem blank_byte (u : UInt8) : Jq.blank u.toNat = ([32, 9, 10, 13] : List UInt8).contains u :=
  byte_all (p := fun u => Jq.blank u.toNat) (q := fun u => ([32, 9, 10, 13] : List UInt8).contains u) (by decide) u
set_option maxRecDepth 100000 in
theorem digit_byte (u : UInt8) : Jq.dig u.toNat = ([48, 49, 50, 51, 52, 53, 54, 55, 56, 57] : List UInt8).contains u :=
  byte_all (p := fun u => Jq.dig u.toNat) (q := fun u => ([48, 49, 50, 51, 52, 53, 54, 55, 56, 57] : List UInt8).contains u) (by decide) u
/-- How Atoi ends on digits alone. -/
def AtoiEnd (d : List Nat) (w : World) (e : Ending) (w' : World) : Prop :=
  Below w.heap.size w w' ∧ ((d ≠ [] ∧ Uq.val d < 9223372036854775808 ∧ e = .returned (.tuple #[.int .i64 (Uq.val d : Nat), .nilIface])) ∨ ((d = [] ∨ 9223372036854775808 ≤ Uq.val d) ∧ ∃ (v : Int) (t : TypeId) (p : Value), e = .returned (.tuple #[.int .i64 v, .iface t p])))
theorem rune_cells {r : Nat} (h : Jq.okRune r = true) : Lib.runeCells (r : Int) = u8s (Jq.runeBytes r) := by
  unfold Jq.okRune at h
  simp only [Bool.and_eq_true, Bool.or_eq_true, decide_eq_true_eq] at h
  unfold Lib.runeCells Jq.runeBytes u8s
  by_cases h1 : r < 128
  · rw [if_pos h1, Lib.encodeRuneZ_one (by omega) (by omega)]; rfl
  rw [if_neg h1]
  by_cases h2 : r < 2048
  · rw [if_pos h2, Lib.encodeRuneZ_two (by omega) (by omega)]; simp
  rw [if_neg h2]
  by_cases h3 : r < 65536
  · rw [if_pos h3, Lib.encodeRuneZ_three (by omega)]; simp
  rw [if_neg h3, Lib.encodeRuneZ_four (by omega) (by omega)]; simp
end Go.Proofs.YtoocejcoaojaiaaDoor

/-
  The reader's small steps: space, next, pass, takes, must.
-/
namespace Go.Proofs.YtoocejcoaojaiaaDoor
open Go.RowKit
end Go.Proofs.YtoocejcoaojaiaaDoor

/-
  The reader's takes, must and word.
-/
namespace Go.Proofs.YtoocejcoaojaiaaDoor
open Go.RowKit

theorem byte_ne {a b : Nat} (h : a ≠ b) : ((a : Int) != (b : Int)) = true := by
  rw [bne_iff_ne]; omega
theorem byte_eq {a b : Nat} (h : a = b) : ((a : Int) != (b : Int)) = false := by
  subst h; simp
theorem head_pos {s : ByteArray} {c : Nat} (h : (numsOf s).head? = some c) : 0 < s.size := by
  rw [← numsOf_length]
  cases hh : numsOf s with
  | nil => rw [hh] at h; cases h
  | cons a r => simp

/-- Past a sign that has to be there. -/
def mustP (c : Nat) (l : List Nat) : Jq.R Unit := if (Jq.skip l).head? = some c then .ok ((), (Jq.skip l).drop 1) else .error 51

end Go.Proofs.YtoocejcoaojaiaaDoor

/-
  Values in memory: what a value reads as; a struct of six cells.
-/
namespace Go.Proofs.YtoocejcoaojaiaaDoor
open Go.RowKit

/-- A value's six cells. -/
abbrev jv (k : Int) (b : Bool) (n : Int) (t : ByteArray) (names list : Value) : Value := .agg #[.int .i64 k, .bool b, .int .i64 n, .string t, names, list]
def jcells : Value → List Value
  | .agg cs => cs.toList
  | v => [v]
/-- A slice of n elements whose cells are these, in blocks of which ok speaks. -/
def SlIs (w : World) (ok : Nat → Prop) (v : Value) (n : Nat) (cs : List Value) : Prop :=
  ∃ A c, v = .slice A n c ∧ n ≤ c ∧ c ≤ 9223372036854775807 ∧ (0 < n → ∃ b off, A = some ⟨b, off, none⟩ ∧ ok b ∧ b < w.heap.size ∧ ∀ j x, cs[j]? = some x → w.cell? ⟨b, off + j, none⟩ = some x)
def tcells (l : List (List Nat)) : List Value := l.map fun p => .string (strOf p)
/-- What a value reads as, all its blocks such of which ok speaks. -/
inductive IsJ (w : World) (ok : Nat → Prop) : Value → Jq.J → Prop where
  | mk {k : Int} {b : Bool} {n : Int} {t : List Nat} {ns : List (List Nat)} {l : List Jq.J} {names list : Value} {vs : List Value}
      (hk : -9223372036854775808 ≤ k ∧ k ≤ 9223372036854775807) (hn : -9223372036854775808 ≤ n ∧ n ≤ 9223372036854775807)
      (ht : t.length ≤ 140737488355328 ∧ ∀ x ∈ t, x < 256)
      (hns : SlIs w ok names ns.length (tcells ns)) (hnt : ∀ p ∈ ns, p.length ≤ 140737488355328 ∧ ∀ x ∈ p, x < 256) (hnl : ns.length * 16 ≤ 140737488355328)
      (hl : SlIs w ok list l.length (vs.flatMap jcells)) (hvl : vs.length = l.length) (hll : l.length * 88 ≤ 140737488355328)
      (he : ∀ (i : Nat) v x, vs[i]? = some v → l[i]? = some x → IsJ w ok v x) : IsJ w ok (jv k b n (strOf t) names list) (.mk k b n t ns l)

theorem SlIs.nil (w : World) (ok : Nat → Prop) : SlIs w ok (.slice none 0 0) 0 [] := ⟨none, 0, rfl, Nat.le_refl _, by omega, fun h => absurd h (Nat.lt_irrefl _)⟩
theorem SlIs.keep {w w' : World} {ok ok' : Nat → Prop} {v : Value} {n : Nat} {cs : List Value} (h : SlIs w ok v n cs) (hk : ∀ b, ok b → b < w.heap.size → ok' b ∧ w'.heap[b]? = w.heap[b]?) (hs : w.heap.size ≤ w'.heap.size) : SlIs w' ok' v n cs := by
  obtain ⟨A, c, rfl, h1, h2, h3⟩ := h
  refine ⟨A, c, rfl, h1, h2, fun hn => ?_⟩
  obtain ⟨b, off, rfl, h4, h5, h6⟩ := h3 hn
  obtain ⟨k1, k2⟩ := hk b h4 h5
  exact ⟨b, off, rfl, k1, Nat.lt_of_lt_of_le h5 hs, fun j x hj => (World.cell?_of_block (a := ⟨b, off + j, none⟩) k2).trans (h6 j x hj)⟩
theorem IsJ.keep {w w' : World} {ok ok' : Nat → Prop} (hk : ∀ b, ok b → b < w.heap.size → ok' b ∧ w'.heap[b]? = w.heap[b]?) (hs : w.heap.size ≤ w'.heap.size) {v : Value} {x : Jq.J} (h : IsJ w ok v x) : IsJ w' ok' v x := by
  induction h with
  | mk h1 h2 h3 h4 h5 h6 h7 h8 h9 _ ih => exact .mk h1 h2 h3 (h4.keep hk hs) h5 h6 (h7.keep hk hs) h8 h9 ih
theorem IsJ.form {w : World} {ok : Nat → Prop} {v : Value} {x : Jq.J} (h : IsJ w ok v x) : ∃ A1 c1 A2 c2, v = jv x.kind x.bool x.int (strOf x.text) (.slice A1 x.names.length c1) (.slice A2 x.list.length c2) := by
  cases h with
  | mk h1 h2 h3 h4 h5 h6 h7 h8 h9 h10 =>
    obtain ⟨A1, c1, rfl, _⟩ := h4
    obtain ⟨A2, c2, rfl, _⟩ := h7
    exact ⟨A1, c1, A2, c2, rfl⟩
/-- What holds of blocks from B on holds of blocks from any lower one on. -/
theorem IsJ.from {w : World} {B C : Nat} {v : Value} {x : Jq.J} (h : IsJ w (B ≤ ·) v x) (hB : C ≤ B) : IsJ w (C ≤ ·) v x :=
  h.keep (fun _ hb _ => ⟨Nat.le_trans hB hb, rfl⟩) (Nat.le_refl _)
theorem isJ_plain (w : World) (ok : Nat → Prop) {k n : Int} {b : Bool} {t : List Nat} (hk : -9223372036854775808 ≤ k ∧ k ≤ 9223372036854775807) (hn : -9223372036854775808 ≤ n ∧ n ≤ 9223372036854775807)
    (ht : t.length ≤ 140737488355328 ∧ ∀ x ∈ t, x < 256) : IsJ w ok (jv k b n (strOf t) (.slice none 0 0) (.slice none 0 0)) (.mk k b n t [] []) :=
  .mk (vs := []) hk hn ht (SlIs.nil w ok) (fun _ h => nomatch h) (Nat.zero_le _) (SlIs.nil w ok) rfl (Nat.zero_le _) (fun i v x h => by simp at h)

/-- Six cells are written. -/
abbrev put6 (w : World) (g : Nat) (a b c d e f : Value) : World := (((((w.setCell ⟨g, 0, none⟩ a).setCell ⟨g, 1, none⟩ b).setCell ⟨g, 2, none⟩ c).setCell ⟨g, 3, none⟩ d).setCell ⟨g, 4, none⟩ e).setCell ⟨g, 5, none⟩ f
section
variable {w w' : World} {g : Nat} {ty : TypeId} {a b c d e f x0 x1 x2 x3 x4 x5 : Value}
theorem Lies.put6 (h : Lies w g ty [x0, x1, x2, x3, x4, x5]) : Lies (put6 w g a b c d e f) g ty [a, b, c, d, e, f] := by
  have := (((((h.put 0 a).put 1 b).put 2 c).put 3 d).put 4 e).put 5 f
  simpa using this
theorem Lies.six (h : Lies w g ty [a, b, c, d, e, f]) : (w.cell? ⟨g, 0, none⟩ = some a ∧ w.cell? ⟨g, 1, none⟩ = some b ∧ w.cell? ⟨g, 2, none⟩ = some c ∧ w.cell? ⟨g, 3, none⟩ = some d ∧ w.cell? ⟨g, 4, none⟩ = some e ∧ w.cell? ⟨g, 5, none⟩ = some f) ∧
    (w.frozen? ⟨g, 0, none⟩ = false ∧ w.frozen? ⟨g, 1, none⟩ = false ∧ w.frozen? ⟨g, 2, none⟩ = false ∧ w.frozen? ⟨g, 3, none⟩ = false ∧ w.frozen? ⟨g, 4, none⟩ = false ∧ w.frozen? ⟨g, 5, none⟩ = false) :=
  ⟨⟨h.cell 0, h.cell 1, h.cell 2, h.cell 3, h.cell 4, h.cell 5⟩, h.free 0, h.free 1, h.free 2, h.free 3, h.free 4, h.free 5⟩
theorem put6_far {k : Nat} (hk : k ≠ g) : (put6 w g a b c d e f).heap[k]? = w.heap[k]? := by
  rw [Below.heap_setCell _ _ _ _ hk, Below.heap_setCell _ _ _ _ hk, Below.heap_setCell _ _ _ _ hk, Below.heap_setCell _ _ _ _ hk, Below.heap_setCell _ _ _ _ hk, Below.heap_setCell _ _ _ _ hk]
theorem put6_size : (put6 w g a b c d e f).heap.size = w.heap.size := by simp [World.setCell]
theorem gb_put6 : w.grownBy (put6 w g a b c d e f) (some g) :=
  gb_trans (gb_trans (gb_trans (gb_trans (gb_trans (gb_set _ _ _ _) (gb_set _ _ _ _)) (gb_set _ _ _ _)) (gb_set _ _ _ _)) (gb_set _ _ _ _)) (gb_set _ _ _ _)
end
theorem IsJ.put6 {w : World} {g B : Nat} {a b c d e f v : Value} {x : Jq.J} (h : IsJ w (B ≤ ·) v x) (hg : g < B) : IsJ (put6 w g a b c d e f) (B ≤ ·) v x :=
  h.keep (fun k hk _ => ⟨hk, put6_far (by have : B ≤ k := hk; omega)⟩) (Nat.le_of_eq put6_size.symm)
/-- A cell of the call's own that the callee leaves alone, while it may write to block R. -/
theorem Lies.gb {w w' : World} {g R : Nat} {t : TypeId} {cs : List Value} (h : Lies w g t cs) (hb : w.grownBy w' (some R)) (hg : g ≠ R) : Lies w' g t cs := h.grown hb (by simpa using hg)
/-- What is written to a block that lies above is not told. -/
theorem gb_new {w w1 w2 : World} {R g : Nat} (h1 : w.grownBy w1 (some R)) (h2 : w1.grownBy w2 (some g)) (hg : w.heap.size ≤ g) : w.grownBy w2 (some R) :=
  ⟨h2.os.trans h1.os, h2.tape.trans h1.tape, h2.output.trans h1.output, Nat.le_trans h1.size h2.size, fun k hk hr => (h2.block k (Nat.lt_of_lt_of_le hk h1.size) (fun e => by injection e with e; omega)).trans (h1.block k hk hr)⟩
/-- A store into another block. -/
theorem own_far {w w' : World} {base : Nat} {e : TypeId} {size n : Nat} {v : Value} {xs : List Value} (h : w.ownsRow base e size v n xs) (hk : ∀ k, v.ownBlock = some k → w'.heap[k]? = w.heap[k]?) : w'.ownsRow base e size v n xs := by
  refine ⟨h.1, ?_⟩
  rcases h.2 with hn | ⟨g, cap, cur, rfl, hb, hg, rest⟩
  · exact .inl hn
  · exact .inr ⟨g, cap, cur, rfl, hb, (hk g rfl).trans hg, rest⟩
end Go.Proofs.YtoocejcoaojaiaaDoor
