/-
  M04: MLay MLib, side by side.
-/
import Derived.Shelf.Strings.Prefix
import Derived.Shelf.Strings.Search2
import Derived.Test.YtnbaajdcakjlmaaDoorProg
import Derived.Test.YtnbaajdcakjlmaaDoorQP
import Derived.Test.YtnbaajdcakjlmaaDoorQM
import Derived.RegionTactic

/-
  The library's functions that maps calls, at this program: strings.HasPrefix, internal/stringslite.Index.
-/
namespace Go.Proofs.YtnbaajdcakjlmaaDoor
open Go.Shelf
def lays99_ren : Go.Shelf.Ren := ⟨fun | 99 => 44 | 206 => 53 | n => n, fun | 9 => 9 | 4 => 4 | 3 => 3 | n => n, fun | n => n⟩
set_option maxRecDepth 100000 in
theorem lays99 : Go.Proofs.Lays.n99 Tryd.prog lays99_ren := {
  mixed := by kernel_rfl
  f99 := Tryd.func44.trans (congrArg some (by kernel_rfl))
  f206 := Tryd.func53.trans (congrArg some (by kernel_rfl))
  t3 := Tryd.underlying3
  a3 := Tryd.isAgg3
  z3 := Tryd.sizeOf3
  v3 := Tryd.zeroValue3
  t4 := Tryd.underlying4
  a4 := Tryd.isAgg4
  z4 := Tryd.sizeOf4
  v4 := Tryd.zeroValue4
  t9 := Tryd.underlying9
  a9 := Tryd.isAgg9
  z9 := Tryd.sizeOf9
  v9 := Tryd.zeroValue9 }
def lays219_ren : Go.Shelf.Ren := ⟨fun | 217 => 70 | 219 => 64 | 224 => 72 | 225 => 71 | 266 => 76 | 267 => 73 | 314 => 77 | n => n, fun | 3 => 3 | 4 => 4 | 5 => 5 | 9 => 9 | 46 => 98 | 51 => 108 | 146 => 109 | n => n, fun | 1 => 0 | n => n⟩
set_option maxRecDepth 100000 in
theorem lays219 : Go.Proofs.Lays.n219 Tryd.prog lays219_ren := {
  mixed := by kernel_rfl
  f217 := Tryd.func70.trans (congrArg some (by kernel_rfl))
  f219 := Tryd.func64.trans (congrArg some (by kernel_rfl))
  f224 := Tryd.func72.trans (congrArg some (by kernel_rfl))
  f225 := Tryd.func71.trans (congrArg some (by kernel_rfl))
  f266 := Tryd.func76.trans (congrArg some (by kernel_rfl))
  f267 := Tryd.func73.trans (congrArg some (by kernel_rfl))
  f314 := Tryd.func77.trans (congrArg some (by kernel_rfl))
  t3 := Tryd.underlying3
  a3 := Tryd.isAgg3
  z3 := Tryd.sizeOf3
  v3 := Tryd.zeroValue3
  t4 := Tryd.underlying4
  a4 := Tryd.isAgg4
  z4 := Tryd.sizeOf4
  v4 := Tryd.zeroValue4
  t5 := Tryd.underlying5
  a5 := Tryd.isAgg5
  z5 := Tryd.sizeOf5
  v5 := Tryd.zeroValue5
  t9 := Tryd.underlying9
  a9 := Tryd.isAgg9
  z9 := Tryd.sizeOf9
  v9 := Tryd.zeroValue9
  t46 := Tryd.underlying98
  a46 := Tryd.isAgg98
  z46 := Tryd.sizeOf98
  v46 := Tryd.zeroValue98
  t51 := Tryd.underlying108
  a51 := Tryd.isAgg108
  z51 := Tryd.sizeOf108
  v51 := Tryd.zeroValue108
  t146 := Tryd.underlying109
  a146 := Tryd.isAgg109
  z146 := Tryd.sizeOf109
  v146 := Tryd.zeroValue109
  g1 := by kernel_rfl }
end Go.Proofs.YtnbaajdcakjlmaaDoor

/-
  The library's strings.Cut at one byte, strings.HasPrefix.
-/
namespace Go.Proofs.YtnbaajdcakjlmaaDoor
open Go.RowKit

theorem at_none {l : List UInt8} {c : UInt8} (h : Lib.indexByte l c = -1) : ∀ x ∈ l.map (fun u : UInt8 => u.toNat), x ≠ c.toNat := by
  intro x hx
  obtain ⟨u, hu, rfl⟩ := List.mem_map.1 hx
  obtain ⟨k, hk, rfl⟩ := List.getElem_of_mem hu
  intro e
  exact Lib.indexByte_none h k (by rw [List.getElem?_eq_getElem hk, UInt8.toNat_inj.1 e])
theorem at_some {l : List UInt8} {c : UInt8} {i : Nat} (h : Lib.indexByte l c = (i : Int)) : l = l.take i ++ c :: l.drop (i + 1) ∧ ∀ x ∈ (l.take i).map (fun u : UInt8 => u.toNat), x ≠ c.toNat := by
  obtain ⟨h1, h2⟩ := Lib.indexByte_some h
  obtain ⟨hi, he⟩ := List.getElem?_eq_some_iff.1 h1
  refine ⟨?_, ?_⟩
  · conv => lhs; rw [← List.take_append_drop i l, List.drop_eq_getElem_cons hi, he]
  · intro x hx
    obtain ⟨u, hu, rfl⟩ := List.mem_map.1 hx
    obtain ⟨k, hk, rfl⟩ := List.getElem_of_mem hu
    have hk' : k < i := by rw [List.length_take] at hk; omega
    intro e
    refine h2 k hk' ?_
    rw [List.getElem_take] at e
    rw [List.getElem?_eq_getElem (by rw [List.length_take] at hk; omega), UInt8.toNat_inj.1 e]
theorem hasPrefix_any (s t : ByteArray) (w : World) :
    Calls Tryd.prog 44 #[.string s, .string t] w fun e w' => e = .returned (.bool (decide ((numsOf s).take (numsOf t).length = numsOf t))) ∧ w = w' := by
  refine (Any.strings_HasPrefix (P := Tryd.prog) (ρ := lays99_ren) lays99 s t w).mono fun e w' ⟨he, hw⟩ => ⟨?_, hw.symm⟩
  have h := prefix_beq s (numsOf t) (numsOf_lt t)
  rw [strOf_numsOf] at h
  rw [he, ← Lib.hasPrefix_raw]
  exact congrArg (fun b => Ending.returned (.bool b)) h
/-- What Cut answers, at any byte. -/
def CutEndB (b : Nat) (S : List Nat) (w : World) (e : Ending) (w' : World) : Prop := e = .returned (.tuple #[.string (strOf (Uq.front b S)), .string (strOf (Uq.behind b S)), .bool (decide ((Uq.front b S).length < S.length))]) ∧ Below w.heap.size w w'

set_option maxRecDepth 100000 in
set_option maxHeartbeats 1000000 in
theorem liteCutB_any (c : UInt8) (s : ByteArray) (w : World) (hs : s.size ≤ 140737488355328) :
    Calls Tryd.prog 52 #[.string s, .string { data := #[c] }] w fun e w' => CutEndB c.toNat (numsOf s) w e w' := by
  have Hlen := Lib.hid (numsOf_length s)
  have hI : ∀ w, Calls Tryd.prog 64 #[.string s, .string { data := #[c] }] w fun e w' => e = .returned (.int .i64 (Lib.indexByte s.data.toList c)) ∧ w' = w := fun w => Any.stringslite_Index_one (P := Tryd.prog) (ρ := lays219_ren) lays219 s c w
  have hge := Lib.indexByte_ge s.data.toList c
  by_cases hm : Lib.indexByte s.data.toList c = -1
  · obtain ⟨h1, h2⟩ := Uq.front_none (l := numsOf s) (b := c.toNat) (at_none hm)
    rw [hm] at hI
    have H1 := Lib.hid h1
    have H2 := Lib.hid h2
    clear hm hge h1 h2
    go_enter Tryd.func52, Tryd.ntmps52
    go_wp2_with fail
    refine (hI _).mono ?_
    rintro e w' ⟨rfl, rfl⟩
    clear hI
    go_wp2
    go_ret3
    refine ⟨?_, Below.refl _ _⟩
    rw [H1.out, H2.out, strOf_numsOf, decide_eq_false (Nat.lt_irrefl _)]
    rfl
  · obtain ⟨i, hi⟩ : ∃ i : Nat, Lib.indexByte s.data.toList c = (i : Int) := ⟨(Lib.indexByte s.data.toList c).toNat, by omega⟩
    obtain ⟨g1, g2⟩ := at_some hi
    have hlt : i < s.size := by
      have := congrArg List.length g1
      rw [List.length_append, List.length_take, List.length_cons, List.length_drop] at this
      have e : s.data.toList.length = s.size := by rw [Array.length_toList]; rfl
      omega
    have hsz : numsOf s = (numsOf s).take i ++ c.toNat :: (numsOf s).drop (i + 1) := by
      have := congrArg (List.map fun u : UInt8 => u.toNat) g1
      rw [List.map_append, List.map_cons, List.map_take, List.map_drop] at this
      exact this
    obtain ⟨h1, h2⟩ := Uq.front_eq (l := numsOf s) (b := c.toNat) (a := (numsOf s).take i) (r := (numsOf s).drop (i + 1)) (fun x hx => g2 x (by rw [List.map_take]; exact hx)) hsz
    have H1 := Lib.hid h1
    have H2 := Lib.hid h2
    rw [hi] at hI
    clear hm hge h1 h2 hsz g1 g2 hi
    have c1 : (0 : Int) ≤ ↑i := by omega
    have c2 : (↑i : Int) ≤ ↑s.size := by omega
    have c3 : (0 : Int) ≤ ↑i + 1 := by omega
    have c4 : (↑i + 1 : Int) ≤ ↑s.size := by omega
    go_enter Tryd.func52, Tryd.ntmps52
    go_wp2_with fail
    refine (hI _).mono ?_
    rintro e w' ⟨rfl, rfl⟩
    clear hI
    go_wp2
    go_quiet (fail)
    go_wp2
    go_ret3
    refine ⟨?_, ?_⟩
    · rw [H1.out, H2.out, ← nums_to, ← nums_from, strOf_numsOf, strOf_numsOf, nums_to, decide_eq_true (by rw [List.length_take, Hlen.out]; omega)]
      rfl
    · exact ⟨rfl, rfl, rfl, Nat.le_refl _, fun _ _ => rfl⟩

set_option maxRecDepth 100000 in
set_option maxHeartbeats 1000000 in
theorem cutB_any (c : UInt8) (s : ByteArray) (w : World) (hs : s.size ≤ 140737488355328) :
    Calls Tryd.prog 41 #[.string s, .string { data := #[c] }] w fun e w' => CutEndB c.toNat (numsOf s) w e w' := by
  have hI := liteCutB_any c s w hs
  unfold CutEndB at hI ⊢
  obtain ⟨a, ea⟩ : ∃ a, strOf (Uq.front c.toNat (numsOf s)) = a := ⟨_, rfl⟩
  obtain ⟨b, eb⟩ : ∃ b, strOf (Uq.behind c.toNat (numsOf s)) = b := ⟨_, rfl⟩
  obtain ⟨d, ed⟩ : ∃ d, decide ((Uq.front c.toNat (numsOf s)).length < (numsOf s).length) = d := ⟨_, rfl⟩
  rw [ea, eb, ed] at hI ⊢
  clear ea eb ed
  go_enter Tryd.func41, Tryd.ntmps41
  go_wp2_with fail
  refine hI.mono ?_
  rintro e w' ⟨rfl, hb⟩
  clear hI
  go_wp2
  go_ret3
  exact ⟨rfl, hb⟩
end Go.Proofs.YtnbaajdcakjlmaaDoor
