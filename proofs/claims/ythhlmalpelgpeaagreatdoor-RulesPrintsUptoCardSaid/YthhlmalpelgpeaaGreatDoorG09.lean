/-
  G09: ZN ZN2 ZN3, side by side.
-/
import Derived.Test.YthhlmalpelgpeaaGreatDoorG02
import Derived.Test.YthhlmalpelgpeaaGreatDoorG24
import Derived.Test.YthhlmalpelgpeaaGreatDoorQL0
import Derived.Test.YthhlmalpelgpeaaGreatDoorQV

/-
  The library's functions at the tokens: TrimLeft, HasPrefix, Atoi, Itoa; the tokens' small functions.
-/
namespace Go.Proofs.YthhlmalpelgpeaaGreatDoor.Zq

/-- Digits are their number's writing, unless there is a zero ahead. -/
theorem decimal_run {d : List Nat} (h0 : d ≠ []) (hd : ∀ c ∈ d, dig c = true) : Jq.decimal (Uq.val d : Nat) = d ↔ ¬ (d.head? = some 48 ∧ 1 < d.length) := by
  have hD : Uq.Digits d := fun c hc => by have := hd c hc; unfold dig at this; simp at this; omega
  have hdec : ∀ n : Nat, Jq.decimal (n : Nat) = Uq.nums (Lib.decDigits n) := fun n => by unfold Jq.decimal Jq.digits; rw [if_neg (by omega)]; rfl
  rw [hdec]
  by_cases hz : d.getD 0 0 = 48
  · have hh : d.head? = some 48 := by
      cases d with
      | nil => exact absurd rfl h0
      | cons a r => simp at hz; simp [hz]
    constructor
    · rintro he ⟨_, hl⟩
      by_cases hv : 1 ≤ Uq.val d
      · have := (Uq.decDigits_nums _ hv).2.2.1
        rw [he] at this
        exact this hz
      · have : Uq.val d = 0 := by omega
        rw [this, show Uq.nums (Lib.decDigits 0) = [48] from by rw [Lib.decDigits, dif_pos (by omega)]; rfl] at he
        rw [← he] at hl
        simp at hl
    · intro hn
      have hl : d.length = 1 := by
        have : d.length ≠ 0 := fun e => h0 (List.eq_nil_of_length_eq_zero e)
        have : ¬ 1 < d.length := fun e => hn ⟨hh, e⟩
        omega
      match d, hl with
      | [a], _ =>
        have : a = 48 := by simpa using hz
        subst this
        show Uq.nums (Lib.decDigits 0) = [48]
        rw [Lib.decDigits, dif_pos (by omega)]; rfl
  · constructor
    · rintro _ ⟨hh, _⟩
      cases d with
      | nil => cases hh
      | cons a r => simp at hh hz; exact hz hh
    · intro _
      rw [(Uq.val_pos _ d rfl h0 hD hz).2]
      unfold Uq.nums
      rw [List.map_map]
      conv => rhs; rw [← List.map_id d]
      refine List.map_congr_left fun x hx => ?_
      have := hD x hx
      simp; omega
end Go.Proofs.YthhlmalpelgpeaaGreatDoor.Zq
namespace Go.Proofs.YthhlmalpelgpeaaGreatDoor
open Go.RowKit

theorem znums_mk (l : List UInt8) : numsOf ⟨l.toArray⟩ = l.map fun u : UInt8 => u.toNat := rfl
theorem zdrop_nums (p : UInt8 → Bool) (q : Nat → Bool) (h : ∀ u : UInt8, q u.toNat = p u) (l : List UInt8) : (l.dropWhile p).map (fun u : UInt8 => u.toNat) = (l.map fun u : UInt8 => u.toNat).dropWhile q := by
  rw [List.dropWhile_map]
  congr 2
  funext u
  exact (h u).symm
theorem zbyte_all {p q : UInt8 → Bool} (h : ∀ n : Fin 256, p (UInt8.ofNat n.val) = q (UInt8.ofNat n.val)) (u : UInt8) : p u = q u := by
  have := h ⟨u.toNat, u.toNat_lt⟩
  simpa using this
abbrev zblankB : ByteArray := { data := #[32, 10] }
abbrev zdigitB : ByteArray := { data := #[48, 49, 50, 51, 52, 53, 54, 55, 56, 57] }
abbrev znameB : ByteArray := { data := #[97, 98, 99, 100, 101, 102, 103, 104, 105, 106, 107, 108, 109, 110, 111, 112, 113, 114, 115, 116, 117, 118, 119, 120, 121, 122, 48, 49, 50, 51, 52, 53, 54, 55, 56, 57, 95] }
set_option maxRecDepth 100000 in
theorem zblank_byte (u : UInt8) : Zq.blank u.toNat = ([32, 10] : List UInt8).contains u :=
  zbyte_all (p := fun u => Zq.blank u.toNat) (q := fun u => ([32, 10] : List UInt8).contains u) (by decide) u
set_option maxRecDepth 100000 in
theorem zdigit_byte (u : UInt8) : Zq.dig u.toNat = ([48, 49, 50, 51, 52, 53, 54, 55, 56, 57] : List UInt8).contains u :=
  zbyte_all (p := fun u => Zq.dig u.toNat) (q := fun u => ([48, 49, 50, 51, 52, 53, 54, 55, 56, 57] : List UInt8).contains u) (by decide) u
set_option maxRecDepth 100000 in
theorem zname_byte (u : UInt8) : Zq.inName u.toNat = ([97, 98, 99, 100, 101, 102, 103, 104, 105, 106, 107, 108, 109, 110, 111, 112, 113, 114, 115, 116, 117, 118, 119, 120, 121, 122, 48, 49, 50, 51, 52, 53, 54, 55, 56, 57, 95] : List UInt8).contains u :=
  zbyte_all (p := fun u => Zq.inName u.toNat) (q := fun u => ([97, 98, 99, 100, 101, 102, 103, 104, 105, 106, 107, 108, 109, 110, 111, 112, 113, 114, 115, 116, 117, 118, 119, 120, 121, 122, 48, 49, 50, 51, 52, 53, 54, 55, 56, 57, 95] : List UInt8).contains u) (by decide) u
set_option maxRecDepth 100000 in
theorem ztrimBlank (s : ByteArray) (w : World) :
    Calls Tryz.prog 33 #[.string s, .string zblankB] w fun e w' => ∃ s', e = .returned (.string s') ∧ numsOf s' = Zq.skip (numsOf s) ∧ Below w.heap.size w w' := by
  refine (Any.strings_TrimLeft_laid (P := Tryz.prog) (ρ := lays161_ren) lays161 (by kernel_rfl) s zblankB w (by decide) (ascii_of_all (by decide))).mono fun e w' ⟨he, hb⟩ => ⟨_, he, ?_, hb⟩
  rw [znums_mk]
  exact zdrop_nums _ _ (fun u => zblank_byte u) _
set_option maxRecDepth 100000 in
theorem ztrimDigits (s : ByteArray) (w : World) :
    Calls Tryz.prog 33 #[.string s, .string zdigitB] w fun e w' => ∃ s', e = .returned (.string s') ∧ numsOf s' = (numsOf s).dropWhile Zq.dig ∧ Below w.heap.size w w' := by
  refine (Any.strings_TrimLeft_laid (P := Tryz.prog) (ρ := lays161_ren) lays161 (by kernel_rfl) s zdigitB w (by decide) (ascii_of_all (by decide))).mono fun e w' ⟨he, hb⟩ => ⟨_, he, ?_, hb⟩
  rw [znums_mk]
  exact zdrop_nums _ _ (fun u => zdigit_byte u) _
set_option maxRecDepth 100000 in
theorem ztrimName (s : ByteArray) (w : World) :
    Calls Tryz.prog 33 #[.string s, .string znameB] w fun e w' => ∃ s', e = .returned (.string s') ∧ numsOf s' = (numsOf s).dropWhile Zq.inName ∧ Below w.heap.size w w' := by
  refine (Any.strings_TrimLeft_laid (P := Tryz.prog) (ρ := lays161_ren) lays161 (by kernel_rfl) s znameB w (by decide) (ascii_of_all (by decide))).mono fun e w' ⟨he, hb⟩ => ⟨_, he, ?_, hb⟩
  rw [znums_mk]
  exact zdrop_nums _ _ (fun u => zname_byte u) _

/-- How Atoi ends on digits alone. -/
def ZAtoi (d : List Nat) (w : World) (e : Ending) (w' : World) : Prop :=
  Below w.heap.size w w' ∧ ((d ≠ [] ∧ Uq.val d < 9223372036854775808 ∧ e = .returned (.tuple #[.int .i64 (Uq.val d : Nat), .nilIface])) ∨ ((d = [] ∨ 9223372036854775808 ≤ Uq.val d) ∧ ∃ (v : Int) (t : TypeId) (p : Value), e = .returned (.tuple #[.int .i64 v, .iface t p])))
theorem zdig_iff (c : Nat) : Jq.dig c = Zq.dig c := rfl
theorem zatoi_any (s : ByteArray) (w : World) (hs : s.size ≤ 4096) (hd : ∀ c ∈ numsOf s, Zq.dig c = true) (hH : HeldZ w) :
    Calls Tryz.prog 79 #[.string s] w fun e w' => ZAtoi (numsOf s) w e w' := by
  obtain ⟨_, ⟨t1, p1, v1⟩, ⟨t2, p2, v2⟩, _⟩ := hH
  have hd' : ∀ c ∈ numsOf s, Jq.dig c = true := fun c hc => by rw [zdig_iff]; exact hd c hc
  have hnd : numsOf s = Uq.nums s.data.toList := rfl
  have bad : ∀ {x : Lib.NumEnd Int}, Lib.atoiAll s.data.toList = x → (∀ v, x ≠ .ok v) → numsOf s = [] ∨ 9223372036854775808 ≤ Uq.val (numsOf s) := fun {x} hx hn => by
    by_cases h0 : s.data.toList = []
    · exact .inl (by rw [hnd, h0]; rfl)
    · rcases Jq.atoi_digits h0 hd' with ⟨_, h2⟩ | ⟨h1, _⟩
      · exact absurd (hx.symm.trans h2) (hn _)
      · exact .inr h1
  cases h : Lib.atoiAll s.data.toList
  · rename_i v
    refine (Any.strconv_Atoi_ok (P := Tryz.prog) (ρ := laysC172_ren) laysC172 s (by omega) v h w).mono fun e w' ⟨he, hw⟩ => ⟨?_, .inl ?_⟩
    · rcases hw with rfl | ⟨t, rfl⟩
      · exact Below.refl _ _
      · exact Lib.bytesWorld_below _ _ _
    · by_cases h0 : s.data.toList = []
      · rw [h0] at h; cases h
      · refine ⟨fun e => h0 (by rw [hnd] at e; simpa [Uq.nums] using e), ?_⟩
        rcases Jq.atoi_digits h0 hd' with ⟨h1, h2⟩ | ⟨_, h2⟩
        · rw [h] at h2
          injection h2 with h2
          subst h2
          exact ⟨h1, he⟩
        · exact absurd h (h2 v)
  · exact (Any.strconv_Atoi_syntax_var (P := Tryz.prog) (ρ := laysC172_ren) laysC172 s (by omega) h t1 p1 w v1).mono fun e w' ⟨N, he, _, _, hb⟩ => ⟨hb, .inr ⟨bad h (fun v e => by cases e), _, _, _, he⟩⟩
  · exact (Any.strconv_Atoi_range_var (P := Tryz.prog) (ρ := laysC172_ren) laysC172 s (by omega) h t2 p2 w v2).mono fun e w' ⟨N, he, _, _, hb⟩ => ⟨hb, .inr ⟨bad h (fun v e => by cases e), _, _, _, he⟩⟩
theorem zgrown_any (w : World) (k : Nat) (os : Array Obj) : Below w.heap.size w (Go.Sort.grow (w.drewN k) os) :=
  ⟨rfl, rfl, rfl, by show w.heap.size ≤ (w.heap ++ os).size; rw [Array.size_append]; omega, fun j hj => Go.Sort.heap_grow_old (w.drewN k) os hj⟩
theorem zitoa_any (v : Int) (h0 : -9223372036854775808 ≤ v) (h1 : v ≤ 9223372036854775807) (w : World) (hH : HeldZ w) :
    Calls Tryz.prog 80 #[.int .i64 v] w fun e w' => (∃ s, e = .returned (.string s) ∧ numsOf s = Jq.decimal v) ∧ Below w.heap.size w w' := by
  refine (Any.strconv_Itoa (P := Tryz.prog) (ρ := laysM171_ren) laysM171 v h0 h1 w hH.1).mono fun e w' ⟨he, k, os, hw⟩ => ⟨⟨_, he, ?_⟩, by rw [hw]; exact zgrown_any w k os⟩
  unfold Lib.itoa Jq.decimal Jq.digits
  split
  · rfl
  · rfl

/-- Does a text begin with a byte that has a backslash ahead of it? -/
def escB (l : List Nat) : Bool := l.head? == some 39 || l.head? == some 92
theorem str_cases (s : ByteArray) : (s.toList = [] ∧ s.size = 0 ∧ numsOf s = []) ∨ (s.toList ≠ [] ∧ 0 < s.size) := by
  by_cases h0 : s.size = 0
  · refine .inl ⟨?_, h0, (nums_nil s).2 h0⟩
    rw [ByteArray.toList_eq]
    exact List.eq_nil_of_length_eq_zero (by rw [Array.length_toList]; exact h0)
  · refine .inr ⟨fun e => h0 ?_, by omega⟩
    rw [ByteArray.toList_eq] at e
    have := congrArg List.length e
    rw [Array.length_toList] at this
    exact this
theorem head_is {s : ByteArray} (h : 0 < s.size) : (numsOf s).head? = some s[0].toNat := by
  have hX := nums_at s 0 h
  cases hh : numsOf s with
  | nil => rw [(nums_nil s).1 hh] at h; omega
  | cons a r => rw [hh] at hX; simp at hX; rw [hX]; rfl
set_option maxRecDepth 100000 in
set_option maxHeartbeats 1000000 in
theorem escaped_any (s : ByteArray) (w : World) : Calls Tryz.prog 78 #[.string s] w fun e w' => w = w' ∧ e = .returned (.bool (escB (numsOf s))) := by
  rcases str_cases s with ⟨h1, h2, h3⟩ | ⟨h1, h2⟩
  · have HE : Hid (escB (numsOf s) = false) := by unfold Hid; rw [h3]; rfl
    have hb : (s.toList != []) = false := by rw [h1]; rfl
    clear h3
    go_enter Tryz.func78, Tryz.ntmps78
    go_wp2
    go_ret
    exact ⟨rfl, by rw [HE.out]; rfl⟩
  · have HH := Lib.hid (head_is h2)
    have hb : s.toList.isEmpty = false := by cases hh : s.toList with
      | nil => exact absurd hh h1
      | cons a r => rfl
    by_cases h39 : s[0].toNat = 39
    · have HE : Hid (escB (numsOf s) = true) := by unfold Hid escB; rw [HH.out, h39]; rfl
      have e1 : ((s[0].toNat : Int) == 39) = true := by rw [h39]; rfl
      clear h39
      go_enter Tryz.func78, Tryz.ntmps78
      go_wp2
      go_ret
      exact ⟨rfl, by rw [HE.out]; rfl⟩
    · have e1 : ((s[0].toNat : Int) == 39) = false := beq_eq_false_iff_ne.2 (by omega)
      have HE : Hid (escB (numsOf s) = ((s[0].toNat : Int) == 92)) := by
        unfold Hid escB
        rw [HH.out]
        by_cases h92 : s[0].toNat = 92
        · rw [h92]; rfl
        · have : ((s[0].toNat : Int) == 92) = false := beq_eq_false_iff_ne.2 (by omega)
          rw [this]
          simp [h39, h92]
      clear h39
      go_enter Tryz.func78, Tryz.ntmps78
      go_wp2
      go_ret
      exact ⟨rfl, by rw [HE.out]; rfl⟩
/-- The kind of a token of one byte. -/
def kSign (c : Nat) : Nat := if c = 36 then 5 else if c = 40 then 6 else if c = 41 then 7 else if c = 44 then 8 else if c = 59 then 9 else if c = 61 then 10 else if c = 60 then 12 else if c = 43 then 13 else 1
set_option maxRecDepth 100000 in
theorem sign_any (c : Nat) (w : World) : Calls Tryz.prog 63 #[.int .u8 (c : Int)] w fun e w' => w = w' ∧ e = .returned (.int .i64 (kSign c : Nat)) := by
  have H : Hid (kSign c = if c = 36 then 5 else if c = 40 then 6 else if c = 41 then 7 else if c = 44 then 8 else if c = 59 then 9 else if c = 61 then 10 else if c = 60 then 12 else if c = 43 then 13 else 1) := rfl
  by_cases hm : c = 36 ∨ c = 40 ∨ c = 41 ∨ c = 44 ∨ c = 59 ∨ c = 61 ∨ c = 60 ∨ c = 43
  · rcases hm with rfl | rfl | rfl | rfl | rfl | rfl | rfl | rfl
    all_goals
      go_enter Tryz.func63, Tryz.ntmps63
      go_wp2
      go_ret
      exact ⟨rfl, rfl⟩
  · have e1 : ((c : Int) == 36) = false := beq_eq_false_iff_ne.2 (by omega)
    have e2 : ((c : Int) == 40) = false := beq_eq_false_iff_ne.2 (by omega)
    have e3 : ((c : Int) == 41) = false := beq_eq_false_iff_ne.2 (by omega)
    have e4 : ((c : Int) == 44) = false := beq_eq_false_iff_ne.2 (by omega)
    have e5 : ((c : Int) == 59) = false := beq_eq_false_iff_ne.2 (by omega)
    have e6 : ((c : Int) == 61) = false := beq_eq_false_iff_ne.2 (by omega)
    have e7 : ((c : Int) == 60) = false := beq_eq_false_iff_ne.2 (by omega)
    have e8 : ((c : Int) == 43) = false := beq_eq_false_iff_ne.2 (by omega)
    have HE : Hid (kSign c = 1) := by
      unfold Hid
      rw [H.out, if_neg (by omega), if_neg (by omega), if_neg (by omega), if_neg (by omega), if_neg (by omega), if_neg (by omega), if_neg (by omega), if_neg (by omega)]
    clear H hm
    go_enter Tryz.func63, Tryz.ntmps63
    go_wp2
    go_ret
    exact ⟨rfl, by rw [HE.out]; rfl⟩
end Go.Proofs.YthhlmalpelgpeaaGreatDoor

/-
  The tokens: texts between marks.
-/
namespace Go.Proofs.YthhlmalpelgpeaaGreatDoor
open Go.RowKit

abbrev zeroT : List Value := [.int .i64 0, .string { data := #[] }, .int .i64 0]
abbrev tput (w : World) (g : Nat) (a b c : Value) : World := ((w.setCell ⟨g, 0, none⟩ a).setCell ⟨g, 1, none⟩ b).setCell ⟨g, 2, none⟩ c
section
variable {w w' : World} {g : Nat} {ty : TypeId} {a b c x0 x1 x2 : Value}
theorem Lies.tput (h : Lies w g ty [x0, x1, x2]) (a b c : Value) : Lies (Go.Proofs.YthhlmalpelgpeaaGreatDoor.tput w g a b c) g ty [a, b, c] := by
  have := ((h.put 0 a).put 1 b).put 2 c
  exact this
theorem Lies.cells3 (h : Lies w g ty [a, b, c]) : (w.cell? ⟨g, 0, none⟩ = some a ∧ w.cell? ⟨g, 1, none⟩ = some b ∧ w.cell? ⟨g, 2, none⟩ = some c) ∧ (w.frozen? ⟨g, 0, none⟩ = false ∧ w.frozen? ⟨g, 1, none⟩ = false ∧ w.frozen? ⟨g, 2, none⟩ = false) :=
  ⟨⟨h.cell 0, h.cell 1, h.cell 2⟩, h.free 0, h.free 1, h.free 2⟩
theorem tput_below {B : Nat} {W : World} (h : Below B W w) (hg : B ≤ g) : Below B W (Go.Proofs.YthhlmalpelgpeaaGreatDoor.tput w g a b c) := ((h.setCell hg _).setCell hg _).setCell hg _
end
theorem str_index (s : ByteArray) (i : Nat) (h : i < s.size) (w : World) : (Instr.index 9 (.string s) (.int .i64 ((i : Nat) : Int))).run Tryz.prog w = .ok (.int .u8 (s[i].toNat : Nat)) w := by
  simp [Instr.index, go_sem, h]
/-- What is kept while a text is read. -/
structure QtSt (w wr : World) (v : Value) (acc : List Nat) : Prop where
  below : Below w.heap.size w wr
  res : Lies wr w.heap.size 47 zeroT
  row : wr.ownsRow (w.heap.size + 1) 5 1 v acc.length (u8s acc)
  bytes : ∀ x ∈ acc, x < 256
section
variable {w wr wr' : World} {v v' : Value} {acc q : List Nat}
theorem QtSt.grow (h : QtSt w wr v acc) (o : Obj) (ho : wr'.ownsRow (w.heap.size + 1) 5 1 v' (acc.length + q.length) (u8s acc ++ u8s q)) (hg : (wr.alloc o).grownBy wr' v.ownBlock) (hq : ∀ x ∈ q, x < 256) : QtSt w wr' v' (acc ++ q) := by
  have hb := box_below wr o
  refine ⟨(h.below.trans (hb.mono h.below.size)).grown hg (Nat.le_trans h.below.size hb.size) (fun k e => by have := (h.row.lt k e).1; omega), (h.res.below hb h.res.lt).grown hg (fun e => by have := (h.row.lt _ e.symm).1; omega), by rw [List.length_append, u8s_append]; exact ho, fun x hx => ?_⟩
  rcases List.mem_append.1 hx with hx | hx
  · exact h.bytes x hx
  · exact hq x hx
end
/-- How the reading of a text between marks ends: the token, and how long it is. -/
def QtEnd (S : List Nat) (w : World) (e : Ending) (w' : World) : Prop := Below w.heap.size w w' ∧ match Zq.textP (S.drop 1) with
  | none => e = .returned (.tuple #[tokc 1 { data := #[] } 0, .int .i64 0])
  | some (t, q) => ∃ k : Nat, e = .returned (.tuple #[tokc 3 (strOf t) 0, .int .i64 (k : Int)]) ∧ k ≤ S.length ∧ q = S.drop k
def QtRel (S : List Nat) (w : World) (v i' : Value) (wr : World) : Prop :=
  ∃ (k : Nat) (acc : List Nat), i' = .int .i64 k ∧ k ≤ S.length ∧ QtSt w wr v acc ∧ acc.length ≤ k ∧ Hid (Zq.TextAt S 1 k acc)
set_option maxHeartbeats 1000000 in
set_option maxRecDepth 100000 in
theorem quoted_any (s : ByteArray) (w : World) (hs : s.size ≤ 4096) (h1 : 0 < s.size) :
    Calls Tryz.prog 59 #[.string s] w (QtEnd (numsOf s) w) := by
  have Hlen := Lib.hid (numsOf_length s)
  have h0 : Hid (QtRel (numsOf s) w (.slice none 0 0) (.int .i64 1) (w.alloc (.cells zeroT.toArray 47))) :=
    ⟨1, [], rfl, by rw [Hlen.out]; omega, ⟨box_below _ _, Lies.new_ rfl, World.ownsRow_nil _ _ _ _, (fun x hx => nomatch hx)⟩, Nat.zero_le _, Zq.textAt_start _ _⟩
  have HBAD : Hid (∀ w', Below w.heap.size w w' → Zq.textP ((numsOf s).drop 1) = none → QtEnd (numsOf s) w (.returned (.tuple #[tokc 1 { data := #[] } 0, .int .i64 0])) w') := fun w' hb h => ⟨hb, by rw [h]⟩
  have hesc := fun i w => escaped_any (s.extract i s.size) w
  clear h1
  go_enter Tryz.func59, Tryz.ntmps59
  go_wp2_with fail
  go_loopw [4, 5] (fun v i' wr => QtRel (numsOf s) w v i' wr) (fun _ i' _ => s.size - (intOf i').toNat)
  case atStart => exact h0.out
  case round =>
    obtain ⟨k, acc, rfl, hk, hst, hal, hat⟩ := hrel
    rw [Hlen.out] at hk
    have HST := Lib.hid hst
    obtain ⟨⟨z0, z1, z2⟩, f0, f1, f2⟩ := hst.res.cells3
    have HNO : Hid (Zq.textP ((numsOf s).drop 1) = none → QtEnd (numsOf s) w (.returned (.tuple #[tokc 1 { data := #[] } 0, .int .i64 0])) (tput wr w.heap.size (.int .i64 1) (.string { data := #[] }) (.int .i64 0))) := fun h => HBAD.out _ (tput_below HST.out.below (Nat.le_refl _)) h
    obtain ⟨⟨q0, q1, q2⟩, _⟩ := (hst.res.tput (.int .i64 1) (.string { data := #[] }) (.int .i64 0)).cells3
    clear h0 hst HBAD
    by_cases hlt : k < s.size
    rotate_left
    · obtain rfl : k = s.size := by omega
      have hd : decide ((s.size : Int) < (s.size : Int)) = false := by simp
      have HE := Lib.hid (HNO.out (hat.out.over (by rw [Hlen.out]; exact Nat.le_refl _)))
      clear hat
      go_wp2
      exact bodyPost_ret (v := .tuple #[tokc 1 { data := #[] } 0, .int .i64 0]) (by simp [results, Tryz.results59, go_sem, q0, q1, q2]) rfl HE.out
    have hX := nums_at s k hlt
    have h256 := s[k].toNat_lt
    by_cases h39 : s[k].toNat = 39
    · have e39 : ((s[k].toNat : Int) == 39) = true := by rw [h39]; rfl
      obtain ⟨A, cp, ev⟩ := own_slice HST.out.row
      subst ev
      obtain ⟨_, hA⟩ := own_arg HST.out.row HST.out.bytes
      have hcv := conv_str hA
      have HE : Hid (QtEnd (numsOf s) w (.returned (.tuple #[tokc 3 (strOf acc) 0, .int .i64 ((k : Int) + 1)])) (tput wr w.heap.size (.int .i64 3) (.string (strOf acc)) (.int .i64 0))) := by
        refine ⟨tput_below HST.out.below (Nat.le_refl _), ?_⟩
        rw [hat.out.ends (by rw [Hlen.out]; exact hlt) (by rw [hX]; exact h39)]
        exact ⟨k + 1, rfl, by rw [Hlen.out]; exact hlt, rfl⟩
      obtain ⟨⟨p0, p1, p2⟩, _⟩ := (HST.out.res.tput (.int .i64 3) (.string (strOf acc)) (.int .i64 0)).cells3
      clear hat hX h39 hA q0 q1 q2
      go_wp2
      exact bodyPost_ret (v := .tuple #[tokc 3 (strOf acc) 0, .int .i64 ((k : Int) + 1)]) (by simp [results, Tryz.results59, go_sem, p0, p1, p2]) rfl HE.out
    have e39 : ((s[k].toNat : Int) == 39) = false := by rw [beq_eq_false_iff_ne]; omega
    by_cases h92 : s[k].toNat = 92
    · have e92 : ((s[k].toNat : Int) == 92) = true := by rw [h92]; rfl
      have hE := hesc (k + 1) wr
      obtain ⟨eb, heb⟩ : ∃ eb, escB (numsOf (s.extract (k + 1) s.size)) = eb := ⟨_, rfl⟩
      rw [heb] at hE
      rw [nums_from] at heb
      have hk1 : ((k : Int) + 1) ≤ (s.size : Int) := by omega
      have hk0 : (0 : Int) ≤ (k : Int) + 1 := by omega
      have hex : s.extract ((k : Int) + 1).toNat (s.size : Int).toNat = s.extract (k + 1) s.size := rfl
      cases eb with
      | false =>
        have HE := Lib.hid (HNO.out (hat.out.escBad (by rw [Hlen.out]; exact hlt) (by rw [hX]; exact h92) (by
          rw [Hlen.out]
          by_cases hl2 : k + 1 < s.size
          · right
            rw [Zq.drop_cons (by rw [Hlen.out]; exact hl2)] at heb
            simp only [escB, List.head?_cons, Bool.or_eq_false_iff] at heb
            rintro (h | h)
            · rw [h] at heb; exact absurd heb.1 (by decide)
            · rw [h] at heb; exact absurd heb.2 (by decide)
          · exact .inl (by omega))))
        clear hat hX h39 h92 heb
        go_wp2_with fail
        refine hE.mono ?_
        rintro e w2 ⟨rfl, rfl⟩
        clear hE
        go_wp2
        exact bodyPost_ret (v := .tuple #[tokc 1 { data := #[] } 0, .int .i64 0]) (by simp [results, Tryz.results59, go_sem, q0, q1, q2]) rfl HE.out
      | true =>
        have hl2 : k + 1 < s.size := by
          rcases Nat.lt_or_ge (k + 1) s.size with h | h
          · exact h
          · rw [List.drop_eq_nil_of_le (by rw [Hlen.out]; exact h)] at heb
            exact absurd heb (by decide)
        have hX2 := nums_at s (k + 1) hl2
        have h2562 := s[k + 1].toNat_lt
        have hee : s[k + 1].toNat = 39 ∨ s[k + 1].toNat = 92 := by
          rw [Zq.drop_cons (by rw [Hlen.out]; exact hl2), hX2] at heb
          simp only [escB, List.head?_cons, Bool.or_eq_true, beq_iff_eq, Option.some.injEq] at heb
          exact heb
        have HT := Lib.hid (hat.out.esc (by rw [Hlen.out]; exact hl2) (by rw [hX]; exact h92) hX2 hee)
        clear hat hX hX2 h39 h92 hee heb q0 q1 q2
        go_wp2_with fail
        refine hE.mono ?_
        rintro e w2 ⟨rfl, rfl⟩
        clear hE
        go_upto_region 14 with (fail)
        have hidx := str_index s (k + 1) hl2
        rw [show ((k + 1 : Nat) : Int) = (k : Int) + 1 from rfl] at hidx
        clear hex hk0 hk1 hesc
        have hown := HST.out.row
        have hsz0 := HST.out.res.lt
        repeat ((fail_if_success (with_reducible show wpList _ _ _ (⟨some 48, _, _, _, _, _⟩ :: _) _ _)); first | go_values | go_skip | go_guarded | go_step | go_upon | go_back | go_simp)
        have hown1 := own_below hown (box_below wr (.cells #[.int .u8 (s[k + 1].toNat : Int)] 5))
        clear hown
        with_reducible refine append_row rfl (.tmp 43) (.tmp 47) 31 5 (.int .u8 0) 1 1 rfl Tryz.underlying31 infoByte rfl (by decide) (w.heap.size + 1) _ acc.length (u8s acc) ⟨wr.heap.size, 0, none⟩ 1 1 (u8s [s[k + 1].toNat]) hown1 ?c1 ?c2 ?c3 ?c4 ?c5 ?c6 ?c7 ?c8 ?_
        case c1 => rfl
        case c2 => exact fun j u hj => new_cells wr _ _ j u hj
        case c3 => exact u8s_one _
        case c4 => rfl
        case c5 => rfl
        case c6 => omega
        case c7 => omega
        case c8 => simp; omega
        intro v3 w3 hown3 hgr3
        have HST3 := Lib.hid (HST.out.grow _ hown3 hgr3 (by simpa using h2562))
        clear hown1 hown3 hgr3
        go_frame
        go_wp2
        go_roundw
        case rel => exact ⟨k + 2, acc ++ [s[k + 1].toNat], by go_num, by rw [Hlen.out]; omega, HST3.out, by rw [List.length_append]; simp; omega, HT.out⟩
        case measure => simp [intOf]; omega
    have e92 : ((s[k].toNat : Int) == 92) = false := by rw [beq_eq_false_iff_ne]; omega
    by_cases hlo : s[k].toNat < 32
    · have d : decide ((s[k].toNat : Int) < 32) = true := decide_eq_true (by omega)
      have HE := Lib.hid (HNO.out (hat.out.bad (by rw [Hlen.out]; exact hlt) hX (by omega)))
      clear hat hX hlo h39 h92
      go_wp2
      exact bodyPost_ret (v := .tuple #[tokc 1 { data := #[] } 0, .int .i64 0]) (by simp [results, Tryz.results59, go_sem, q0, q1, q2]) rfl HE.out
    have d1 : decide ((s[k].toNat : Int) < 32) = false := decide_eq_false (by omega)
    by_cases hhi : 126 < s[k].toNat
    · have d : decide ((126 : Int) < (s[k].toNat : Int)) = true := decide_eq_true (by omega)
      have HE := Lib.hid (HNO.out (hat.out.bad (by rw [Hlen.out]; exact hlt) hX (by omega)))
      clear hat hX hlo hhi h39 h92
      go_wp2
      exact bodyPost_ret (v := .tuple #[tokc 1 { data := #[] } 0, .int .i64 0]) (by simp [results, Tryz.results59, go_sem, q0, q1, q2]) rfl HE.out
    have d2 : decide ((126 : Int) < (s[k].toNat : Int)) = false := decide_eq_false (by omega)
    have HT := Lib.hid (hat.out.step (by rw [Hlen.out]; exact hlt) hX (by omega) h39 h92)
    clear hat hX h39 h92 hlo hhi q0 q1 q2
    have hown := HST.out.row
    have hsz0 := HST.out.res.lt
    repeat ((fail_if_success (with_reducible show wpList _ _ _ (⟨some 48, _, _, _, _, _⟩ :: _) _ _)); first | go_values | go_skip | go_guarded | go_step | go_upon | go_back | go_simp)
    have hown1 := own_below hown (box_below wr (.cells #[.int .u8 (s[k].toNat : Int)] 5))
    clear hown
    with_reducible refine append_row rfl (.tmp 43) (.tmp 47) 31 5 (.int .u8 0) 1 1 rfl Tryz.underlying31 infoByte rfl (by decide) (w.heap.size + 1) _ acc.length (u8s acc) ⟨wr.heap.size, 0, none⟩ 1 1 (u8s [s[k].toNat]) hown1 ?c1 ?c2 ?c3 ?c4 ?c5 ?c6 ?c7 ?c8 ?_
    case c1 => rfl
    case c2 => exact fun j u hj => new_cells wr _ _ j u hj
    case c3 => exact u8s_one _
    case c4 => rfl
    case c5 => rfl
    case c6 => omega
    case c7 => omega
    case c8 => simp; omega
    intro v3 w3 hown3 hgr3
    have HST3 := Lib.hid (HST.out.grow _ hown3 hgr3 (by simpa using h256))
    clear hown1 hown3 hgr3
    go_frame
    go_wp2
    go_roundw
    case rel => exact ⟨k + 1, acc ++ [s[k].toNat], by go_num, by rw [Hlen.out]; omega, HST3.out, by rw [List.length_append]; simp; omega, HT.out⟩
    case measure => simp [intOf]; omega
end Go.Proofs.YthhlmalpelgpeaaGreatDoor

/-
  The tokens: numbers and words.
-/
namespace Go.Proofs.YthhlmalpelgpeaaGreatDoor
open Go.RowKit

theorem run_cut (p : Nat → Bool) (s s1 : ByteArray) (h : numsOf s1 = (numsOf s).dropWhile p) : ∃ k, ((numsOf s).takeWhile p).length = k ∧ k ≤ s.size ∧ s1.size + k = s.size ∧ numsOf (s.extract 0 k) = (numsOf s).takeWhile p ∧ (numsOf s).dropWhile p = (numsOf s).drop k := by
  have key : ∀ a b r : List Nat, a ++ b = r → b = r.drop a.length ∧ a = r.take a.length := fun a b r e => by subst e; simp
  obtain ⟨e1, e2⟩ := key _ _ _ (List.takeWhile_append_dropWhile (p := p) (l := numsOf s))
  have hle := (List.takeWhile_prefix p (l := numsOf s)).length_le
  rw [numsOf_length] at hle
  refine ⟨_, rfl, hle, ?_, by rw [nums_to, ← e2], e1⟩
  have := congrArg List.length h
  rw [e1, numsOf_length, List.length_drop, numsOf_length] at this
  omega
theorem below_more3 {w w1 w2 : World} (h1 : Below w.heap.size w w1) (h2 : Below w1.heap.size w1 w2) : Below w.heap.size w w2 := h1.trans (h2.mono h1.size)
/-- How a token of a text ends: the token, and how long it is. -/
def TkEnd (S : List Nat) (w : World) (e : Ending) (w' : World) : Prop := Below w.heap.size w w' ∧
  ((∃ x q, ∃ k : Nat, Zq.next S = some (x, q) ∧ e = .returned (.tuple #[tokc (Zq.kOf x : Nat) (strOf (Zq.kText x)) (Zq.kNum x : Nat), .int .i64 (k : Int)]) ∧ k ≤ S.length ∧ q = S.drop k) ∨
    (Zq.next S = none ∧ ∃ t n, ∃ k : Nat, e = .returned (.tuple #[tokc 1 t n, .int .i64 (k : Int)]) ∧ k ≤ S.length))
theorem skip_on {c : Nat} {r : List Nat} (h : Zq.blank c = false) : Zq.skip (c :: r) = c :: r := by
  unfold Zq.skip
  rw [List.dropWhile_cons_of_neg (by rw [h]; decide)]
theorem next_num {c : Nat} {r : List Nat} (h : Zq.dig c = true) : Zq.next (c :: r) = if Zq.top < Uq.val ((c :: r).takeWhile Zq.dig) ∨ (c = 48 ∧ 1 < ((c :: r).takeWhile Zq.dig).length) then none else some (.num (Uq.val ((c :: r).takeWhile Zq.dig)), (c :: r).dropWhile Zq.dig) := by
  have hb : Zq.blank c = false := by unfold Zq.dig at h; unfold Zq.blank; simp at h ⊢; omega
  have hl : ¬ Zq.low c = true := by unfold Zq.dig at h; unfold Zq.low; simp at h ⊢; omega
  unfold Zq.next
  rw [skip_on hb]
  simp only [if_neg hl, if_pos h]
theorem next_word {c : Nat} {r : List Nat} (h : Zq.low c = true) : Zq.next (c :: r) = if 32 < ((c :: r).takeWhile Zq.inName).length then none else some (.name ((c :: r).takeWhile Zq.inName), (c :: r).dropWhile Zq.inName) := by
  have hb : Zq.blank c = false := by unfold Zq.low at h; unfold Zq.blank; simp at h ⊢; omega
  unfold Zq.next
  rw [skip_on hb]
  simp only [if_pos h]
set_option maxHeartbeats 2000000 in
set_option maxRecDepth 100000 in
theorem number_any (s : ByteArray) (w : World) (hs : s.size ≤ 4096) (hH : HeldZ w) {c : Nat} {r : List Nat} (hS : numsOf s = c :: r) (hc : Zq.dig c = true) :
    Calls Tryz.prog 61 #[.string s] w (TkEnd (numsOf s) w) := by
  have Hlen := Lib.hid (numsOf_length s)
  have hb0 := box_below w (.cells zeroT.toArray 47)
  have hT := ztrimDigits s (w.alloc (.cells zeroT.toArray 47))
  have HL0 : Hid (Lies (w.alloc (.cells zeroT.toArray 47)) w.heap.size 47 zeroT) := Lies.new_ rfl
  have HB0 := Lib.hid hb0
  have HH : Hid (HeldZ w) := hH
  have HN := Lib.hid (next_num (r := r) hc)
  have HSS := Lib.hid hS
  have HC := Lib.hid hc
  clear hH hS hb0 hc
  go_enter Tryz.func61, Tryz.ntmps61
  go_wp2_with fail
  refine hT.mono ?_
  rintro e w1 ⟨s1, rfl, hs1, hb⟩
  clear hT
  obtain ⟨k, ek, hk, hk2, hds, hdr⟩ := run_cut Zq.dig s s1 hs1
  have hb1 := HB0.out.trans (hb.mono HB0.out.size)
  have hl1 := HL0.out.below hb HL0.out.lt
  have hdd : ∀ c ∈ numsOf (s.extract 0 k), Zq.dig c = true := by rw [hds]; exact Zq.mem_run _ _
  have hA := zatoi_any (s.extract 0 k) w1 (by rw [ByteArray.size_extract]; omega) hdd (HH.out.below hb1)
  unfold ZAtoi at hA
  have h0 : numsOf (s.extract 0 k) ≠ [] := by
    rw [hds, HSS.out, List.takeWhile_cons_of_pos HC.out]; simp
  have HD := Lib.hid (Zq.decimal_run h0 hdd)
  have HDS := Lib.hid hds
  have HDR := Lib.hid hdr
  have HEK := Lib.hid ek
  have HB1 := Lib.hid hb1
  have HL1 := Lib.hid hl1
  have hk1 : ((s.size : Int) - (s1.size : Int)) = (k : Int) := by omega
  have hk3 : (0 : Int) ≤ (k : Int) := by omega
  have hk4 : (k : Int) ≤ (s.size : Int) := by omega
  obtain ⟨ds, eds⟩ : ∃ ds, s.extract 0 k = ds := ⟨_, rfl⟩
  have hdk : ds.size = k := by rw [← eds, ByteArray.size_extract]; omega
  have HDK := Lib.hid hdk
  rw [eds] at hA h0 HD HDS
  obtain ⟨V, eV⟩ : ∃ V, Uq.val (numsOf ds) = V := ⟨_, rfl⟩
  have HV := Lib.hid eV
  rw [eV] at hA HD
  have HEDS := Lib.hid eds
  have HNO : Hid ((Zq.top < V ∨ ((numsOf ds).head? = some 48 ∧ 1 < ds.size)) → Zq.next (numsOf s) = none) := fun h => by
    rw [HSS.out, HN.out, if_pos]
    rw [← HSS.out, ← HDS.out]
    rcases h with h | ⟨h1, h2⟩
    · exact .inl (by rw [HV.out]; exact h)
    · refine .inr ⟨?_, by rw [numsOf_length]; exact h2⟩
      rw [HDS.out, HSS.out, List.takeWhile_cons_of_pos HC.out] at h1
      simpa using h1
  have HYES : Hid (¬ (Zq.top < V) → ¬ ((numsOf ds).head? = some 48 ∧ 1 < ds.size) → Zq.next (numsOf s) = some (.num V, (numsOf s).drop k)) := fun h1 h2 => by
    rw [HSS.out, HN.out, if_neg]
    · rw [← HSS.out, ← HDS.out, HV.out, HDR.out]
    · rw [← HSS.out, ← HDS.out]
      rintro (h | ⟨h3, h4⟩)
      · exact h1 (by rw [HV.out] at h; exact h)
      · refine h2 ⟨?_, by rw [numsOf_length] at h4; exact h4⟩
        rw [HDS.out, HSS.out, List.takeWhile_cons_of_pos HC.out, h3]
        rfl
  clear hs1 hb ek hk2 hds hdr hb1 hl1 hdd hdk eV
  go_wp2_with fail
  refine hA.mono ?_
  rintro e w2 ⟨hb2, ⟨_, hlt, rfl⟩ | ⟨hbad, v, t, p, rfl⟩⟩
  all_goals
    have hl2 := HL1.out.below hb2 HL1.out.lt
    have hbX := below_more3 HB1.out hb2
    have HL2 := Lib.hid hl2
    have HB2 := Lib.hid hbX
    clear hA hl2 hbX hb2
  · by_cases ht : Zq.top < V
    · have dt : decide ((9007199254740991 : Int) < (V : Int)) = true := decide_eq_true (by unfold Zq.top at ht; omega)
      have HNX := Lib.hid (HNO.out (.inl ht))
      obtain ⟨⟨z0, z1, z2⟩, f0, f1, f2⟩ := HL2.out.cells3
      obtain ⟨⟨q0, q1, q2⟩, _⟩ := (HL2.out.tput (.int .i64 1) (.string { data := #[] }) (.int .i64 0)).cells3
      have HE : Hid (TkEnd (numsOf s) w (.returned (.tuple #[tokc 1 { data := #[] } 0, .int .i64 0])) (tput w2 w.heap.size (.int .i64 1) (.string { data := #[] }) (.int .i64 0))) := ⟨tput_below HB2.out (Nat.le_refl _), .inr ⟨HNX.out, _, _, 0, rfl, Nat.zero_le _⟩⟩
      clear ht eds
      go_wp2
      exact bodyPost_ret (v := .tuple #[tokc 1 { data := #[] } 0, .int .i64 0]) (by simp [results, Tryz.results61, go_sem, q0, q1, q2]) rfl HE.out
    · have hV : V ≤ 9007199254740991 := by unfold Zq.top at ht; omega
      have dt : decide ((9007199254740991 : Int) < (V : Int)) = false := decide_eq_false (by omega)
      have hI := zitoa_any (V : Int) (by omega) (by omega) w2 (HH.out.below HB2.out)
      have HYT := Lib.hid (HYES.out ht)
      clear ht eds
      go_wp2_with fail
      refine hI.mono ?_
      rintro e w3 ⟨⟨s3, rfl, hs3⟩, hb3⟩
      have hl3 := HL2.out.below hb3 HL2.out.lt
      have HB3 := Lib.hid (below_more3 HB2.out hb3)
      have HL3 := Lib.hid hl3
      obtain ⟨⟨z0, z1, z2⟩, f0, f1, f2⟩ := hl3.cells3
      have heq : (s3.toList == ds.toList) = decide (Jq.decimal (V : Int) = numsOf ds) := by
        have := str_beq (numsOf_lt s3) (numsOf_lt ds)
        rw [strOf_numsOf, strOf_numsOf, hs3] at this
        exact this
      by_cases hz : (numsOf ds).head? = some 48 ∧ 1 < ds.size
      · have HNX := Lib.hid (HNO.out (.inr hz))
        rw [decide_eq_false (fun e => HD.out.1 e ⟨hz.1, by rw [numsOf_length]; exact hz.2⟩)] at heq
        obtain ⟨⟨q0, q1, q2⟩, _⟩ := (hl3.tput (.int .i64 1) (.string { data := #[] }) (.int .i64 0)).cells3
        have HE : Hid (TkEnd (numsOf s) w (.returned (.tuple #[tokc 1 { data := #[] } 0, .int .i64 0])) (tput w3 w.heap.size (.int .i64 1) (.string { data := #[] }) (.int .i64 0))) := ⟨tput_below HB3.out (Nat.le_refl _), .inr ⟨HNX.out, _, _, 0, rfl, Nat.zero_le _⟩⟩
        have hne : (s3.toList != ds.toList) = true := by rw [bne, heq]; rfl
        clear hI hb3 hl3 hs3 hz hV
        go_wp2
        exact bodyPost_ret (v := .tuple #[tokc 1 { data := #[] } 0, .int .i64 0]) (by simp [results, Tryz.results61, go_sem, q0, q1, q2]) rfl HE.out
      · have HNX := Lib.hid (HYT.out hz)
        rw [decide_eq_true (HD.out.2 (fun e => hz ⟨e.1, by have := e.2; rw [numsOf_length] at this; exact this⟩))] at heq
        obtain ⟨⟨q0, q1, q2⟩, _⟩ := (hl3.tput (.int .i64 4) (.string { data := #[] }) (.int .i64 (V : Int))).cells3
        have HE : Hid (TkEnd (numsOf s) w (.returned (.tuple #[tokc 4 { data := #[] } (V : Int), .int .i64 (ds.size : Nat)])) (tput w3 w.heap.size (.int .i64 4) (.string { data := #[] }) (.int .i64 (V : Int)))) := ⟨tput_below HB3.out (Nat.le_refl _), .inl ⟨.num V, _, ds.size, by rw [HNX.out, HDK.out], by rw [Zq.kOf_num]; rfl, by rw [HDK.out, Hlen.out]; exact hk, rfl⟩⟩
        have hne : (s3.toList != ds.toList) = false := by rw [bne, heq]; rfl
        clear hI hb3 hl3 hs3 hz hV
        go_wp2
        exact bodyPost_ret (v := .tuple #[tokc 4 { data := #[] } (V : Int), .int .i64 (ds.size : Nat)]) (by simp [results, Tryz.results61, go_sem, q0, q1, q2]) rfl HE.out
  · have ht : Zq.top < V := by
      rcases hbad with h | h
      · exact absurd h h0
      · unfold Zq.top; omega
    have HNX := Lib.hid (HNO.out (.inl ht))
    obtain ⟨⟨z0, z1, z2⟩, f0, f1, f2⟩ := HL2.out.cells3
    obtain ⟨⟨q0, q1, q2⟩, _⟩ := (HL2.out.tput (.int .i64 1) (.string { data := #[] }) (.int .i64 0)).cells3
    have HE : Hid (TkEnd (numsOf s) w (.returned (.tuple #[tokc 1 { data := #[] } 0, .int .i64 0])) (tput w2 w.heap.size (.int .i64 1) (.string { data := #[] }) (.int .i64 0))) := ⟨tput_below HB2.out (Nat.le_refl _), .inr ⟨HNX.out, _, _, 0, rfl, Nat.zero_le _⟩⟩
    clear ht eds hbad
    go_wp2
    exact bodyPost_ret (v := .tuple #[tokc 1 { data := #[] } 0, .int .i64 0]) (by simp [results, Tryz.results61, go_sem, q0, q1, q2]) rfl HE.out

/-! Words. -/
/-- The words by their kinds. -/
def kwAt (k : Nat) : List Nat := ([[], [], [], [], [], [], [], [], [], [], [], [], [], [], []] ++ [Zq.wWhen, Zq.wDeny, Zq.wOr, Zq.wAnd, Zq.wNot, Zq.wIn, Zq.wElse, Zq.wLower, Zq.wFirst, Zq.wHead, Zq.wTail, Zq.wHas, Zq.wStarts]).getD k []
theorem kwTab_at (k : Nat) (hk : k < 28) : kwTab[k]? = some (.string (strOf (kwAt k))) := by
  have key : ∀ k : Fin 28, ([[], [], [], [], [], [], [], [], [], [], [], [], [], [], []] ++ [Zq.wWhen, Zq.wDeny, Zq.wOr, Zq.wAnd, Zq.wNot, Zq.wIn, Zq.wElse, Zq.wLower, Zq.wFirst, Zq.wHead, Zq.wTail, Zq.wHas, Zq.wStarts])[k.val]? = some (kwAt k.val) := by decide
  have := key ⟨k, hk⟩
  unfold kwTab
  rw [List.getElem?_toArray, List.getElem?_map, this]
  rfl
theorem kwAt_lt (k : Nat) (hk : k < 28) : ∀ x ∈ kwAt k, x < 256 := by
  have key : ∀ k : Fin 28, ∀ x ∈ kwAt k.val, x < 256 := by decide
  exact key ⟨k, hk⟩
/-- A word that is one of them has its number as its kind. -/
theorem kw_hit (k : Nat) (hk : k < 28) {x : List Nat} (h0 : x ≠ []) (h : kwAt k = x) : Zq.kOf (.name x) = k := by
  have key : ∀ k : Fin 28, kwAt k.val ≠ [] → Zq.kOf (.name (kwAt k.val)) = k.val := by decide
  subst h
  exact key ⟨k, hk⟩ h0
theorem kw_miss {c : Nat} {r : List Nat} (hc : Zq.low c = true) (h : ∀ j, j < 28 → kwAt j ≠ c :: r) : Zq.kOf (.name (c :: r)) = 14 := by
  rw [Zq.kOf_name]
  have key : ∀ p ∈ Zq.kinds, 14 ≤ p.2 → p.2 < 28 ∧ kwAt p.2 = p.1 := by decide
  cases hf : Zq.kinds.find? (fun p => decide ((c :: r) = p.1)) with
  | none => rfl
  | some p =>
    exfalso
    have h1 := of_decide_eq_true (List.find?_some (p := fun p : List Nat × Nat => decide ((c :: r) = p.1)) hf)
    have hp := List.mem_of_find?_eq_some hf
    have hge := Zq.kOf_word (r := r) hc
    rw [Zq.kOf_name, hf] at hge
    obtain ⟨k1, k2⟩ := key p hp hge
    exact h p.2 k1 (by rw [k2, h1])
set_option maxRecDepth 100000 in
theorem kw_block {w : World} (h : HeldZ w) : ∃ ty fr, w.heap[0]? = some (.cells kwTab ty fr) := by
  have h4 := h.2.2.2
  unfold World.var? at h4
  rw [show Tryz.prog.globalNamed "chatelaine/rules.keywords" = some 0 from by kernel_rfl] at h4
  simp only [Option.bind_some] at h4
  split at h4
  · rename_i cs ty fr he
    injection h4 with h4
    subst h4
    exact ⟨ty, fr, he⟩
  · cases h4
set_option maxRecDepth 100000 in
theorem kw_index (j : Nat) (hj : j < 28) (w : World) : (Instr.index 109 (.agg kwTab) (.int .i64 (j : Int))).run Tryz.prog w = .ok (.string (strOf (kwAt j))) w := by
  rcases (by omega : j = 0 ∨ j = 1 ∨ j = 2 ∨ j = 3 ∨ j = 4 ∨ j = 5 ∨ j = 6 ∨ j = 7 ∨ j = 8 ∨ j = 9 ∨ j = 10 ∨ j = 11 ∨ j = 12 ∨ j = 13 ∨ j = 14 ∨ j = 15 ∨ j = 16 ∨ j = 17 ∨ j = 18 ∨ j = 19 ∨ j = 20 ∨ j = 21 ∨ j = 22 ∨ j = 23 ∨ j = 24 ∨ j = 25 ∨ j = 26 ∨ j = 27) with rfl | rfl | rfl | rfl | rfl | rfl | rfl | rfl | rfl | rfl | rfl | rfl | rfl | rfl | rfl | rfl | rfl | rfl | rfl | rfl | rfl | rfl | rfl | rfl | rfl | rfl | rfl | rfl
  all_goals kernel_rfl
set_option maxHeartbeats 2000000 in
set_option maxRecDepth 100000 in
theorem word_any (s : ByteArray) (w : World) (hs : s.size ≤ 4096) (hH : HeldZ w) {c : Nat} {r : List Nat} (hS : numsOf s = c :: r) (hc : Zq.low c = true) :
    Calls Tryz.prog 60 #[.string s] w (TkEnd (numsOf s) w) := by
  have Hlen := Lib.hid (numsOf_length s)
  have hb0 := box_below w (.cells zeroT.toArray 47)
  have hT := ztrimName s (w.alloc (.cells zeroT.toArray 47))
  have HL0 : Hid (Lies (w.alloc (.cells zeroT.toArray 47)) w.heap.size 47 zeroT) := Lies.new_ rfl
  have HB0 := Lib.hid hb0
  have HH : Hid (HeldZ w) := hH
  have HN := Lib.hid (next_word (r := r) hc)
  have HSS := Lib.hid hS
  have HC := Lib.hid hc
  clear hH hS hb0 hc
  go_enter Tryz.func60, Tryz.ntmps60
  go_wp2_with fail
  refine hT.mono ?_
  rintro e w1 ⟨s1, rfl, hs1, hb⟩
  clear hT
  obtain ⟨k, ek, hk, hk2, hds, hdr⟩ := run_cut Zq.inName s s1 hs1
  have hl1 := HL0.out.below hb HL0.out.lt
  have HB1 := Lib.hid (below_more3 HB0.out hb)
  have HL1 := Lib.hid hl1
  have HDS := Lib.hid hds
  have HDR := Lib.hid hdr
  have HEK := Lib.hid ek
  have hk1 : ((s.size : Int) - (s1.size : Int)) = (k : Int) := by omega
  have hk3 : (0 : Int) ≤ (k : Int) := by omega
  have hk4 : (k : Int) ≤ (s.size : Int) := by omega
  obtain ⟨nm, enm⟩ : ∃ nm, (numsOf s).takeWhile Zq.inName = nm := ⟨_, rfl⟩
  have hex : s.extract 0 k = strOf nm := by rw [← enm, ← hds, strOf_numsOf]
  have hsz : (strOf nm).size = k := by rw [strOf_size, ← enm, ek]
  have HNM := Lib.hid enm
  have hcin : Zq.inName c = true := by unfold Zq.inName; rw [HC.out]; rfl
  have HNC : Hid (∃ r', nm = c :: r') := ⟨r.takeWhile Zq.inName, by rw [← enm, HSS.out, List.takeWhile_cons_of_pos hcin]⟩
  have HLT : Hid (∀ x ∈ nm, x < 256) := fun x hx => numsOf_lt s x (by rw [← enm] at hx; exact (List.takeWhile_prefix _).sublist.subset hx)
  have HLK : Hid (nm.length = k) := by unfold Hid; rw [← enm, ek]
  have HNX : Hid (Zq.next (numsOf s) = if 32 < k then none else some (.name nm, (numsOf s).drop k)) := by
    unfold Hid
    have h1 := HN.out
    rw [← HSS.out, enm, HDR.out] at h1
    rw [h1, HLK.out]
  clear hs1 hb ek hk2 hds hdr hl1 enm hcin
  obtain ⟨S, eS⟩ : ∃ S, strOf nm = S := ⟨_, rfl⟩
  rw [eS] at hex hsz
  have HES := Lib.hid eS
  clear eS
  by_cases h32 : 32 < k
  · have d32 : decide ((32 : Int) < (k : Int)) = true := decide_eq_true (by omega)
    have HNO : Hid (Zq.next (numsOf s) = none) := by unfold Hid; rw [HNX.out, if_pos h32]
    obtain ⟨⟨z0, z1, z2⟩, f0, f1, f2⟩ := HL1.out.cells3
    obtain ⟨⟨q0, q1, q2⟩, _⟩ := (HL1.out.tput (.int .i64 1) (.string { data := #[] }) (.int .i64 0)).cells3
    have HE : Hid (TkEnd (numsOf s) w (.returned (.tuple #[tokc 1 { data := #[] } 0, .int .i64 0])) (tput w1 w.heap.size (.int .i64 1) (.string { data := #[] }) (.int .i64 0))) := ⟨tput_below HB1.out (Nat.le_refl _), .inr ⟨HNO.out, _, _, 0, rfl, Nat.zero_le _⟩⟩
    clear h32
    go_wp2
    exact bodyPost_ret (v := .tuple #[tokc 1 { data := #[] } 0, .int .i64 0]) (by simp [results, Tryz.results60, go_sem, q0, q1, q2]) rfl HE.out
  have d32 : decide ((32 : Int) < (k : Int)) = false := decide_eq_false (by omega)
  have HYES : Hid (Zq.next (numsOf s) = some (.name nm, (numsOf s).drop k)) := by unfold Hid; rw [HNX.out, if_neg h32]
  have hk4' : k ≤ s.size := hk
  clear h32
  obtain ⟨gty, gfr, hgk⟩ := kw_block (HH.out.below HB1.out)
  go_upto_region 4 with (fail)
  repeat ((fail_if_success (with_reducible show wpList _ _ _ (⟨some 19, _, _, _, _, _⟩ :: _) _ _)); first | go_values | go_skip | go_guarded | go_step | go_upon | go_back | go_simp)
  refine wpList_load_row rfl 109 (Operand.global 0) rfl 0 rfl gty kwTab gfr _ hgk Tryz.underlying109 rfl (by kernel_rfl) ?_
  clear hgk
  go_frame
  obtain ⟨K, eK⟩ : ∃ K, kwTab = K := ⟨_, rfl⟩
  rw [eK]
  have HIX : Hid (∀ (j : Nat) (_ : j < 28) (w : World), (Instr.index 109 (.agg K) (.int .i64 (j : Int))).run Tryz.prog w = .ok (.string (strOf (kwAt j))) w) := fun j hj w => by rw [← eK]; exact kw_index j hj w
  have hsl := HL1.out.lt
  clear eK
  go_wp2_with fail
  go_loop [20] (fun i => ∃ j : Nat, i = .int .i64 j ∧ j ≤ 28 ∧ Hid (∀ m, m < j → kwAt m ≠ nm)) (fun i => 28 - (intOf i).toNat)
  case atStart => exact ⟨0, rfl, by decide, fun m hm => absurd hm (Nat.not_lt_zero m)⟩
  case round =>
    obtain ⟨j, rfl, hj, Hno⟩ := hrel
    by_cases hlt : j < 28
    · have hix := HIX.out j hlt w1
      have heq : ((strOf (kwAt j)).toList == S.toList) = decide (kwAt j = nm) := by rw [← HES.out]; exact str_beq (kwAt_lt j hlt) HLT.out
      have HNE : Hid (nm ≠ []) := fun e => by obtain ⟨r', h⟩ := HNC.out; rw [e] at h; cases h
      by_cases hk : kwAt j = nm
      · rw [decide_eq_true hk] at heq
        have HKO := Lib.hid (kw_hit j hlt HNE.out hk)
        obtain ⟨⟨z0, z1, z2⟩, f0, f1, f2⟩ := HL1.out.cells3
        obtain ⟨⟨q0, q1, q2⟩, _⟩ := (HL1.out.tput (.int .i64 (j : Int)) (.string S) (.int .i64 0)).cells3
        have HE : Hid (TkEnd (numsOf s) w (.returned (.tuple #[tokc (j : Int) S 0, .int .i64 (k : Int)])) (tput w1 w.heap.size (.int .i64 (j : Int)) (.string S) (.int .i64 0))) := ⟨tput_below HB1.out (Nat.le_refl _), .inl ⟨.name nm, _, k, HYES.out, by rw [HKO.out, ← HES.out]; rfl, by rw [Hlen.out]; exact hk4', rfl⟩⟩
        clear hk
        go_wp2
        exact bodyPost_ret (v := .tuple #[tokc (j : Int) S 0, .int .i64 (k : Int)]) (by simp [results, Tryz.results60, go_sem, q0, q1, q2]) rfl HE.out
      · rw [decide_eq_false hk] at heq
        have HC2 : Hid (∀ m, m < j + 1 → kwAt m ≠ nm) := fun m hm => by
          rcases Nat.lt_or_eq_of_le (Nat.le_of_lt_succ hm) with h | h
          · exact Hno.out m h
          · rw [h]; exact hk
        clear hk
        go_wp2
        go_round
        case rel => exact ⟨j + 1, by go_num, by omega, HC2⟩
        case measure => simp [intOf]; omega
    · obtain rfl : j = 28 := by omega
      have HKO : Hid (Zq.kOf (.name nm) = 14) := by
        obtain ⟨r', h⟩ := HNC.out
        unfold Hid
        rw [h]
        exact kw_miss HC.out (fun m hm e => Hno.out m hm (by rw [e, h]))
      obtain ⟨⟨z0, z1, z2⟩, f0, f1, f2⟩ := HL1.out.cells3
      obtain ⟨⟨q0, q1, q2⟩, _⟩ := (HL1.out.tput (.int .i64 14) (.string S) (.int .i64 0)).cells3
      have HE : Hid (TkEnd (numsOf s) w (.returned (.tuple #[tokc 14 S 0, .int .i64 (k : Int)])) (tput w1 w.heap.size (.int .i64 14) (.string S) (.int .i64 0))) := ⟨tput_below HB1.out (Nat.le_refl _), .inl ⟨.name nm, _, k, HYES.out, by rw [HKO.out, ← HES.out]; rfl, by rw [Hlen.out]; exact hk4', rfl⟩⟩
      clear hlt
      go_wp2
      exact bodyPost_ret (v := .tuple #[tokc 14 S 0, .int .i64 (k : Int)]) (by simp [results, Tryz.results60, go_sem, q0, q1, q2]) rfl HE.out
end Go.Proofs.YthhlmalpelgpeaaGreatDoor
