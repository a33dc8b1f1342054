/-
  The library's functions at addresses: CutPrefix, Cut, Split, IndexByte, HasPrefix, HasSuffix, Atoi and Itoa; what the rows' listed variables hold.
-/
import Derived.Test.YtejmkijnngkoaaaDoorULay
import Derived.Test.YtejmkijnngkoaaaDoorUSmall
import Derived.Test.YtejmkijnngkoaaaDoorUNum
import Derived.Test.YtejmkijnngkoaaaDoorPLib
import Derived.Lib.AtoiErrMem
namespace Go.Proofs.YtejmkijnngkoaaaDoor
open Go.RowKit

/-- What is read of the library's variables. -/
def Held (w : World) : Prop :=
  Lib.TabIs Tryd.prog w "internal/strconv.uint64pow10" .u64 Lib.pow10Tab ∧ (∃ tp p, w.var? Tryd.prog "strconv.ErrSyntax" = some #[.iface tp p]) ∧ ∃ tp p, w.var? Tryd.prog "strconv.ErrRange" = some #[.iface tp p]
theorem var_below {n : String} {g : Nat} {cs : Array Value} {w w' : World} (hg : Tryd.prog.globalNamed n = some g) (h : w.var? Tryd.prog n = some cs) (hb : Below w.heap.size w w') : w'.var? Tryd.prog n = some cs := by
  unfold World.var? at h ⊢
  rw [hg] at h ⊢
  simp only [Option.bind_some] at h ⊢
  have hlt : g < w.heap.size := by
    rcases Nat.lt_or_ge g w.heap.size with h' | h'
    · exact h'
    · rw [Array.getElem?_eq_none h'] at h; cases h
  rw [hb.block g hlt]
  exact h
theorem Held.below {w w' : World} (h : Held w) (hb : Below w.heap.size w w') : Held w' := by
  obtain ⟨h1, ⟨a, b, h2⟩, c, d, h3⟩ := h
  exact ⟨var_below (g := 5) (by kernel_rfl) h1 hb, ⟨a, b, var_below (g := 1) (by kernel_rfl) h2 hb⟩, c, d, var_below (g := 2) (by kernel_rfl) h3 hb⟩
theorem Held.alloc {w : World} (h : Held w) (o : Obj) : Held (w.alloc o) := h.below ((Below.refl _ _).alloc (Nat.le_refl _) o)

abbrev schemeB : ByteArray := { data := #[104, 116, 116, 112, 115, 58, 47, 47] }
theorem schemeB_eq : schemeB = strOf Uq.scheme := rfl
theorem scheme_lt : ∀ x ∈ Uq.scheme, x < 256 := by decide

theorem take_lt {l : List Nat} (h : ∀ x ∈ l, x < 256) (k : Nat) : ∀ x ∈ l.take k, x < 256 := fun x hx => h x (List.mem_of_mem_take hx)
theorem drop_lt {l : List Nat} (h : ∀ x ∈ l, x < 256) (k : Nat) : ∀ x ∈ l.drop k, x < 256 := fun x hx => h x (List.mem_of_mem_drop hx)
theorem eq_strOf {s : ByteArray} {l : List Nat} (h : numsOf s = l) : s = strOf l := by rw [← h, strOf_numsOf]
theorem prefix_beq (s : ByteArray) (p : List Nat) (hp : ∀ x ∈ p, x < 256) : (decide ((strOf p).size ≤ s.size) && ((s.extract 0 (strOf p).size).toList == (strOf p).toList)) = decide ((numsOf s).take p.length = p) := by
  rw [eq_strOf (nums_to s (strOf p).size), str_beq (take_lt (numsOf_lt s) _) hp, strOf_size]
  by_cases h : (numsOf s).take p.length = p
  · have := congrArg List.length h
    rw [List.length_take, numsOf_length] at this
    rw [decide_eq_true h, decide_eq_true (by omega)]; rfl
  · rw [decide_eq_false h, Bool.and_false]

theorem cutPrefix_any (s : ByteArray) (w : World) :
    Calls Tryd.prog 19 #[.string s, .string schemeB] w fun e w' => w = w' ∧ ((∃ x, x = s.extract 8 s.size ∧ (numsOf s).take 8 = Uq.scheme ∧ e = .returned (.tuple #[.string x, .bool true])) ∨ ((numsOf s).take 8 ≠ Uq.scheme ∧ ∃ x, e = .returned (.tuple #[.string x, .bool false]))) := by
  refine (Any.strings_CutPrefix (P := Tryd.prog) (ρ := lays103_ren) lays103 s schemeB w).mono fun e w' ⟨he, hw⟩ => ⟨hw.symm, ?_⟩
  have hp := prefix_beq s Uq.scheme scheme_lt
  rw [← schemeB_eq] at hp
  have hh := Lib.hasPrefix_raw s schemeB
  by_cases h : (numsOf s).take Uq.scheme.length = Uq.scheme
  · rw [decide_eq_true h] at hp
    rw [hp] at hh
    obtain ⟨h1, h2⟩ := (Bool.and_eq_true _ _).mp hp
    refine .inl ⟨_, rfl, h, ?_⟩
    rw [he, ← hh, Lib.trimPrefix_hit s schemeB (of_decide_eq_true h1) h2]
    rfl
  · rw [decide_eq_false h] at hp
    rw [hp] at hh
    exact .inr ⟨h, _, by rw [he, ← hh]⟩

abbrev dashB : ByteArray := { data := #[45] }
theorem first_dash {S : List Nat} (h : 1 ≤ S.length) : decide (S.take 1 = [45]) = (S.getD 0 0 == 45) := by
  cases S with
  | nil => simp at h
  | cons a r => rw [Bool.eq_iff_iff]; simp
theorem last_dash {S : List Nat} (h : 1 ≤ S.length) : decide (S.drop (S.length - 1) = [45]) = (S.getD (S.length - 1) 0 == 45) := by
  have h1 : S.drop (S.length - 1) = [S.getD (S.length - 1) 0] := by
    rw [Pq.drop_at S (by omega), show S.length - 1 + 1 = S.length from by omega, List.drop_length]
  rw [h1, Bool.eq_iff_iff]; simp
theorem hasDash_any (s : ByteArray) (w : World) (h : 1 ≤ s.size) :
    Calls Tryd.prog 58 #[.string s, .string dashB] w fun e w' => e = .returned (.bool ((numsOf s).getD 0 0 == 45)) ∧ w = w' := by
  refine (Any.strings_HasPrefix (P := Tryd.prog) (ρ := lays99_ren) lays99 s dashB w).mono fun e w' ⟨he, hw⟩ => ⟨?_, hw.symm⟩
  rw [he, ← Lib.hasPrefix_raw, ← first_dash (by rw [numsOf_length]; exact h)]
  exact congrArg (fun b => Ending.returned (.bool b)) (prefix_beq s [45] (by decide))
theorem endDash_any (s : ByteArray) (w : World) (h : 1 ≤ s.size) (hs : s.size ≤ 140737488355328) :
    Calls Tryd.prog 59 #[.string s, .string dashB] w fun e w' => e = .returned (.bool ((numsOf s).getD (s.size - 1) 0 == 45)) ∧ w = w' := by
  refine (Any.strings_HasSuffix (P := Tryd.prog) (ρ := lays100_ren) lays100 s dashB w (by omega)).mono fun e w' ⟨he, hw⟩ => ⟨?_, hw.symm⟩
  have hl := last_dash (S := numsOf s) (by rw [numsOf_length]; exact h)
  rw [numsOf_length] at hl
  have e1 : s.extract (s.size - dashB.size) s.size = strOf ((numsOf s).drop (s.size - 1)) := eq_strOf (nums_from s _)
  rw [he, ← Lib.hasSuffix_raw, ← hl, e1, show dashB = strOf [45] from rfl, str_beq (drop_lt (numsOf_lt s) _) (by decide), decide_eq_true (by rw [strOf_size]; exact h), Bool.true_and]

/-- What Cut answers, at any byte. -/
def CutEndB (b : Nat) (S : List Nat) (w : World) (e : Ending) (w' : World) : Prop := e = .returned (.tuple #[.string (strOf (Uq.front b S)), .string (strOf (Uq.behind b S)), .bool (decide ((Uq.front b S).length < S.length))]) ∧ Below w.heap.size w w'

set_option maxHeartbeats 1000000 in
theorem liteCutB_any (c : UInt8) (s : ByteArray) (w : World) (hs : s.size ≤ 4096) :
    Calls Tryd.prog 33 #[.string s, .string { data := #[c] }] w fun e w' => CutEndB c.toNat (numsOf s) w e w' := by
  have Hlen := Lib.hid (numsOf_length s)
  have hI : ∀ w, Calls Tryd.prog 52 #[.string s, .string { data := #[c] }] w fun e w' => e = .returned (.int .i64 (Lib.indexByte s.data.toList c)) ∧ w' = w := fun w => Any.stringslite_Index_one (P := Tryd.prog) (ρ := lays146_ren) { lays146 with } s c w
  have hge := Lib.indexByte_ge s.data.toList c
  by_cases hm : Lib.indexByte s.data.toList c = -1
  · obtain ⟨h1, h2⟩ := Uq.front_none (l := numsOf s) (b := c.toNat) (at_none hm)
    rw [hm] at hI
    have H1 := Lib.hid h1
    have H2 := Lib.hid h2
    clear hm hge h1 h2
    go_enter Tryd.func33, Tryd.ntmps33
    go_wp2_with fail
    refine (hI _).mono ?_
    rintro e w' ⟨rfl, rfl⟩
    clear hI
    go_wp2
    go_ret3
    refine ⟨?_, Below.refl _ _⟩
    rw [H1.out, H2.out, strOf_numsOf, decide_eq_false (Nat.lt_irrefl _)]
    rfl
  · obtain ⟨i, hi⟩ : ∃ i : Nat, Lib.indexByte s.data.toList c = (i : Int) := ⟨(Lib.indexByte s.data.toList c).toNat, by omega⟩
    obtain ⟨g1, g2⟩ := at_some hi
    have hlt : i < s.size := by
      have := congrArg List.length g1
      rw [List.length_append, List.length_take, List.length_cons, List.length_drop] at this
      have e : s.data.toList.length = s.size := by rw [Array.length_toList]; rfl
      omega
    have hsz : numsOf s = (numsOf s).take i ++ c.toNat :: (numsOf s).drop (i + 1) := by
      have := congrArg (List.map fun u : UInt8 => u.toNat) g1
      rw [List.map_append, List.map_cons, List.map_take, List.map_drop] at this
      exact this
    obtain ⟨h1, h2⟩ := Uq.front_eq (l := numsOf s) (b := c.toNat) (a := (numsOf s).take i) (r := (numsOf s).drop (i + 1)) (fun x hx => g2 x (by rw [List.map_take]; exact hx)) hsz
    have H1 := Lib.hid h1
    have H2 := Lib.hid h2
    rw [hi] at hI
    clear hm hge h1 h2 hsz g1 g2 hi
    have c1 : (0 : Int) ≤ ↑i := by omega
    have c2 : (↑i : Int) ≤ ↑s.size := by omega
    have c3 : (0 : Int) ≤ ↑i + 1 := by omega
    have c4 : (↑i + 1 : Int) ≤ ↑s.size := by omega
    go_enter Tryd.func33, Tryd.ntmps33
    go_wp2_with fail
    refine (hI _).mono ?_
    rintro e w' ⟨rfl, rfl⟩
    clear hI
    go_wp2
    go_quiet (fail)
    go_wp2
    go_ret3
    refine ⟨?_, ?_⟩
    · rw [H1.out, H2.out, ← nums_to, ← nums_from, strOf_numsOf, strOf_numsOf, nums_to, decide_eq_true (by rw [List.length_take, Hlen.out]; omega)]
      rfl
    · exact ⟨rfl, rfl, rfl, Nat.le_refl _, fun _ _ => rfl⟩

set_option maxHeartbeats 1000000 in
theorem cutB_any (c : UInt8) (s : ByteArray) (w : World) (hs : s.size ≤ 4096) :
    Calls Tryd.prog 20 #[.string s, .string { data := #[c] }] w fun e w' => CutEndB c.toNat (numsOf s) w e w' := by
  have hI := liteCutB_any c s w hs
  unfold CutEndB at hI ⊢
  obtain ⟨a, ea⟩ : ∃ a, strOf (Uq.front c.toNat (numsOf s)) = a := ⟨_, rfl⟩
  obtain ⟨b, eb⟩ : ∃ b, strOf (Uq.behind c.toNat (numsOf s)) = b := ⟨_, rfl⟩
  obtain ⟨d, ed⟩ : ∃ d, decide ((Uq.front c.toNat (numsOf s)).length < (numsOf s).length) = d := ⟨_, rfl⟩
  rw [ea, eb, ed] at hI ⊢
  clear ea eb ed
  go_enter Tryd.func20, Tryd.ntmps20
  go_wp2_with fail
  refine hI.mono ?_
  rintro e w' ⟨rfl, hb⟩
  clear hI
  go_wp2
  go_ret3
  exact ⟨rfl, hb⟩

theorem splitK_partsB (c : UInt8) : ∀ (k : Nat) (l : List UInt8), l.count c = k → (Lib.splitK [c] 0 k l).map (fun p => p.map fun u : UInt8 => u.toNat) = Uq.parts c.toNat (l.map fun u : UInt8 => u.toNat)
  | 0, l, h => by
    have hn : ∀ x ∈ l.map (fun u : UInt8 => u.toNat), x ≠ c.toNat := by
      intro x hx
      obtain ⟨u, hu, rfl⟩ := List.mem_map.1 hx
      intro e
      have : u = c := UInt8.toNat_inj.1 e
      subst this
      exact absurd h (Nat.ne_of_gt (List.count_pos_iff.2 hu))
    rw [Lib.splitK, Uq.parts_free hn]
    rfl
  | k + 1, l, h => by
    rw [Lib.splitK]
    by_cases hm : Lib.index l [c] = -1
    · rw [if_pos (beq_iff_eq.2 hm), Uq.parts_free (at_none (c := c) (by rw [← Lib.index_one]; exact hm))]
      rfl
    · rw [if_neg (fun e => hm (beq_iff_eq.1 e))]
      obtain ⟨i, hi⟩ : ∃ i : Nat, Lib.indexByte l c = (i : Int) := by
        have h1 := Lib.indexByte_ge l c
        rw [Lib.index_one] at hm
        exact ⟨(Lib.indexByte l c).toNat, by omega⟩
      obtain ⟨h1, h2⟩ := at_some hi
      rw [Lib.index_one, hi, Int.toNat_natCast, List.map_cons]
      have hc : (l.drop (i + 1)).count c = k := by
        have e := congrArg (List.count c) h1
        rw [List.count_append, List.count_cons_self, List.count_eq_zero_of_not_mem (l := l.take i) (fun hm => h2 c.toNat (List.mem_map.2 ⟨c, hm, rfl⟩) rfl), h] at e
        omega
      have ih := splitK_partsB c k (l.drop (i + 1)) hc
      have hl1 : ([c] : List UInt8).length = 1 := rfl
      rw [Nat.add_zero, hl1, ih]
      conv => rhs; rw [h1]
      rw [List.map_append, List.map_cons]
      exact (Uq.parts_first h2 _).symm
theorem split_partsB (c : UInt8) (s : ByteArray) : Lib.splitB { data := #[c] } 0 (Lib.countB s { data := #[c] }) s = (Uq.parts c.toNat (numsOf s)).map strOf := by
  have h := Lib.splitB_data { data := #[c] } 0 (Lib.countB s { data := #[c] }) s
  have hc : s.data.toList.count c = Lib.countB s { data := #[c] } := (Lib.count_one c s.data.toList).symm
  have h2 := splitK_partsB c _ s.data.toList hc
  rw [← show (Lib.splitB { data := #[c] } 0 (Lib.countB s { data := #[c] }) s).map (·.data.toList) = Lib.splitK [c] 0 (Lib.countB s { data := #[c] }) s.data.toList from h, List.map_map] at h2
  have h3 : (Lib.splitB { data := #[c] } 0 (Lib.countB s { data := #[c] }) s).map numsOf = Uq.parts c.toNat (numsOf s) := h2
  rw [← h3, List.map_map]
  conv => lhs; rw [← List.map_id (Lib.splitB { data := #[c] } 0 (Lib.countB s { data := #[c] }) s)]
  exact List.map_congr_left fun x _ => (strOf_numsOf x).symm

set_option maxHeartbeats 1000000 in
theorem splitB_any (c : UInt8) (s : ByteArray) (w : World) (hs : s.size ≤ 4096) :
    Calls Tryd.prog 35 #[.string s, .string { data := #[c] }] w fun e w' => e = .returned (.slice (some ⟨w.heap.size, 0, none⟩) (Uq.parts c.toNat (numsOf s)).length (Uq.parts c.toNat (numsOf s)).length) ∧ Lies w' w.heap.size 9 (tcells (Uq.parts c.toNat (numsOf s))) ∧ Below w.heap.size w w' := by
  have h1 : 1 ≤ ({ data := #[c] } : ByteArray).size := Nat.le_refl _
  have hle := Lib.countB_le { data := #[c] } h1 s.size s (Nat.le_refl _)
  have hlen := Lib.splitB_all { data := #[c] } h1 0 _ s rfl
  have hC := Any.strings_Count_one (P := Tryd.prog) (ρ := lays146_ren) { lays146 with } s c w
  have hcount : Lib.countB s { data := #[c] } = Lib.countByte s.data.toList c := Lib.count_one c s.data.toList
  have k := Any.strings_genSplit_core (P := Tryd.prog) (ρ := lays146_ren) { lays146 with } (by kernel_rfl) s { data := #[c] } 0 (-1) (Lib.countB s { data := #[c] } + 1) w (by omega) h1 (Nat.zero_le _)
    (fun x cs hx => (Any.strings_Index_one (P := Tryd.prog) (ρ := lays146_ren) { lays146 with } x c _).mono fun e w' ⟨he, hw⟩ => ⟨by rw [he]; show _ = Ending.returned (.int .i64 (Lib.index x.data.toList [c])); rw [Lib.index_one], hw⟩)
    (hC.mono fun e w' ⟨he, hw⟩ => ⟨by rw [he, hcount], hw⟩) (by decide) (by decide) (by rw [if_pos (by decide)]; omega)
  rw [Nat.add_sub_cancel, hlen] at k
  have e2 : Lib.cellsOf (Lib.splitB { data := #[c] } 0 (Lib.countB s { data := #[c] }) s) (Lib.countB s { data := #[c] } + 1) = ((Lib.splitB { data := #[c] } 0 (Lib.countB s { data := #[c] }) s).map Value.string).toArray := by rw [← hlen]; exact Lib.cellsOf_full _
  rw [e2] at k
  rw [split_partsB, List.length_map] at hlen
  rw [split_partsB, ← hlen, List.map_map] at k
  have c' : Calls Tryd.prog 54 #[.string s, .string { data := #[c] }, .int .i64 0, .int .i64 (-1)] w fun e w' => e = .returned (.slice (some ⟨w.heap.size, 0, none⟩) (Uq.parts c.toNat (numsOf s)).length (Uq.parts c.toNat (numsOf s)).length) ∧ w' = w.alloc (.cells (tcells (Uq.parts c.toNat (numsOf s))).toArray 9) := k
  clear k e2 hlen hC hcount hle
  obtain ⟨Q, eQ⟩ : ∃ Q, Uq.parts c.toNat (numsOf s) = Q := ⟨_, rfl⟩
  rw [eQ] at c' ⊢
  clear eQ
  go_enter Tryd.func35, Tryd.ntmps35
  go_wp2_with fail
  refine c'.mono ?_
  rintro e w' ⟨rfl, hw⟩
  have hL : Lies w' w.heap.size 9 (tcells Q) := by rw [hw]; exact Lies.made w _ _
  have hb : Below w.heap.size w w' := by rw [hw]; exact (Below.refl _ _).alloc (Nat.le_refl _) _
  clear hw c'
  go_wp2
  go_ret
  exact ⟨rfl, hL, hb⟩

/-- strings.IndexByte at a slash. -/
theorem slash_any (s : ByteArray) (w : World) :
    Calls Tryd.prog 21 #[.string s, .int .u8 47] w fun e w' => w = w' ∧ (((Uq.front 47 (numsOf s)).length < s.size ∧ e = .returned (.int .i64 (Uq.front 47 (numsOf s)).length)) ∨ (Uq.front 47 (numsOf s) = numsOf s ∧ e = .returned (.int .i64 (-1)))) := by
  refine (Any.strings_IndexByte (P := Tryd.prog) (ρ := lays137_ren) lays137 s 47 w).mono fun e w' ⟨he, hw⟩ => ⟨hw.symm, ?_⟩
  have e47 : (47 : Int).toNat.toUInt8 = (47 : UInt8) := rfl
  rw [e47] at he
  have hge := Lib.indexByte_ge s.data.toList 47
  by_cases hm : Lib.indexByte s.data.toList 47 = -1
  · exact .inr ⟨(Uq.front_none (l := numsOf s) (b := 47) (at_none hm)).1, by rw [he, hm]⟩
  · obtain ⟨i, hi⟩ : ∃ i : Nat, Lib.indexByte s.data.toList 47 = (i : Int) := ⟨(Lib.indexByte s.data.toList 47).toNat, by omega⟩
    obtain ⟨g1, g2⟩ := at_some hi
    have hlt : i < s.size := by
      have := congrArg List.length g1
      rw [List.length_append, List.length_take, List.length_cons, List.length_drop] at this
      have e : s.data.toList.length = s.size := by rw [Array.length_toList]; rfl
      omega
    have hsz : numsOf s = (numsOf s).take i ++ 47 :: (numsOf s).drop (i + 1) := by
      have := congrArg (List.map fun u : UInt8 => u.toNat) g1
      rw [List.map_append, List.map_cons, List.map_take, List.map_drop] at this
      exact this
    obtain ⟨h1, _⟩ := Uq.front_eq (l := numsOf s) (b := 47) (a := (numsOf s).take i) (r := (numsOf s).drop (i + 1)) (fun x hx => g2 x (by rw [List.map_take]; exact hx)) hsz
    have hl : (Uq.front 47 (numsOf s)).length = i := by rw [h1, List.length_take, numsOf_length]; omega
    exact .inl ⟨by rw [hl]; exact hlt, by rw [he, hi, hl]⟩

theorem itoa_beq (v : Int) (s : ByteArray) : ((⟨(Lib.itoa v).toArray⟩ : ByteArray).toList == s.toList) = decide (Lib.itoa v = s.data.toList) := by
  rw [Bool.eq_iff_iff, beq_iff_eq, decide_eq_true_iff, ByteArray.toList_eq, ByteArray.toList_eq]

theorem below_grown' (w : World) (k : Nat) (os : Array Obj) : Below w.heap.size w (Go.Sort.grow (w.drewN k) os) :=
  ⟨rfl, rfl, rfl, by show w.heap.size ≤ (w.heap ++ os).size; rw [Array.size_append]; omega, fun j hj => Go.Sort.heap_grow_old (w.drewN k) os hj⟩
/-- What a text's number is. -/
def AtoiEnd (s : ByteArray) (w : World) (e : Ending) (w' : World) : Prop :=
  Below w.heap.size w w' ∧ ((∃ v : Int, Lib.atoiAll s.data.toList = .ok v ∧ -9223372036854775808 ≤ v ∧ v ≤ 9223372036854775807 ∧ e = .returned (.tuple #[.int .i64 v, .nilIface])) ∨ (Uq.numOk (numsOf s) = false ∧ ∃ (v : Int) (t : TypeId) (p : Value), e = .returned (.tuple #[.int .i64 v, .iface t p])))
theorem atoi_any (s : ByteArray) (w : World) (hs : s.size ≤ 4096) (hH : Held w) :
    Calls Tryd.prog 56 #[.string s] w fun e w' => AtoiEnd s w e w' := by
  obtain ⟨_, ⟨t1, p1, v1⟩, t2, p2, v2⟩ := hH
  cases h : Lib.atoiAll s.data.toList
  · rename_i v
    obtain ⟨b0, b1⟩ := Lib.atoiAll_bounds h
    refine (Any.strconv_Atoi_ok (P := Tryd.prog) (ρ := laysC172_ren) laysC172 s (by omega) v h w).mono fun e w' ⟨he, hw⟩ => ⟨?_, .inl ⟨v, h, b0, b1, he⟩⟩
    rcases hw with rfl | ⟨t, rfl⟩
    · exact Below.refl _ _
    · exact Lib.bytesWorld_below _ _ _
  · refine (Any.strconv_Atoi_syntax_var (P := Tryd.prog) (ρ := laysC172_ren) laysC172 s (by omega) h t1 p1 w v1).mono fun e w' ⟨N, he, _, _, hb⟩ => ⟨hb, .inr ⟨Uq.num_no (l := s.data.toList) fun v hv => ?_, _, _, _, he⟩⟩
    rw [h] at hv; cases hv
  · refine (Any.strconv_Atoi_range_var (P := Tryd.prog) (ρ := laysC172_ren) laysC172 s (by omega) h t2 p2 w v2).mono fun e w' ⟨N, he, _, _, hb⟩ => ⟨hb, .inr ⟨Uq.num_no (l := s.data.toList) fun v hv => ?_, _, _, _, he⟩⟩
    rw [h] at hv; cases hv
theorem itoa_any (v : Int) (h0 : -9223372036854775808 ≤ v) (h1 : v ≤ 9223372036854775807) (w : World) (hH : Held w) :
    Calls Tryd.prog 57 #[.int .i64 v] w fun e w' => e = .returned (.string ⟨(Lib.itoa v).toArray⟩) ∧ Below w.heap.size w w' :=
  (Any.strconv_Itoa (P := Tryd.prog) (ρ := laysM171_ren) laysM171 v h0 h1 w hH.1).mono fun e w' ⟨he, k, os, hw⟩ => ⟨he, by rw [hw]; exact below_grown' w k os⟩
end Go.Proofs.YtejmkijnngkoaaaDoor
