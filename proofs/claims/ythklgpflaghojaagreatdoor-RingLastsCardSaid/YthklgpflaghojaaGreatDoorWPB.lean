/-
  WPB: WKid WSmall WMac WLay WLib WDecd, side by side.
-/
import Derived.Test.YthklgpflaghojaaGreatDoorWPA
import Derived.Test.YthklgpflaghojaaGreatDoorQM
import Derived.WalkMore
import Derived.Outline
import Derived.Test.YthklgpflaghojaaGreatDoorQT1
import Derived.Test.YthklgpflaghojaaGreatDoorQR3
import Derived.Lib.ConvBytes
import Derived.Deep.RegionWith
import Derived.Shelf.Strings.Split
import Derived.Test.YthklgpflaghojaaGreatDoorProg
import Derived.Test.YthklgpflaghojaaGreatDoorQP
import Derived.Test.YthklgpflaghojaaGreatDoorQB
import Derived.RegionTactic

/-
  The contracts of isKid and of the document's Named.
-/
namespace Go.Proofs.YthklgpflaghojaaGreatDoor
open Go.RowKit

theorem mem_getD {S : List Nat} {P : Nat → Prop} (h : ∀ j, j < S.length → P (S.getD j 0)) : ∀ c ∈ S, P c := by
  intro c hc
  obtain ⟨j, hj, rfl⟩ := List.getElem_of_mem hc
  have := h j hj
  rwa [List.getD_eq_getElem?_getD, List.getElem?_eq_getElem hj] at this
theorem getD_mem'' {S : List Nat} {k : Nat} (h : k < S.length) : S.getD k 0 ∈ S := by
  rw [List.getD_eq_getElem?_getD, List.getElem?_eq_getElem h]
  exact List.getElem_mem _
/-- What isKid answers. -/
def KidEnd (S : List Nat) (w : World) (e : Ending) (w' : World) : Prop := w = w' ∧ ((Wq.KidOk S ∧ e = .returned (.bool true)) ∨ (¬ Wq.KidOk S ∧ e = .returned (.bool false)))

set_option maxHeartbeats 1000000 in
set_option maxRecDepth 100000 in
theorem isKid_any (s : ByteArray) (w : World) :
    Calls Tryz.prog 58 #[.string s] w (KidEnd (numsOf s) w) := by
  have Hlen := Lib.hid (numsOf_length s)
  by_cases h0 : s.size = 0
  · obtain rfl : s = ByteArray.empty := by
      apply ByteArray.ext
      exact Array.eq_empty_of_size_eq_zero h0
    have HE : Hid (¬ Wq.KidOk (numsOf ByteArray.empty)) := fun h => absurd h.1 (by decide)
    clear h0
    go_enter Tryz.func58, Tryz.ntmps58
    go_wp2
    go_ret
    exact ⟨rfl, .inr ⟨HE.out, rfl⟩⟩
  have hne : s.toList ≠ [] := fun h => h0 (by
    have := congrArg List.length h
    rw [ByteArray.toList_eq] at this
    simpa using this)
  have hne2 : s.toList.isEmpty = false := by cases h : s.toList with | nil => exact absurd h hne | cons => rfl
  by_cases h64 : 64 < s.size
  · have hd : decide ((64 : Int) < (s.size : Int)) = true := decide_eq_true (by omega)
    have HE : Hid (¬ Wq.KidOk (numsOf s)) := fun h => absurd h.2.1 (by rw [Hlen.out]; omega)
    clear h0
    go_enter Tryz.func58, Tryz.ntmps58
    go_wp2
    go_ret
    exact ⟨rfl, .inr ⟨HE.out, rfl⟩⟩
  have hd : decide ((64 : Int) < (s.size : Int)) = false := decide_eq_false (by omega)
  go_enter Tryz.func58, Tryz.ntmps58
  go_wp2_with fail
  go_loop [13] (fun i => ∃ k : Nat, i = .int .i64 k ∧ k ≤ s.size ∧ Hid (∀ j, j < k → 33 ≤ (numsOf s).getD j 0 ∧ (numsOf s).getD j 0 ≤ 126)) (fun i => s.size - (intOf i).toNat)
  case atStart => exact ⟨0, rfl, Nat.zero_le _, fun j hj => by omega⟩
  case round =>
    obtain ⟨k, rfl, hk, Hno⟩ := hrel
    by_cases hlt : k < s.size
    · have hX := Lib.hid (nums_at s k hlt)
      have HN : Hid (¬ (33 ≤ s[k].toNat ∧ s[k].toNat ≤ 126) → ¬ Wq.KidOk (numsOf s)) := fun hn h => by
        have := h.2.2 _ (getD_mem'' (S := numsOf s) (k := k) (by rw [Hlen.out]; exact hlt))
        rw [hX.out] at this
        exact hn this
      by_cases h1 : s[k].toNat < 33
      · have HE := Lib.hid (HN.out (by omega))
        go_wp2
        go_ret
        exact ⟨rfl, .inr ⟨HE.out, rfl⟩⟩
      · by_cases h2 : 126 < s[k].toNat
        · have HE := Lib.hid (HN.out (by omega))
          go_wp2
          go_ret
          exact ⟨rfl, .inr ⟨HE.out, rfl⟩⟩
        · have HC : Hid (∀ j, j < k + 1 → 33 ≤ (numsOf s).getD j 0 ∧ (numsOf s).getD j 0 ≤ 126) := fun j hj => by
            rcases Nat.lt_or_eq_of_le (Nat.le_of_lt_succ hj) with h | h
            · exact Hno.out j h
            · rw [h, hX.out]; omega
          go_wp2
          go_round
          case rel => exact ⟨k + 1, by go_num, by omega, HC⟩
          case measure => simp [intOf]; omega
    · obtain rfl : k = s.size := by omega
      have hdl : decide ((s.size : Int) < (s.size : Int)) = false := by simp
      have HC : Hid (Wq.KidOk (numsOf s)) := ⟨by rw [Hlen.out]; omega, by rw [Hlen.out]; omega, mem_getD (P := fun c => 33 ≤ c ∧ c ≤ 126) fun j hj => Hno.out j (by rwa [Hlen.out] at hj)⟩
      go_wp2
      go_ret
      exact ⟨rfl, .inl ⟨HC.out, rfl⟩⟩

set_option maxHeartbeats 1000000 in
set_option maxRecDepth 100000 in
theorem named8_any (s : ByteArray) (w : World) :
    Calls Tryz.prog 25 #[.string s] w (KidEnd (numsOf s) w) := by
  have Hlen := Lib.hid (numsOf_length s)
  by_cases h0 : s.size < 1
  · have hd : decide ((s.size : Int) < 1) = true := decide_eq_true (by omega)
    have HE : Hid (¬ Wq.KidOk (numsOf s)) := fun h => absurd h.1 (by rw [Hlen.out]; omega)
    go_enter Tryz.func25, Tryz.ntmps25
    go_wp2
    go_ret
    exact ⟨rfl, .inr ⟨HE.out, rfl⟩⟩
  have hd0 : decide ((s.size : Int) < 1) = false := decide_eq_false (by omega)
  by_cases h64 : 64 < s.size
  · have hd : decide ((64 : Int) < (s.size : Int)) = true := decide_eq_true (by omega)
    have HE : Hid (¬ Wq.KidOk (numsOf s)) := fun h => absurd h.2.1 (by rw [Hlen.out]; omega)
    go_enter Tryz.func25, Tryz.ntmps25
    go_wp2
    go_ret
    exact ⟨rfl, .inr ⟨HE.out, rfl⟩⟩
  have hd : decide ((64 : Int) < (s.size : Int)) = false := decide_eq_false (by omega)
  go_enter Tryz.func25, Tryz.ntmps25
  go_wp2_with fail
  go_loop [3] (fun i => ∃ k : Nat, i = .int .i64 k ∧ k ≤ s.size ∧ Hid (∀ j, j < k → 33 ≤ (numsOf s).getD j 0 ∧ (numsOf s).getD j 0 ≤ 126)) (fun i => s.size - (intOf i).toNat)
  case atStart => exact ⟨0, rfl, Nat.zero_le _, fun j hj => by omega⟩
  case round =>
    obtain ⟨k, rfl, hk, Hno⟩ := hrel
    by_cases hlt : k < s.size
    · have hX := Lib.hid (nums_at s k hlt)
      have HN : Hid (¬ (33 ≤ s[k].toNat ∧ s[k].toNat ≤ 126) → ¬ Wq.KidOk (numsOf s)) := fun hn h => by
        have := h.2.2 _ (getD_mem'' (S := numsOf s) (k := k) (by rw [Hlen.out]; exact hlt))
        rw [hX.out] at this
        exact hn this
      by_cases h1 : s[k].toNat < 33
      · have HE := Lib.hid (HN.out (by omega))
        go_wp2
        go_ret
        exact ⟨rfl, .inr ⟨HE.out, rfl⟩⟩
      · by_cases h2 : 126 < s[k].toNat
        · have HE := Lib.hid (HN.out (by omega))
          go_wp2
          go_ret
          exact ⟨rfl, .inr ⟨HE.out, rfl⟩⟩
        · have HC : Hid (∀ j, j < k + 1 → 33 ≤ (numsOf s).getD j 0 ∧ (numsOf s).getD j 0 ≤ 126) := fun j hj => by
            rcases Nat.lt_or_eq_of_le (Nat.le_of_lt_succ hj) with h | h
            · exact Hno.out j h
            · rw [h, hX.out]; omega
          go_wp2
          go_round
          case rel => exact ⟨k + 1, by go_num, by omega, HC⟩
          case measure => simp [intOf]; omega
    · obtain rfl : k = s.size := by omega
      have hdl : decide ((s.size : Int) < (s.size : Int)) = false := by simp
      have HC : Hid (Wq.KidOk (numsOf s)) := ⟨by rw [Hlen.out]; omega, by rw [Hlen.out]; omega, mem_getD (P := fun c => 33 ≤ c ∧ c ≤ 126) fun j hj => Hno.out j (by rwa [Hlen.out] at hj)⟩
      go_wp2
      go_ret
      exact ⟨rfl, .inl ⟨HC.out, rfl⟩⟩
end Go.Proofs.YthklgpflaghojaaGreatDoor

/-
  The contracts of joined, encoded, macOf, and of the document's Letters and Mac.
-/
namespace Go.Proofs.YthklgpflaghojaaGreatDoor
open Go.RowKit

theorem strOf_dot (a b : List Nat) : strOf a ++ { data := #[46] } ++ strOf b = strOf (a ++ 46 :: b) := by
  rw [show ({ data := #[46] } : ByteArray) = strOf [46] from rfl, strOf_append, strOf_append, List.append_assoc]
  rfl
theorem conv_arg (s : ByteArray) (W : World) (hs : s.size ≤ 140737488355328) : ∃ A c w', (convert 9 27 (.string s)).run Tryz.prog W = .ok (.slice A s.size c) w' ∧ ArgIs w' A c (numsOf s) ∧ Below W.heap.size W w' := by
  refine ⟨_, _, _, Lib.run_convert_string_bytes (P := Tryz.prog) W 9 27 5 s Tryz.underlying9 Tryz.underlying27 Tryz.underlying5, ?_, ⟨rfl, rfl, rfl, by rw [Lib.bytesWorld_size]; omega, fun j hj => Lib.bytesWorld_at_old W _ s j hj⟩⟩
  have h1 := grownCap_ge W s.size 0 5
  have h2 := grownCap_le_maxLen W s.size 0 5 (by unfold maxLen; omega)
  unfold maxLen at h2
  refine ⟨by rw [numsOf_length]; exact h1, by omega, numsOf_lt s, fun _ => ⟨W.heap.size, 0, rfl, by rw [Lib.bytesWorld_size]; omega, fun j x hj => ?_⟩⟩
  have hjl : j < s.size := by
    have := (List.getElem?_eq_some_iff.1 hj).1
    rwa [numsOf_length] at this
  refine ⟨numsOf_lt s x (List.mem_of_getElem? hj), ?_⟩
  rw [Nat.zero_add, Lib.bytesWorld_cell W _ s j hjl]
  congr 2
  have h' : j < s.data.toList.length := by simpa using hjl
  simp only [numsOf, List.getElem?_map, List.getElem?_eq_getElem h', Option.map_some, Option.some.injEq] at hj
  rw [← hj, List.getD_eq_getElem?_getD, List.getElem?_eq_getElem h']
  rfl

section
variable {ops : Array Oper} {rest : List Oper} {o : Oper} {a : Act} {Q : Exit → Act → World → Prop} {w : World}
/-- A text as bytes. -/
theorem conv_here (hgd : o.guard = none) (x : Operand) (ho : o.op = .convert 9 27 x) (X : ByteArray) (hx : a.eval x = .string X) (hs : X.size ≤ 140737488355328)
    (hK : ∀ w' A c, ArgIs w' A c (numsOf X) → Below w.heap.size w w' → wpList Tryz.prog ops Q rest (a.put o.dst (.slice A X.size c)) w') : wpList Tryz.prog ops Q (o :: rest) a w := by
  refine wpList_plain hgd fun K hK' => ?_
  obtain ⟨A, c, w', hr, harg, hb⟩ := conv_arg X w hs
  unfold Oper.wp
  rw [execOp, ho]
  simp [hx, hr, Result.andThen]
  exact hK' _ _ (hK _ _ _ harg hb)
end
end Go.Proofs.YthklgpflaghojaaGreatDoor

/-
  The contracts of macOf and Verify.
-/
namespace Go.Proofs.YthklgpflaghojaaGreatDoor
open Go.RowKit

set_option maxHeartbeats 1000000 in
set_option maxRecDepth 100000 in
theorem macOf_any (k : List Nat) (A : Option Addr) (c : Nat) (s : ByteArray) (w : World) (hT : Tab w) (hk : ArgIs w A c k) (hn : k.length ≤ 140737488355328) (hs : s.size ≤ 140737488355328) :
    Calls Tryz.prog 36 #[.slice A k.length c, .string s] w fun e w' => e = .returned (.agg (u8s (Sha.mac k (numsOf s))).toArray) ∧ Below w.heap.size w w' := by
  have hz := zero25
  have Hlen := Lib.hid (numsOf_length s)
  go_enter Tryz.func36, Tryz.ntmps36
  repeat ((fail_if_success (with_reducible show wpList _ _ _ (⟨some 7, _, _, _, _, _⟩ :: _) _ _)); first | go_values | go_skip | go_guarded | go_step | go_upon | go_back | go_simp)
  with_reducible refine conv_here rfl (.tmp 6) rfl s ?s1 hs ?_
  case s1 => rfl
  intro w1 A' c' harg hb1
  have hb0 : Below w.heap.size w (w.alloc (.cells (z8 32).toArray 71)) := (Below.refl _ _).alloc (Nat.le_refl _) _
  have h01 : Lies w1 w.heap.size 71 (z8 32) := (Lies.made w _ (z8 32)).below hb1 (by simp)
  have hbel1 : Below w.heap.size w w1 := hb0.trans (hb1.mono hb0.size)
  have hM := mac_any k (numsOf s) A A' c c' w1 (hT.below hbel1 hT.lt) (hk.below hbel1 (Nat.le_refl _)) harg (by omega) (by rw [Hlen.out]; omega)
  rw [Hlen.out] at hM
  clear hb0 hb1 harg hz
  go_frame
  go_wp2_with fail
  refine hM.mono ?_
  rintro e w2 ⟨rfl, hb2⟩
  have h02 := h01.below hb2 h01.lt
  have hbel2 : Below w.heap.size w w2 := hbel1.trans (hb2.mono hbel1.size)
  have Hl32 : Hid ((u8s (Sha.mac k (numsOf s))).length = 32) := by unfold Hid; rw [u8s_length, Wq.mac_length]
  have Hone : Hid ((u8s (Sha.mac k (numsOf s))).all (·.oneCell') = true) := List.all_eq_true.2 (u8s_one _)
  obtain ⟨D, hDe⟩ : ∃ D, u8s (Sha.mac k (numsOf s)) = D := ⟨_, rfl⟩
  rw [hDe] at Hl32 Hone ⊢
  have HDe := Lib.hid hDe
  clear hDe hb2 h01 hbel1 hM
  repeat ((fail_if_success (with_reducible show wpList _ _ _ (⟨none, _, _, _, _, _⟩ :: _) _ _)); first | go_values | go_skip | go_guarded | go_step | go_upon | go_back | go_simp)
  with_reducible refine store_lies rfl 71 (.tmp 4) (.tmp 8) rfl w.heap.size D 71 (z8 32) h02 ?sx ?sy ?si ?sl ?so ?_
  case sx => rfl
  case sy => rfl
  case si => (rw [z8_length]; exact info25)
  case sl => rw [Hl32.out, z8_length]
  case so => exact Hone.out
  go_wp2
  refine bodyPost_ret (results_one Tryz.results36 _ _ w.heap.size 71 D _ rfl h02.row Tryz.underlying71 rfl (by rw [Hl32.out]; exact info25)) rfl ⟨?_, below_row hbel2 (Nat.le_refl _)⟩
  rw [HDe.out]

theorem drewN_below8 {B : Nat} (w : World) (n : Nat) : Below B w (w.drewN n) := ⟨rfl, rfl, rfl, Nat.le_refl _, fun _ _ => rfl⟩
theorem sha_mac_lt (k q : List Nat) : ∀ x ∈ Sha.mac k q, x < 256 := Sha.sum_lt _

/-- A token's nine cells. -/
abbrev tokv (kid : ByteArray) (k : Int) (b : Bool) (n : Int) (t : ByteArray) (names list : Value) (sg : ByteArray) (mac : Value) : Value := .agg #[.string kid, .int .i64 k, .bool b, .int .i64 n, .string t, names, list, .string sg, mac]

set_option maxHeartbeats 1000000 in
set_option maxRecDepth 100000 in
theorem verify_any (kid sg : ByteArray) (ck : Int) (cb : Bool) (cn : Int) (ct : ByteArray) (B1 B2 : Option Addr) (m1 d1 m2 d2 : Nat) (q k : List Nat) (A A' : Option Addr) (c c' : Nat) (w : World) (hT : Tab w) (hq : ArgIs w A c q) (hk : ArgIs w A' c' k) (hn : k.length ≤ 140737488355328) (hs : sg.size ≤ 140737488355328) :
    Calls Tryz.prog 14 #[tokv kid ck cb cn ct (.slice B1 m1 d1) (.slice B2 m2 d2) sg (.slice A q.length c), .slice A' k.length c'] w fun e w' => e = .returned (.bool (decide (q = Sha.mac k (numsOf sg)))) ∧ Below w.heap.size w w' := by
  obtain ⟨W0, eW0⟩ : ∃ W0, W0 = w.alloc (.cells #[.string kid, .int .i64 ck, .bool cb, .int .i64 cn, .string ct, .slice B1 m1 d1, .slice B2 m2 d2, .string sg, .slice A q.length c] 29) := ⟨_, rfl⟩
  have hb0 : Below w.heap.size w W0 := by rw [eW0]; exact (Below.refl _ _).alloc (Nat.le_refl _) _
  have hl0 : Lies W0 w.heap.size 29 [.string kid, .int .i64 ck, .bool cb, .int .i64 cn, .string ct, .slice B1 m1 d1, .slice B2 m2 d2, .string sg, .slice A q.length c] := by rw [eW0]; exact Lies.new_ rfl
  have hM := macOf_any k A' c' sg W0 (hT.below hb0 hT.lt) (hk.below hb0 (Nat.le_refl _)) hn hs
  rw [eW0] at hM
  have HW0 := Lib.hid eW0
  have HL0 := Lib.hid hl0
  have HB0 := Lib.hid hb0
  have HQ := Lib.hid hq
  clear hk hq hb0 hl0 eW0
  go_enter Tryz.func14, Tryz.ntmps14
  go_wp2_with fail
  refine hM.mono ?_
  rintro e w1 ⟨rfl, hb1⟩
  clear hM
  rw [← HW0.out] at hb1
  have hz := zero25
  have hl1 := HL0.out.below hb1 HL0.out.lt
  have hbel1 : Below w.heap.size w w1 := HB0.out.trans (hb1.mono HB0.out.size)
  have hl1s := hl1.lt
  have Hl32 : Hid ((Sha.mac k (numsOf sg)).length = 32) := Wq.mac_length _ _
  have Hlt : Hid (∀ x ∈ Sha.mac k (numsOf sg), x < 256) := sha_mac_lt _ _
  obtain ⟨D, hDe⟩ : ∃ D, Sha.mac k (numsOf sg) = D := ⟨_, rfl⟩
  rw [hDe] at Hl32 Hlt ⊢
  have Hone : Hid ((u8s D).all (·.oneCell') = true) := List.all_eq_true.2 (u8s_one _)
  have HDe := Lib.hid hDe
  clear hDe hb1
  repeat ((fail_if_success (with_reducible show wpList _ _ _ (⟨none, _, _, _, _, _⟩ :: _) _ _)); first | go_values | go_skip | go_guarded | go_step | go_upon | go_back | go_simp)
  with_reducible refine store_lies rfl 71 (.tmp 5) (.tmp 9) rfl w1.heap.size (u8s D) 71 (z8 32) (Lies.new_ rfl) ?sx ?sy ?si ?sl ?so ?_
  case sx => rfl
  case sy => rfl
  case si => (rw [z8_length]; exact info25)
  case sl => rw [u8s_length, Hl32.out, z8_length]
  case so => exact Hone.out
  generalize hw2 : World.setRow _ _ _ = w2
  have hl2 : Lies w2 w.heap.size 29 [.string kid, .int .i64 ck, .bool cb, .int .i64 cn, .string ct, .slice B1 m1 d1, .slice B2 m2 d2, .string sg, .slice A q.length c] := by rw [← hw2]; exact (hl1.alloc _).farRow (by omega)
  have hD2 : Lies w2 w1.heap.size 71 (u8s D) := by rw [← hw2]; exact Lies.row (cs := z8 32) (Lies.new_ rfl)
  have hbel2 : Below w.heap.size w w2 := by rw [← hw2]; exact below_row (hbel1.alloc hbel1.size _) (by omega)
  clear hw2
  have hargD : ArgIs w2 (some ⟨w1.heap.size, 0, none⟩) 32 D := arg_lies hD2 Hlt.out (by rw [Hl32.out]; exact Nat.le_refl _) (by decide)
  have hargQ := HQ.out.below hbel2 (Nat.le_refl _)
  have hS := fun W (h1 : ArgIs W A c q) (h2 : ArgIs W (some ⟨w1.heap.size, 0, none⟩) 32 D) => bytesSame_any q D A (some ⟨w1.heap.size, 0, none⟩) c 32 W h1 h2
  rw [Hl32.out] at hS
  have c8 := hl2.cell 8
  have HS := Lib.hid hS
  have HB2 := Lib.hid hbel2
  clear hl1 hl1s hbel1 hz hl2 hD2 hS HL0 HQ
  go_frame
  go_upto_region 2 with (fail)
  go_region_held3 (fun W => W.cell? ⟨w.heap.size, 8, none⟩ = some (.slice A q.length c) ∧ ArgIs W A c q ∧ ArgIs W (some ⟨w1.heap.size, 0, none⟩) 32 D ∧ Below w.heap.size w W)
    (first
      | (go_split_ands; exact ⟨by assumption, by assumption, by assumption, Below.drew (by assumption)⟩)
      | (go_split_ands; exact ⟨by assumption, by assumption, by assumption, (by assumption : Below w.heap.size w _).trans (drewN_below8 _ _)⟩))
    (first | (go_at_call 37; go_split_ands; refine (HS.out _ (by assumption) (by assumption)).mono ?_; rintro e wa ⟨rfl, kk, rfl⟩))
  go_wp2
  go_ret
  exact ⟨by rw [HDe.out]; rfl, HB2.out.trans (drewN_below8 _ _)⟩
end Go.Proofs.YthklgpflaghojaaGreatDoor

/-
  The library's functions at this program: where they stand in it (strings.Split with all that it calls).
-/
namespace Go.Proofs.YthklgpflaghojaaGreatDoor
open Go.Shelf
def lays146_ren : Go.Shelf.Ren := ⟨fun | 146 => 52 | 221 => 69 | 268 => 92 | 138 => 51 | 143 => 68 | 195 => 66 | 197 => 115 | 218 => 67 | 219 => 91 | 260 => 133 | 217 => 111 | 225 => 112 | 224 => 113 | 267 => 114 | 266 => 131 | 314 => 132 | n => n, fun | 9 => 9 | 31 => 23 | 3 => 3 | 4 => 4 | 0 => 0 | 105 => 139 | 21 => 21 | 5 => 5 | 46 => 84 | 119 => 178 | 139 => 181 | 138 => 180 | 146 => 126 | 51 => 101 | n => n, fun | 1 => 0 | 3 => 2 | 4 => 3 | n => n⟩
set_option maxRecDepth 100000 in
theorem lays146 : Go.Proofs.Lays.n146 Tryz.prog lays146_ren := {
  mixed := by kernel_rfl
  f138 := Tryz.func51.trans (congrArg some (by kernel_rfl))
  f143 := Tryz.func68.trans (congrArg some (by kernel_rfl))
  f146 := Tryz.func52.trans (congrArg some (by kernel_rfl))
  f195 := Tryz.func66.trans (congrArg some (by kernel_rfl))
  f197 := Tryz.func115.trans (congrArg some (by kernel_rfl))
  f217 := Tryz.func111.trans (congrArg some (by kernel_rfl))
  f218 := Tryz.func67.trans (congrArg some (by kernel_rfl))
  f219 := Tryz.func91.trans (congrArg some (by kernel_rfl))
  f221 := Tryz.func69.trans (congrArg some (by kernel_rfl))
  f224 := Tryz.func113.trans (congrArg some (by kernel_rfl))
  f225 := Tryz.func112.trans (congrArg some (by kernel_rfl))
  f260 := Tryz.func133.trans (congrArg some (by kernel_rfl))
  f266 := Tryz.func131.trans (congrArg some (by kernel_rfl))
  f267 := Tryz.func114.trans (congrArg some (by kernel_rfl))
  f268 := Tryz.func92.trans (congrArg some (by kernel_rfl))
  f314 := Tryz.func132.trans (congrArg some (by kernel_rfl))
  t0 := Tryz.underlying0
  a0 := Tryz.isAgg0
  z0 := Tryz.sizeOf0
  v0 := Tryz.zeroValue0
  t3 := Tryz.underlying3
  a3 := Tryz.isAgg3
  z3 := Tryz.sizeOf3
  v3 := Tryz.zeroValue3
  t4 := Tryz.underlying4
  a4 := Tryz.isAgg4
  z4 := Tryz.sizeOf4
  v4 := Tryz.zeroValue4
  t5 := Tryz.underlying5
  a5 := Tryz.isAgg5
  z5 := Tryz.sizeOf5
  v5 := Tryz.zeroValue5
  t9 := Tryz.underlying9
  a9 := Tryz.isAgg9
  z9 := Tryz.sizeOf9
  v9 := Tryz.zeroValue9
  t21 := Tryz.underlying21
  a21 := Tryz.isAgg21
  z21 := Tryz.sizeOf21
  v21 := Tryz.zeroValue21
  t31 := Tryz.underlying23
  a31 := Tryz.isAgg23
  z31 := Tryz.sizeOf23
  v31 := Tryz.zeroValue23
  t46 := Tryz.underlying84
  a46 := Tryz.isAgg84
  z46 := Tryz.sizeOf84
  v46 := Tryz.zeroValue84
  t51 := Tryz.underlying101
  a51 := Tryz.isAgg101
  z51 := Tryz.sizeOf101
  v51 := Tryz.zeroValue101
  t105 := Tryz.underlying139
  a105 := Tryz.isAgg139
  z105 := Tryz.sizeOf139
  v105 := Tryz.zeroValue139
  t119 := Tryz.underlying178
  a119 := Tryz.isAgg178
  z119 := Tryz.sizeOf178
  t138 := Tryz.underlying180
  a138 := Tryz.isAgg180
  z138 := Tryz.sizeOf180
  v138 := Tryz.zeroValue180
  t139 := Tryz.underlying181
  a139 := Tryz.isAgg181
  z139 := Tryz.sizeOf181
  v139 := Tryz.zeroValue181
  t146 := Tryz.underlying126
  a146 := Tryz.isAgg126
  z146 := Tryz.sizeOf126
  v146 := Tryz.zeroValue126
  g1 := by kernel_rfl
  g3 := by kernel_rfl
  g4 := by kernel_rfl }
end Go.Proofs.YthklgpflaghojaaGreatDoor

/-
  The library's strings.Count, Split and LastIndex at a byte; the document's Parts at a dot.
-/
namespace Go.Proofs.YthklgpflaghojaaGreatDoor
open Go.RowKit
theorem at_none {l : List UInt8} {c : UInt8} (h : Lib.indexByte l c = -1) : ∀ x ∈ l.map (fun u : UInt8 => u.toNat), x ≠ c.toNat := by
  intro x hx
  obtain ⟨u, hu, rfl⟩ := List.mem_map.1 hx
  obtain ⟨k, hk, rfl⟩ := List.getElem_of_mem hu
  intro e
  exact Lib.indexByte_none h k (by rw [List.getElem?_eq_getElem hk, UInt8.toNat_inj.1 e])
theorem at_some {l : List UInt8} {c : UInt8} {i : Nat} (h : Lib.indexByte l c = (i : Int)) : l = l.take i ++ c :: l.drop (i + 1) ∧ ∀ x ∈ (l.take i).map (fun u : UInt8 => u.toNat), x ≠ c.toNat := by
  obtain ⟨h1, h2⟩ := Lib.indexByte_some h
  obtain ⟨hi, he⟩ := List.getElem?_eq_some_iff.1 h1
  refine ⟨?_, ?_⟩
  · conv => lhs; rw [← List.take_append_drop i l, List.drop_eq_getElem_cons hi, he]
  · intro x hx
    obtain ⟨u, hu, rfl⟩ := List.mem_map.1 hx
    obtain ⟨k, hk, rfl⟩ := List.getElem_of_mem hu
    have hk' : k < i := by rw [List.length_take] at hk; omega
    intro e
    refine h2 k hk' ?_
    rw [List.getElem_take] at e
    rw [List.getElem?_eq_getElem (by rw [List.length_take] at hk; omega), UInt8.toNat_inj.1 e]
theorem splitK_partsB (c : UInt8) : ∀ (k : Nat) (l : List UInt8), l.count c = k → (Lib.splitK [c] 0 k l).map (fun p => p.map fun u : UInt8 => u.toNat) = Uq.parts c.toNat (l.map fun u : UInt8 => u.toNat)
  | 0, l, h => by
    have hn : ∀ x ∈ l.map (fun u : UInt8 => u.toNat), x ≠ c.toNat := by
      intro x hx
      obtain ⟨u, hu, rfl⟩ := List.mem_map.1 hx
      intro e
      have : u = c := UInt8.toNat_inj.1 e
      subst this
      exact absurd h (Nat.ne_of_gt (List.count_pos_iff.2 hu))
    rw [Lib.splitK, Uq.parts_free hn]
    rfl
  | k + 1, l, h => by
    rw [Lib.splitK]
    by_cases hm : Lib.index l [c] = -1
    · rw [if_pos (beq_iff_eq.2 hm), Uq.parts_free (at_none (c := c) (by rw [← Lib.index_one]; exact hm))]
      rfl
    · rw [if_neg (fun e => hm (beq_iff_eq.1 e))]
      obtain ⟨i, hi⟩ : ∃ i : Nat, Lib.indexByte l c = (i : Int) := by
        have h1 := Lib.indexByte_ge l c
        rw [Lib.index_one] at hm
        exact ⟨(Lib.indexByte l c).toNat, by omega⟩
      obtain ⟨h1, h2⟩ := at_some hi
      rw [Lib.index_one, hi, Int.toNat_natCast, List.map_cons]
      have hc : (l.drop (i + 1)).count c = k := by
        have e := congrArg (List.count c) h1
        rw [List.count_append, List.count_cons_self, List.count_eq_zero_of_not_mem (l := l.take i) (fun hm => h2 c.toNat (List.mem_map.2 ⟨c, hm, rfl⟩) rfl), h] at e
        omega
      have ih := splitK_partsB c k (l.drop (i + 1)) hc
      have hl1 : ([c] : List UInt8).length = 1 := rfl
      rw [Nat.add_zero, hl1, ih]
      conv => rhs; rw [h1]
      rw [List.map_append, List.map_cons]
      exact (Uq.parts_first h2 _).symm
theorem split_partsB (c : UInt8) (s : ByteArray) : Lib.splitB { data := #[c] } 0 (Lib.countB s { data := #[c] }) s = (Uq.parts c.toNat (numsOf s)).map strOf := by
  have h := Lib.splitB_data { data := #[c] } 0 (Lib.countB s { data := #[c] }) s
  have hc : s.data.toList.count c = Lib.countB s { data := #[c] } := (Lib.count_one c s.data.toList).symm
  have h2 := splitK_partsB c _ s.data.toList hc
  rw [← show (Lib.splitB { data := #[c] } 0 (Lib.countB s { data := #[c] }) s).map (·.data.toList) = Lib.splitK [c] 0 (Lib.countB s { data := #[c] }) s.data.toList from h, List.map_map] at h2
  have h3 : (Lib.splitB { data := #[c] } 0 (Lib.countB s { data := #[c] }) s).map numsOf = Uq.parts c.toNat (numsOf s) := h2
  rw [← h3, List.map_map]
  conv => lhs; rw [← List.map_id (Lib.splitB { data := #[c] } 0 (Lib.countB s { data := #[c] }) s)]
  exact List.map_congr_left fun x _ => (strOf_numsOf x).symm

set_option maxRecDepth 100000 in
set_option maxHeartbeats 1000000 in
theorem splitB_any (c : UInt8) (s : ByteArray) (w : World) (hs : s.size ≤ 1048576) :
    Calls Tryz.prog 52 #[.string s, .string { data := #[c] }] w fun e w' => e = .returned (.slice (some ⟨w.heap.size, 0, none⟩) (Uq.parts c.toNat (numsOf s)).length (Uq.parts c.toNat (numsOf s)).length) ∧ Lies w' w.heap.size 9 (tcells (Uq.parts c.toNat (numsOf s))) ∧ Below w.heap.size w w' := by
  have h1 : 1 ≤ ({ data := #[c] } : ByteArray).size := Nat.le_refl _
  have hle := Lib.countB_le { data := #[c] } h1 s.size s (Nat.le_refl _)
  have hlen := Lib.splitB_all { data := #[c] } h1 0 _ s rfl
  have hC := Any.strings_Count_one (P := Tryz.prog) (ρ := lays146_ren) { lays146 with } s c w
  have hcount : Lib.countB s { data := #[c] } = Lib.countByte s.data.toList c := Lib.count_one c s.data.toList
  have k := Any.strings_genSplit_core (P := Tryz.prog) (ρ := lays146_ren) { lays146 with } (by kernel_rfl) s { data := #[c] } 0 (-1) (Lib.countB s { data := #[c] } + 1) w (by omega) h1 (Nat.zero_le _)
    (fun x cs hx => (Any.strings_Index_one (P := Tryz.prog) (ρ := lays146_ren) { lays146 with } x c _).mono fun e w' ⟨he, hw⟩ => ⟨by rw [he]; show _ = Ending.returned (.int .i64 (Lib.index x.data.toList [c])); rw [Lib.index_one], hw⟩)
    (hC.mono fun e w' ⟨he, hw⟩ => ⟨by rw [he, hcount], hw⟩) (by decide) (by decide) (by rw [if_pos (by decide)]; omega)
  rw [Nat.add_sub_cancel, hlen] at k
  have e2 : Lib.cellsOf (Lib.splitB { data := #[c] } 0 (Lib.countB s { data := #[c] }) s) (Lib.countB s { data := #[c] } + 1) = ((Lib.splitB { data := #[c] } 0 (Lib.countB s { data := #[c] }) s).map Value.string).toArray := by rw [← hlen]; exact Lib.cellsOf_full _
  rw [e2] at k
  rw [split_partsB, List.length_map] at hlen
  rw [split_partsB, ← hlen, List.map_map] at k
  have c' : Calls Tryz.prog 69 #[.string s, .string { data := #[c] }, .int .i64 0, .int .i64 (-1)] w fun e w' => e = .returned (.slice (some ⟨w.heap.size, 0, none⟩) (Uq.parts c.toNat (numsOf s)).length (Uq.parts c.toNat (numsOf s)).length) ∧ w' = w.alloc (.cells (tcells (Uq.parts c.toNat (numsOf s))).toArray 9) := k
  clear k e2 hlen hC hcount hle
  obtain ⟨Q, eQ⟩ : ∃ Q, Uq.parts c.toNat (numsOf s) = Q := ⟨_, rfl⟩
  rw [eQ] at c' ⊢
  clear eQ
  go_enter Tryz.func52, Tryz.ntmps52
  go_wp2_with fail
  refine c'.mono ?_
  rintro e w' ⟨rfl, hw⟩
  have hL : Lies w' w.heap.size 9 (tcells Q) := by rw [hw]; exact Lies.made w _ _
  have hb : Below w.heap.size w w' := by rw [hw]; exact (Below.refl _ _).alloc (Nat.le_refl _) _
  clear hw c'
  go_wp2
  go_ret
  exact ⟨rfl, hL, hb⟩

/-- strings.Count at a dot. -/
theorem countDot_any (s : ByteArray) (w : World) :
    Calls Tryz.prog 51 #[.string s, .string { data := #[46] }] w fun e w' => e = .returned (.int .i64 (((Uq.parts 46 (numsOf s)).length : Int) - 1)) ∧ w = w' := by
  have hlen := Lib.splitB_all { data := #[46] } (Nat.le_refl _) 0 _ s rfl
  rw [split_partsB 46 s, List.length_map] at hlen
  have hcount : Lib.countB s { data := #[46] } = Lib.countByte s.data.toList 46 := Lib.count_one 46 s.data.toList
  refine (Any.strings_Count_one (P := Tryz.prog) (ρ := lays146_ren) { lays146 with } s 46 w).mono fun e w' ⟨he, hw⟩ => ⟨?_, hw.symm⟩
  rw [he, ← hcount]
  have e46 : (46 : UInt8).toNat = 46 := rfl
  rw [e46] at hlen
  rw [hlen]
  congr 2
  omega

set_option maxHeartbeats 1000000 in
set_option maxRecDepth 100000 in
/-- LastIndexByteString at a dot. -/
theorem lastByte_any (s : ByteArray) (a c : List Nat) (hS : numsOf s = a ++ 46 :: c) (hc : ∀ x ∈ c, x ≠ 46) (hs : s.size ≤ 140737488355328) (w : World) :
    Calls Tryz.prog 79 #[.string s, .int .u8 46] w fun e w' => e = .returned (.int .i64 (a.length : Int)) ∧ w = w' := by
  have hl : a.length < s.size := by
    rw [← numsOf_length, hS, List.length_append, List.length_cons]; omega
  have hat : ∀ k, k < s.size → a.length ≤ k → ((numsOf s).getD k 0 = 46 ↔ k = a.length) := by
    intro k hk hak
    rw [← numsOf_length, hS, List.length_append, List.length_cons] at hk
    rw [hS, List.getD_eq_getElem?_getD, List.getElem?_append_right hak]
    rcases Nat.eq_or_lt_of_le hak with h | h
    · rw [← h]; simp
    · obtain ⟨m, rfl⟩ : ∃ m, k = a.length + (m + 1) := ⟨k - a.length - 1, by omega⟩
      rw [Nat.add_sub_cancel_left, List.getElem?_cons_succ, List.getElem?_eq_getElem (by omega)]
      constructor
      · intro h2; exact absurd h2 (hc _ (List.getElem_mem _))
      · intro h2; omega
  have HAT := Lib.hid hat
  obtain ⟨n, en⟩ : ∃ n, a.length = n := ⟨_, rfl⟩
  rw [en] at hl HAT ⊢
  clear hat hS hc en
  go_enter Tryz.func79, Tryz.ntmps79
  go_wp2_with fail
  go_loop [5] (fun i => ∃ k : Nat, i = .int .i64 k ∧ n ≤ k ∧ k < s.size) (fun i => (intOf i).toNat)
  case atStart => exact ⟨s.size - 1, congrArg (Value.int .i64) (by omega), by omega, by omega⟩
  case round =>
    obtain ⟨k, rfl, hnk, hk⟩ := hrel
    have hX := Lib.hid (nums_at s k hk)
    have hA := HAT.out k hk hnk
    rw [hX.out] at hA
    by_cases h46 : s[k].toNat = 46
    · have hd : ((s[k].toNat : Int) == 46) = true := by rw [beq_iff_eq]; omega
      have HE := Lib.hid (hA.1 h46)
      clear h46 hA
      go_wp2
      go_ret
      exact ⟨ret_int (by have := HE.out; omega), rfl⟩
    · have hd : ((s[k].toNat : Int) == 46) = false := by rw [beq_eq_false_iff_ne]; omega
      have hne : n < k := by
        rcases Nat.eq_or_lt_of_le hnk with h | h
        · exact absurd (hA.2 h.symm) h46
        · exact h
      clear h46 hA
      go_wp2
      go_round
      case rel => exact ⟨k - 1, congrArg (Value.int .i64) (by omega), by omega, by omega⟩
      case measure => simp [intOf]; omega

set_option maxHeartbeats 1000000 in
set_option maxRecDepth 100000 in
/-- LastIndex at a dot. -/
theorem lastIndex_any (s : ByteArray) (a c : List Nat) (hS : numsOf s = a ++ 46 :: c) (hc : ∀ x ∈ c, x ≠ 46) (hs : s.size ≤ 140737488355328) (w : World) :
    Calls Tryz.prog 59 #[.string s, .string { data := #[46] }] w fun e w' => e = .returned (.int .i64 (a.length : Int)) ∧ w = w' := by
  have hB := lastByte_any s a c hS hc hs w
  obtain ⟨n, en⟩ : ∃ n, a.length = n := ⟨_, rfl⟩
  rw [en] at hB ⊢
  clear hS hc en
  go_enter Tryz.func59, Tryz.ntmps59
  go_wp2_with fail
  refine hB.mono ?_
  rintro e w1 ⟨rfl, hw⟩
  subst hw
  go_wp2
  go_ret
  exact ⟨rfl, rfl⟩

set_option maxHeartbeats 1000000 in
set_option maxRecDepth 100000 in
/-- What is signed of a token. -/
theorem signedIn_any (s : ByteArray) (a c : List Nat) (hS : numsOf s = a ++ 46 :: c) (hc : ∀ x ∈ c, x ≠ 46) (hs : s.size ≤ 140737488355328) (w : World) :
    Calls Tryz.prog 34 #[.string s] w fun e w' => e = .returned (.string (strOf a)) ∧ w = w' := by
  have hB := lastIndex_any s a c hS hc hs w
  have hl : a.length ≤ s.size := by
    rw [← numsOf_length, hS, List.length_append, List.length_cons]; omega
  have HX : Hid (s.extract 0 a.length = strOf a) := by
    unfold Hid
    rw [← strOf_numsOf (s.extract 0 a.length), nums_to, hS, List.take_left]
  obtain ⟨n, en⟩ : ∃ n, a.length = n := ⟨_, rfl⟩
  rw [en] at hB hl HX
  clear hS hc en
  have c1 : (0 : Int) ≤ (n : Int) := by omega
  have c2 : (n : Int) ≤ (s.size : Int) := by omega
  go_enter Tryz.func34, Tryz.ntmps34
  go_wp2_with fail
  refine hB.mono ?_
  rintro e w1 ⟨rfl, hw⟩
  subst hw
  go_wp2
  go_ret
  exact ⟨by rw [← HX.out]; rfl, rfl⟩

end Go.Proofs.YthklgpflaghojaaGreatDoor

/-
  The contract of decoded: the three parts of a token.
-/
namespace Go.Proofs.YthklgpflaghojaaGreatDoor
open Go.RowKit

/-- What decoded answers. -/
def DecdEnd (S : List Nat) (w : World) (e : Ending) (w' : World) : Prop :=
  Below w.heap.size w w' ∧ ((∃ (A B C sg : List Nat) (PA PB PC : Option Addr) (ca cb cc : Nat), Wq.Three S A B C sg ∧ e = .returned (.tuple #[.agg #[.slice PA A.length ca, .slice PB B.length cb, .slice PC C.length cc], .bool true]) ∧ ArgIs w' PA ca A ∧ ArgIs w' PB cb B ∧ ArgIs w' PC cc C) ∨
    ((∀ A B C sg, ¬ Wq.Three S A B C sg) ∧ e = .returned (.tuple #[.agg #[.slice none 0 0, .slice none 0 0, .slice none 0 0], .bool false])))
/-- So many parts have been read. -/
def Read3 (P : List (List Nat)) (k : Nat) (vs : List Value) (w : World) : Prop :=
  vs.length = 3 ∧ (∀ j, k ≤ j → j < 3 → vs[j]? = some (.slice none 0 0)) ∧ ∀ j, j < k → ∃ (q : List Nat) (A : Option Addr) (c : Nat), B64.IsDec (P.getD j []) (some q) ∧ vs[j]? = some (.slice A q.length c) ∧ ArgIs w A c q
theorem read3_on {P : List (List Nat)} {k : Nat} {vs : List Value} {w w' : World} {B : Nat} (h : Read3 P k vs w) (hb : Below B w w') (hB : w.heap.size ≤ B) : Read3 P k vs w' :=
  ⟨h.1, h.2.1, fun j hj => by
    obtain ⟨q, A, c, h1, h2, h3⟩ := h.2.2 j hj
    exact ⟨q, A, c, h1, h2, h3.below hb hB⟩⟩
theorem args_set {w : World} {A : Option Addr} {c : Nat} {q : List Nat} {g k : Nat} {t : TypeId} {vs : List Value} {v : Value} (h : ArgIs w A c q) (hL : Lies w g t vs) (hv : ∀ x ∈ vs, ∀ n : Int, x ≠ .int .u8 n) : ArgIs (w.setCell ⟨g, k, none⟩ v) A c q :=
  ⟨h.1, h.2.1, h.2.2.1, fun hq => by
    obtain ⟨b, off, e, hb, hby⟩ := h.2.2.2 hq
    refine ⟨b, off, e, by simpa [World.setCell] using hb, fun j x hj => ⟨(hby j x hj).1, ?_⟩⟩
    have hne : b ≠ g := by
      rintro rfl
      have := (hby j x hj).2
      rw [hL.cell] at this
      exact hv _ (List.mem_of_getElem? this) _ rfl
    have e2 := Below.heap_setCell w ⟨g, k, none⟩ v b hne
    exact (World.cell?_of_block (a := ⟨b, off + j, none⟩) e2).trans (hby j x hj).2⟩
/-- Three cells are written. -/
abbrev put3c (w : World) (g : Nat) (a b c : Value) : World := ((w.setCell ⟨g, 0, none⟩ a).setCell ⟨g, 1, none⟩ b).setCell ⟨g, 2, none⟩ c
theorem Lies.put3c {w : World} {g : Nat} {t : TypeId} {x y z a b c : Value} (h : Lies w g t [x, y, z]) : Lies (put3c w g a b c) g t [a, b, c] := by
  have := ((h.put 0 a).put 1 b).put 2 c
  simpa using this
theorem slices_no {X Y Z : Option Addr} {l m n x y z : Nat} : ∀ v ∈ [Value.slice X l x, .slice Y m y, .slice Z n z], ∀ i : Int, v ≠ .int .u8 i := by
  intro v hv i e
  subst e
  simp at hv
theorem args_put3 {w : World} {P : Option Addr} {p : Nat} {q : List Nat} {g : Nat} {t : TypeId} {X Y Z X' Y' Z' : Option Addr} {l m n x y z l' m' n' x' y' z' : Nat} (h : ArgIs w P p q) (hL : Lies w g t [.slice X l x, .slice Y m y, .slice Z n z]) :
    ArgIs (put3c w g (.slice X' l' x') (.slice Y' m' y') (.slice Z' n' z')) P p q := by
  have h0 : Lies (w.setCell ⟨g, 0, none⟩ (.slice X' l' x')) g t [.slice X' l' x', .slice Y m y, .slice Z n z] := by simpa using hL.put 0 (.slice X' l' x')
  have h1 : Lies ((w.setCell ⟨g, 0, none⟩ (.slice X' l' x')).setCell ⟨g, 1, none⟩ (.slice Y' m' y')) g t [.slice X' l' x', .slice Y' m' y', .slice Z n z] := by simpa using h0.put 1 (.slice Y' m' y')
  exact args_set (args_set (args_set h hL slices_no) h0 slices_no) h1 slices_no
theorem below_put3c {w w' : World} {g : Nat} {a b c : Value} (h : Below w.heap.size w w') (hg : w.heap.size ≤ g) : Below w.heap.size w (put3c w' g a b c) := ((h.setCell hg _).setCell hg _).setCell hg _

theorem read3_put {P : List (List Nat)} {k : Nat} {vs : List Value} {w : World} {g : Nat} {t : TypeId} {q : List Nat} {A : Option Addr} {c : Nat} (h : Read3 P k vs w) (hk : k < 3) (hL : Lies w g t vs) (hq : B64.IsDec (P.getD k []) (some q)) (hA : ArgIs w A c q) :
    Read3 P (k + 1) (vs.set k (.slice A q.length c)) (w.setCell ⟨g, k, none⟩ (.slice A q.length c)) := by
  have hv : ∀ x ∈ vs, ∀ n : Int, x ≠ .int .u8 n := by
    intro x hx n e
    obtain ⟨j, hj, rfl⟩ := List.getElem_of_mem hx
    rw [h.1] at hj
    rcases Nat.lt_or_ge j k with hlt | hge
    · obtain ⟨_, _, _, _, h2, _⟩ := h.2.2 j hlt
      rw [List.getElem?_eq_getElem (by rw [h.1]; exact hj), e] at h2
      cases h2
    · have h2 := h.2.1 j hge hj
      rw [List.getElem?_eq_getElem (by rw [h.1]; exact hj), e] at h2
      cases h2
  refine ⟨by rw [List.length_set]; exact h.1, fun j hj h3 => ?_, fun j hj => ?_⟩
  · rw [List.getElem?_set_ne (by omega)]
    exact h.2.1 j (by omega) h3
  · rcases Nat.eq_or_lt_of_le (Nat.le_of_lt_succ hj) with rfl | hlt
    · exact ⟨q, A, c, hq, by rw [List.getElem?_set_self (by rw [h.1]; exact hk)], args_set hA hL hv⟩
    · obtain ⟨q', A', c', h1, h2, h3⟩ := h.2.2 j hlt
      exact ⟨q', A', c', h1, by rw [List.getElem?_set_ne (by omega)]; exact h2, args_set h3 hL hv⟩

set_option maxHeartbeats 2000000 in
set_option maxRecDepth 100000 in
theorem decoded_any (s : ByteArray) (w : World) (hsz : s.size ≤ 140737488355328) :
    Calls Tryz.prog 30 #[.string s] w (DecdEnd (numsOf s) w) := by
  have Hlen := Lib.hid (numsOf_length s)
  by_cases h12 : 12288 < s.size
  · have hd : decide ((12288 : Int) < (s.size : Int)) = true := decide_eq_true (by omega)
    have HE : Hid (∀ A B C sg, ¬ Wq.Three (numsOf s) A B C sg) := fun A B C sg h => absurd h.1 (by rw [Hlen.out]; omega)
    go_enter Tryz.func30, Tryz.ntmps30
    go_wp2
    refine bodyPost_ret (v := .tuple #[.agg #[.slice none 0 0, .slice none 0 0, .slice none 0 0], .bool false]) (by simp [results, Tryz.results30, go_sem]) rfl ⟨((Below.refl _ _).alloc (Nat.le_refl _) _).alloc (by simp) _, .inr ⟨HE.out, rfl⟩⟩
  have hd : decide ((12288 : Int) < (s.size : Int)) = false := decide_eq_false (by omega)
  have hC := fun W => countDot_any s W
  have hS := fun W => splitB_any 46 s W (by omega)
  have e46 : (46 : UInt8).toNat = 46 := rfl
  simp only [e46] at hS
  have HT := Lib.hid (fun a b c => @Wq.three_text (numsOf s) a b c)
  obtain ⟨P, eP⟩ : ∃ P, Uq.parts 46 (numsOf s) = P := ⟨_, rfl⟩
  have HP := Lib.hid eP
  simp only [eP] at hC hS
  clear eP
  by_cases h3 : P.length = 3
  rotate_left
  · have hd2 : (((P.length : Int) - 1) == 2) = false := by rw [beq_eq_false_iff_ne]; omega
    have HE : Hid (∀ A B C sg, ¬ Wq.Three (numsOf s) A B C sg) := fun A B C sg h => by
      obtain ⟨_, a, b, c, hp, _⟩ := h
      rw [HP.out] at hp
      exact h3 (by rw [hp]; rfl)
    clear h3 hS
    go_enter Tryz.func30, Tryz.ntmps30
    go_wp2_with fail
    refine (hC _).mono ?_
    rintro e w1 ⟨rfl, hw⟩
    subst hw
    go_wp2
    refine bodyPost_ret (v := .tuple #[.agg #[.slice none 0 0, .slice none 0 0, .slice none 0 0], .bool false]) (by simp [results, Tryz.results30, go_sem]) rfl ⟨((Below.refl _ _).alloc (Nat.le_refl _) _).alloc (by simp) _, .inr ⟨HE.out, rfl⟩⟩
  obtain ⟨a, b, c, rfl⟩ : ∃ a b c, P = [a, b, c] := by
    match P, h3 with
    | [a, b, c], _ => exact ⟨a, b, c, rfl⟩
  have hd2 : (((3 : Int) - 1) == 2) = true := rfl
  have HPl : Hid (∀ j, j < 3 → ∀ x ∈ [a, b, c].getD j [], x < 256) := fun j hj x hx => by
    refine numsOf_lt s x ((Uq.parts_mem (b := 46) (l := numsOf s) (p := [a, b, c].getD j []) ?_).2 x hx)
    rw [HP.out, List.getD_eq_getElem?_getD, List.getElem?_eq_getElem (by simpa using hj)]
    exact List.getElem_mem _
  have HPs : Hid (∀ j, j < 3 → ([a, b, c].getD j []).length ≤ 12288) := fun j hj => by
    have := (Uq.parts_mem (b := 46) (l := numsOf s) (p := [a, b, c].getD j []) (by
      rw [HP.out, List.getD_eq_getElem?_getD, List.getElem?_eq_getElem (by simpa using hj)]
      exact List.getElem_mem _)).1
    rw [Hlen.out] at this
    omega
  have HTc : Hid (∀ j, j < 3 → (tcells [a, b, c])[j]? = some (.string (strOf ([a, b, c].getD j [])))) := fun j hj => by
    match j, hj with
    | 0, _ => rfl
    | 1, _ => rfl
    | 2, _ => rfl
  have HNo : Hid (∀ j, j < 3 → B64.IsDec ([a, b, c].getD j []) none → ∀ A B C sg, ¬ Wq.Three (numsOf s) A B C sg) := fun j hj hn A B C sg h => by
    obtain ⟨_, a', b', c', hp, h1, h2, h3, _⟩ := h
    rw [HP.out] at hp
    injection hp with e1 e2
    injection e2 with e2 e3
    injection e3 with e3 _
    subst e1 e2 e3
    match j, hj with
    | 0, _ => cases B64.isDec_one h1 hn
    | 1, _ => cases B64.isDec_one h2 hn
    | 2, _ => cases B64.isDec_one h3 hn
  have HYes : Hid (∀ A B C, B64.IsDec a (some A) → B64.IsDec b (some B) → B64.IsDec c (some C) → Wq.Three (numsOf s) A B C (a ++ 46 :: b)) := fun A B C h1 h2 h3 =>
    ⟨by rw [Hlen.out]; omega, a, b, c, HP.out, h1, h2, h3, rfl⟩
  simp only [List.length_cons, List.length_nil, Nat.zero_add, Nat.reduceAdd] at hC hS
  have HS := Lib.hid hS
  clear HT h3 hS
  go_enter Tryz.func30, Tryz.ntmps30
  go_wp2_with fail
  refine (hC _).mono ?_
  rintro e w1 ⟨rfl, hw⟩
  have hw1 : Lies w1 w.heap.size 63 [.slice none 0 0, .slice none 0 0, .slice none 0 0] := by rw [← hw]; exact (Lies.made w _ _).alloc _
  have hw2 : Lies w1 (w.heap.size + 1) 63 [.slice none 0 0, .slice none 0 0, .slice none 0 0] := by rw [← hw]; exact Lies.new_ (by simp)
  have hb1 : Below w.heap.size w w1 := by rw [← hw]; exact ((Below.refl _ _).alloc (Nat.le_refl _) _).alloc (by simp) _
  clear hw hC
  go_wp2_with fail
  refine (HS.out _).mono ?_
  rintro e w2 ⟨rfl, hT2, hb2⟩
  have hR2 := hw1.below hb2 hw1.lt
  have hP2 := hw2.below hb2 hw2.lt
  have hbb2 := hb1.trans (hb2.mono hb1.size)
  obtain ⟨B, eB⟩ : ∃ B, w1.heap.size = B := ⟨_, rfl⟩
  have hBw : w.heap.size + 1 < B := by rw [← eB]; exact hw2.lt
  rw [eB] at hT2 ⊢
  clear hw1 hw2 hb1 hb2 eB HS
  have HT2 := Lib.hid hT2
  have HB2 := Lib.hid hbb2
  have HBs := Lib.hid hT2.lt
  have hst : Read3 [a, b, c] 0 [.slice none 0 0, .slice none 0 0, .slice none 0 0] w2 := ⟨rfl, fun j _ hj => by match j, hj with
    | 0, _ => rfl
    | 1, _ => rfl
    | 2, _ => rfl, fun j hj => absurd hj (Nat.not_lt_zero _)⟩
  clear hT2 hbb2
  go_wp2_with fail
  go_loopw [21] (fun i wr => ∃ (k : Nat) (vs : List Value), i = .int .i64 k ∧ k ≤ 3 ∧ Hid (Read3 [a, b, c] k vs wr) ∧ Lies wr (w.heap.size + 1) 63 vs ∧ Lies wr w.heap.size 63 [.slice none 0 0, .slice none 0 0, .slice none 0 0] ∧ Hid (Lies wr B 9 (tcells [a, b, c])) ∧ Below w.heap.size w wr) (fun i _ => 3 - (intOf i).toNat)
  case atStart => exact ⟨0, _, rfl, Nat.zero_le _, hst, hP2, hR2, HT2.out, HB2.out⟩
  case round =>
    obtain ⟨k, vs, rfl, hk, HR, hLp, hLr, HT, hb⟩ := hrel
    clear hst hP2 hR2
    by_cases hlt : k < 3
    · have ht := (HT.out.cell k).trans (HTc.out k hlt)
      have hDec := decode_any (strOf ([a, b, c].getD k [])) wr (by rw [strOf_size]; have := HPs.out k hlt; omega)
      rw [numsOf_strOf (HPl.out k hlt)] at hDec
      obtain ⟨p, ep⟩ : ∃ p, [a, b, c].getD k [] = p := ⟨_, rfl⟩
      have Hp := Lib.hid ep
      rw [ep] at ht hDec
      clear ep
      go_wp2_with fail
      refine hDec.mono ?_
      intro e w3 hh
      clear hDec ht
      rcases hh with ⟨q, A, cq, hq, rfl, hA, hb3⟩ | ⟨hq, rfl, hb3⟩
      · have hbb := hb.trans (hb3.mono hb.size)
        have hLp3 := hLp.below hb3 hLp.lt
        have hLr3 := hLr.below hb3 hLr.lt
        have hT3 := HT.out.below hb3 HT.out.lt
        have hR3 := read3_on HR.out hb3 (Nat.le_refl _)
        rw [← Hp.out] at hq
        have HR4 : Hid (Read3 [a, b, c] (k + 1) (vs.set k (.slice A q.length cq)) (w3.setCell ⟨w.heap.size + 1, k, none⟩ (.slice A q.length cq))) := read3_put hR3 hlt hLp3 hq hA
        have hvl : k < vs.length := by have := HR.out.1; omega
        have hc1 : ∃ u, w3.cell? ⟨w.heap.size + 1, k, none⟩ = some u := ⟨_, (hLp3.cell k).trans (List.getElem?_eq_getElem hvl)⟩
        obtain ⟨u, hc1⟩ := hc1
        have hf1 := hLp3.free k
        have hLp4 : Lies (w3.setCell ⟨w.heap.size + 1, k, none⟩ (.slice A q.length cq)) (w.heap.size + 1) 63 (vs.set k (.slice A q.length cq)) := hLp3.put k _
        have hLr4 : Lies (w3.setCell ⟨w.heap.size + 1, k, none⟩ (.slice A q.length cq)) w.heap.size 63 [.slice none 0 0, .slice none 0 0, .slice none 0 0] := hLr3.far (by simp) _
        have hT4 : Hid (Lies (w3.setCell ⟨w.heap.size + 1, k, none⟩ (.slice A q.length cq)) B 9 (tcells [a, b, c])) := hT3.far (by simp; omega) _
        have hb4 : Below w.heap.size w (w3.setCell ⟨w.heap.size + 1, k, none⟩ (.slice A q.length cq)) := hbb.setCell (by simp) _
        clear hq hA hb3 hbb hLp3 hLr3 hT3 hR3 hLp hLr HT hb HR hvl
        go_wp2
        go_roundw
        case rel => exact ⟨k + 1, _, by go_num, by omega, HR4, hLp4, hLr4, hT4, hb4⟩
        case measure => simp [intOf]; omega
      · have hbb := hb.trans (hb3.mono hb.size)
        have hLr3 := hLr.below hb3 hLr.lt
        rw [← Hp.out] at hq
        have HE := Lib.hid (HNo.out k hlt hq)
        have f0 := hLr3.free 0
        have f1 := hLr3.free 1
        have f2 := hLr3.free 2
        have y0 := hLr3.cell 0
        have y1 := hLr3.cell 1
        have y2 := hLr3.cell 2
        simp only [List.getElem?_cons_zero, List.getElem?_cons_succ] at y0 y1 y2
        have hE := hLr3.put3c (a := .slice none 0 0) (b := .slice none 0 0) (c := .slice none 0 0)
        have q0 := hE.cell 0
        have q1 := hE.cell 1
        have q2 := hE.cell 2
        simp only [List.getElem?_cons_zero, List.getElem?_cons_succ] at q0 q1 q2
        have HB := Lib.hid (below_put3c (g := w.heap.size) (a := .slice none 0 0) (b := .slice none 0 0) (c := .slice none 0 0) hbb (Nat.le_refl _))
        clear hq hb3 hLp hLr HT hb HR hbb hE hLr3
        go_wp2
        exact bodyPost_ret (v := .tuple #[.agg #[.slice none 0 0, .slice none 0 0, .slice none 0 0], .bool false]) (by simp [results, Tryz.results30, go_sem, q0, q1, q2]) rfl ⟨HB.out, .inr ⟨HE.out, rfl⟩⟩
    · obtain rfl : k = 3 := by omega
      obtain ⟨qa, PA, ca, da, va, aa⟩ := HR.out.2.2 0 (by decide)
      obtain ⟨qb, PB, cb, db, vb, ab⟩ := HR.out.2.2 1 (by decide)
      obtain ⟨qc, PC, cc, dc, vc, ac⟩ := HR.out.2.2 2 (by decide)
      have z0 := (hLp.cell 0).trans va
      have z1 := (hLp.cell 1).trans vb
      have z2 := (hLp.cell 2).trans vc
      have HE := Lib.hid (HYes.out qa qb qc da db dc)
      have f0 := hLr.free 0
      have f1 := hLr.free 1
      have f2 := hLr.free 2
      have y0 := hLr.cell 0
      have y1 := hLr.cell 1
      have y2 := hLr.cell 2
      simp only [List.getElem?_cons_zero, List.getElem?_cons_succ] at y0 y1 y2
      have hE := hLr.put3c (a := .slice PA qa.length ca) (b := .slice PB qb.length cb) (c := .slice PC qc.length cc)
      have q0 := hE.cell 0
      have q1 := hE.cell 1
      have q2 := hE.cell 2
      simp only [List.getElem?_cons_zero, List.getElem?_cons_succ] at q0 q1 q2
      have HB := Lib.hid (below_put3c (g := w.heap.size) (a := .slice PA qa.length ca) (b := .slice PB qb.length cb) (c := .slice PC qc.length cc) hb (Nat.le_refl _))
      have Ha := Lib.hid (args_put3 (X' := PA) (l' := qa.length) (x' := ca) (Y' := PB) (m' := qb.length) (y' := cb) (Z' := PC) (n' := qc.length) (z' := cc) aa hLr)
      have Hb := Lib.hid (args_put3 (X' := PA) (l' := qa.length) (x' := ca) (Y' := PB) (m' := qb.length) (y' := cb) (Z' := PC) (n' := qc.length) (z' := cc) ab hLr)
      have Hc := Lib.hid (args_put3 (X' := PA) (l' := qa.length) (x' := ca) (Y' := PB) (m' := qb.length) (y' := cb) (Z' := PC) (n' := qc.length) (z' := cc) ac hLr)
      clear va vb vc da db dc hLp HT HR aa ab ac hE hLr hb
      go_wp2
      exact bodyPost_ret (v := .tuple #[.agg #[.slice PA qa.length ca, .slice PB qb.length cb, .slice PC qc.length cc], .bool true]) (by simp [results, Tryz.results30, go_sem, q0, q1, q2]) rfl ⟨HB.out, .inl ⟨_, _, _, _, _, _, _, _, _, _, HE.out, rfl, Ha.out, Hb.out, Hc.out⟩⟩
end Go.Proofs.YthklgpflaghojaaGreatDoor
