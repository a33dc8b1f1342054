/-
  LRName, LAlive, LLaws, LLaws2, LLaws3, LLaws4, LRow, in one text.
-/
import Derived.Test.YtkjofadabaecfaaLName
import Derived.Test.YtkjofadabaecfaaLKind
import Derived.Test.YtkjofadabaecfaaLRGet2
import Derived.Test.YtkjofadabaecfaaLPut2
import Derived.Test.YtkjofadabaecfaaTRow
import Derived.Lib.SmallJoins
import Derived.ChangeMaps5
/-
  The document's Special and Name.
-/
namespace Go.Proofs.Ytkjofadabaecfaa
open Go.RowKit

theorem not_before {l : List Nat} {c k x : Nat} (h : c ∉ l.take k) (hx : l[k]? = some x) (hn : c ≠ x) : c ∉ l.take (k + 1) := by
  rw [List.take_add_one, hx]
  simp only [Option.toList_some, List.mem_append, List.mem_singleton, not_or]
  exact ⟨h, hn⟩
set_option maxHeartbeats 1000000 in
set_option maxRecDepth 100000 in
theorem refSpecial_any (c : Nat) (w : World) : Calls Try.prog 36 #[.int .u8 (c : Int)] w (Tells (c ∈ Nq.specials) w) := by
  obtain ⟨W1, eW⟩ : ∃ W1, W1 = w.alloc (.cells #[.int .u8 44, .int .u8 43, .int .u8 34, .int .u8 92, .int .u8 60, .int .u8 62, .int .u8 59, .int .u8 61, .int .u8 35] 5) := ⟨_, rfl⟩
  have hA : ArgIs W1 (some ⟨w.heap.size, 0, none⟩) 9 Nq.specials := by rw [eW]; exact arg_made rfl rfl rfl (by decide) (by decide)
  have hb : Below w.heap.size w W1 := by rw [eW]; exact (Below.refl _ _).alloc (Nat.le_refl _) _
  have HA := Lib.hid hA
  have HB := Lib.hid hb
  have HW : Hid (w.alloc (.cells #[.int .u8 44, .int .u8 43, .int .u8 34, .int .u8 92, .int .u8 60, .int .u8 62, .int .u8 59, .int .u8 61, .int .u8 35] 5) = W1) := eW.symm
  clear hA hb eW
  go_enter Try.func36, Try.ntmps36
  go_wp2_with fail
  rw [HW.out]
  go_loopw [7] (fun i wr => ∃ k : Nat, i = .int .i64 k ∧ k ≤ 9 ∧ Hid (c ∉ Nq.specials.take k) ∧ wr = W1) (fun i _ => 9 - (intOf i).toNat)
  case atStart => exact ⟨0, rfl, Nat.zero_le _, Lib.hid (by simp), rfl⟩
  case round =>
    obtain ⟨k, rfl, hk, hno, rfl⟩ := hrel
    by_cases hlt : k < 9
    · obtain ⟨b, off, e, hbb, hby⟩ := HA.out.2.2.2 (by decide)
      injection e with e
      injection e with e1 e2
      subst e1 e2
      have k0 := hby.get (j := k) hlt
      obtain ⟨x, ex⟩ : ∃ x, Nq.specials.getD k 0 = x := ⟨_, rfl⟩
      rw [ex, Nat.zero_add] at k0
      have hx : Nq.specials[k]? = some x := by
        have hlt' : k < Nq.specials.length := hlt
        rw [List.getD_eq_getElem?_getD, List.getElem?_eq_getElem hlt'] at ex
        rw [List.getElem?_eq_getElem hlt']
        exact congrArg some ex
      have HX := Lib.hid hx
      clear hby ex hx hbb
      by_cases hc : c = x
      · have hd : ((c : Int) == (x : Int)) = true := by rw [hc]; simp
        have HQ := Lib.hid (Tells.yes (P := c ∈ Nq.specials) (by rw [hc]; exact List.mem_of_getElem? HX.out) HB.out)
        clear hc
        go_wp2
        go_ret
        exact HQ.out
      · have hd : ((c : Int) == (x : Int)) = false := by rw [beq_eq_false_iff_ne]; omega
        have HR : Hid (c ∉ Nq.specials.take (k + 1)) := not_before hno.out HX.out hc
        clear hc
        go_wp2
        go_roundw
        case rel => exact ⟨k + 1, rfl, hlt, HR, trivial⟩
        case measure => simp [intOf]; omega
    · obtain rfl : k = 9 := by omega
      have hd : decide ((9 : Int) < 9) = false := by decide
      have HQ := Lib.hid (Tells.no (P := c ∈ Nq.specials) hno.out HB.out)
      go_wp2
      go_ret
      exact HQ.out

theorem nums_extract (s : ByteArray) (i j : Nat) : numsOf (s.extract i j) = ((numsOf s).take j).drop i := by
  unfold numsOf
  rw [ByteArray.data_extract, Array.toList_extract]
  simp only [List.extract, List.map_drop, List.map_take]
  rw [List.drop_take]
theorem str_one (u : ByteArray) (k : Nat) (h : k < u.size) : u.extract k (k + 1) = strOf [u[k].toNat] := by
  have e1 : u.extract k (k + 1) = strOf (numsOf (u.extract k (k + 1))) := (strOf_numsOf _).symm
  rw [e1]
  congr 1
  rw [nums_extract]
  have h1 : (numsOf u)[k]? = some u[k].toNat := nums_get u k h
  rw [List.take_add_one, h1, Option.toList_some, List.drop_append_of_le_length (by rw [List.length_take, numsOf_length]; omega), List.drop_of_length_le (by rw [List.length_take]; omega)]
  rfl
/-- What holds at each round. -/
def RNRel (a u : ByteArray) (W0 : World) (t i : Value) (wr : World) : Prop :=
  ∃ k : Nat, i = .int .i64 k ∧ k ≤ u.size ∧ (∀ c ∈ (numsOf u).take k, 33 ≤ c ∧ c ≤ 126) ∧ t = .string (a ++ strOf (Nq.esc ((numsOf u).take k))) ∧ Below W0.heap.size W0 wr

set_option maxHeartbeats 1000000 in
set_option maxRecDepth 100000 in
theorem refName_any (a u b : ByteArray) (w : World) (ha : a.size ≤ 140737488355328) (hb : b.size ≤ 140737488355328) :
    Calls Try.prog 20 #[.agg #[.string a, .string b], .string u] w (NameEnd a u b w) := by
  have hlen := numsOf_length u
  have hba : ∀ o, Below w.heap.size w (w.alloc o) := fun o => (Below.refl _ _).alloc (Nat.le_refl _) _
  by_cases h0 : u.size < 1 ∨ 64 < u.size
  · have HQ : Hid (∀ o, NameEnd a u b w (.returned (.tuple #[.string { data := #[] }, .bool false])) (w.alloc o)) := fun o => ⟨hba o, .inr ⟨fun h => by have := h.1; omega, rfl⟩⟩
    have hdd : decide ((u.size : Int) < 1) = true ∨ (decide ((u.size : Int) < 1) = false ∧ decide ((64 : Int) < (u.size : Int)) = true) := by
      by_cases h : u.size < 1
      · exact .inl (decide_eq_true (by omega))
      · exact .inr ⟨decide_eq_false (by omega), decide_eq_true (by omega)⟩
    clear hlen hba h0
    rcases hdd with d1 | ⟨d1, d2⟩
    all_goals
      go_enter Try.func20, Try.ntmps20
      go_wp2
      go_ret2
      exact HQ.out _
  have d1 : decide ((u.size : Int) < 1) = false := decide_eq_false (by omega)
  have d2 : decide ((64 : Int) < (u.size : Int)) = false := decide_eq_false (by omega)
  have hN64 : u.size ≤ 64 := by omega
  have hN1 : 1 ≤ u.size := by omega
  have HLen := Lib.hid hlen
  obtain ⟨V, eV⟩ : ∃ V, w.heap.size = V := ⟨_, rfl⟩
  have HB0 : Hid (∀ W0, w.alloc (.cells #[.string a, .string b] 39) = W0 → Below w.heap.size w W0 ∧ Lies W0 V 39 [.string a, .string b]) := by
    intro W0 h
    subst h
    exact ⟨hba _, Lies.new_ eV.symm⟩
  clear hlen hba h0
  go_enter Try.func20, Try.ntmps20
  go_wp2_with fail
  generalize hW0 : World.alloc w _ = W0
  obtain ⟨hb0, hL0⟩ := HB0.out _ hW0
  have HL0 := Lib.hid hL0
  have HBW := Lib.hid hb0
  have hV : V < W0.heap.size := hL0.lt
  have HST : Hid (RNRel a u W0 (.string a) (.int .i64 0) W0) := ⟨0, rfl, Nat.zero_le _, fun c hc => by simp at hc, by rw [List.take_zero, show strOf (Nq.esc []) = ByteArray.empty from rfl, ByteArray.append_empty], Below.refl _ _⟩
  have hwV : w.heap.size ≤ W0.heap.size := by omega
  clear hW0 HB0 hb0 hL0 eV d1 d2
  go_loopw [6, 7] (fun t i wr => RNRel a u W0 t i wr) (fun _ i _ => u.size - (intOf i).toNat)
  case atStart => exact HST.out
  case round =>
    obtain ⟨k, rfl, hk, hall, rfl, hb⟩ := hrel
    have HALL := Lib.hid hall
    have HB := Lib.hid hb
    have hesc := (Nq.esc_len ((numsOf u).take k)).2
    rw [List.length_take] at hesc
    obtain ⟨E, eE⟩ : ∃ E, Nq.esc ((numsOf u).take k) = E := ⟨_, rfl⟩
    rw [eE] at hesc ⊢
    have HE := Lib.hid eE
    obtain ⟨T, eT⟩ : ∃ T, a ++ strOf E = T := ⟨_, rfl⟩
    have hT : T.size ≤ 140737488355328 + 128 := by rw [← eT, ByteArray.size_append, strOf_size]; omega
    rw [eT]
    have HT := Lib.hid eT
    clear hall hb hesc eE eT
    by_cases hlt : k < u.size
    · have hX := Lib.hid (nums_get u k hlt)
      have hx256 := u[k].toNat_lt
      by_cases hr : u[k].toNat < 33 ∨ 126 < u[k].toNat
      · have HQ : Hid (NameEnd a u b w (.returned (.tuple #[.string { data := #[] }, .bool false])) wr) := ⟨below_more HBW.out HB.out, .inr ⟨fun h => by have := h.2 _ (List.mem_of_getElem? hX.out); omega, rfl⟩⟩
        have hdd : decide ((u[k].toNat : Int) < 33) = true ∨ (decide ((u[k].toNat : Int) < 33) = false ∧ decide ((126 : Int) < (u[k].toNat : Int)) = true) := by
          by_cases h : u[k].toNat < 33
          · exact .inl (decide_eq_true (by omega))
          · exact .inr ⟨decide_eq_false (by omega), decide_eq_true (by omega)⟩
        clear hr
        rcases hdd with d1 | ⟨d1, d2⟩
        all_goals
          go_wp2
          go_ret2
          exact HQ.out
      have d1 : decide ((u[k].toNat : Int) < 33) = false := decide_eq_false (by omega)
      have d2 : decide ((126 : Int) < (u[k].toNat : Int)) = false := decide_eq_false (by omega)
      have HR := Lib.hid hr
      have hS := refSpecial_any u[k].toNat wr
      clear hr
      go_wp2_with fail
      refine hS.mono ?_
      rintro e w1 ⟨hb1, hh⟩
      clear hS
      have hb01 := Lib.hid (below_more HB.out hb1)
      have HESC : Hid (Nq.esc ((numsOf u).take (k + 1)) = E ++ Nq.unit u[k].toNat) := by rw [← HE.out]; exact Nq.esc_snoc hX.out
      have HALL1 : Hid (∀ c ∈ (numsOf u).take (k + 1), 33 ≤ c ∧ c ≤ 126) := by
        intro c hc
        rw [List.take_add_one, hX.out] at hc
        rcases List.mem_append.1 hc with hc | hc
        · exact HALL.out c hc
        · simp at hc
          have := HR.out
          omega
      have HONE := Lib.hid (str_one u k hlt)
      have z1 : (u.extract k (k + 1)).size = 1 := by rw [HONE.out, strOf_size]; rfl
      rcases hh with ⟨hsp, rfl⟩ | ⟨hsp, rfl⟩
      · have HU : Hid (Nq.unit u[k].toNat = [92, u[k].toNat]) := if_pos hsp
        have hcv := conv_str (arg_made (W := w1) (q := [92]) (g := w1.heap.size) (n := 1) (cs := #[.int .u8 92]) rfl rfl rfl (by decide) (by decide))
        rw [show ([92] : List Nat).length = 1 from rfl] at hcv
        obtain ⟨L, eL⟩ : ∃ L, strOf [92] = L := ⟨_, rfl⟩
        rw [eL] at hcv
        have zL : L.size = 1 := by rw [← eL]; rfl
        have s1 : ¬ 9223372036854775807 < T.size + L.size := by omega
        have s2 : ¬ 9223372036854775807 < T.size + L.size + (u.extract k (k + 1)).size := by omega
        have HREL : Hid (∀ o, RNRel a u W0 (.string (T ++ L ++ u.extract k (k + 1))) (.int .i64 ((k + 1 : Nat) : Int)) (w1.alloc o)) := fun o => ⟨k + 1, rfl, hlt, HALL1.out, by
          rw [← HT.out, ← eL, HONE.out, HESC.out, HU.out, ByteArray.append_assoc, ByteArray.append_assoc, strOf_append, strOf_append]; rfl, below_alloc hb01.out o⟩
        clear hsp hb1 eL
        go_wp2
        go_roundw
        case rel => exact HREL.out _
        case measure => simp [intOf]; omega
      · have HU : Hid (Nq.unit u[k].toNat = [u[k].toNat]) := if_neg hsp
        have s2 : ¬ 9223372036854775807 < T.size + (u.extract k (k + 1)).size := by omega
        have HREL : Hid (RNRel a u W0 (.string (T ++ u.extract k (k + 1))) (.int .i64 ((k + 1 : Nat) : Int)) w1) := ⟨k + 1, rfl, hlt, HALL1.out, by
          rw [← HT.out, HONE.out, HESC.out, HU.out, ByteArray.append_assoc, strOf_append], hb01.out⟩
        clear hsp hb1
        go_wp2
        go_roundw
        case rel => exact HREL.out
        case measure => simp [intOf]; omega
    · obtain rfl : k = u.size := by omega
      have hd2 : decide ((u.size : Int) < (u.size : Int)) = false := by simp
      have hfull : (numsOf u).take u.size = numsOf u := List.take_of_length_le (by rw [HLen.out]; exact Nat.le_refl _)
      rw [hfull] at HALL HE
      have s2 : ¬ 9223372036854775807 < T.size + b.size := by omega
      have HQ : Hid (NameEnd a u b w (.returned (.tuple #[.string (T ++ b), .bool true])) wr) := ⟨below_more HBW.out HB.out, .inl ⟨⟨by rw [HLen.out]; omega, HALL.out⟩, by rw [← HT.out, ← HE.out]⟩⟩
      have c1 := (HL0.out.below HB.out hV).cell 1
      simp only [List.getElem?_cons_zero, List.getElem?_cons_succ] at c1
      clear hfull
      go_wp2
      go_ret2
      exact HQ.out
end Go.Proofs.Ytkjofadabaecfaa

/-
  The law package's alive.
-/
namespace Go.Proofs.Ytkjofadabaecfaa
open Go.RowKit

abbrev aliveS : List Nat := [48, 17, 2, 1, 1, 96, 12, 2, 1, 3, 4, 4, 99, 110, 61, 97, 128, 1, 112]
theorem alive_put : Bq.bindP 1 [99, 110, 61, 97] [112] = some aliveS := by rfl
/-- Whatever came of a reading is what was written. -/
theorem BindEnd.of {S : List Nat} {w w' : World} {e : Ending} {n : Int} {q r : List Nat} (h : BindEnd S w e w') (hp : Bq.bindP n q r = some S) : e = .returned (.tuple #[bindV n (strOf q) (strOf r), .int .i64 0]) ∧ Below w.heap.size w w' := by
  obtain ⟨hb, ⟨n', q', r', h1, _, h2⟩ | ⟨h1, _⟩⟩ := h
  · obtain ⟨rfl, rfl, rfl⟩ := Bq.bindP_inj hp h1
    exact ⟨h2, hb⟩
  · exact absurd hp (h1 _ _ _)
theorem BoundEnd.of {S : List Nat} {w w' : World} {e : Ending} {n c : Int} {q r : List Nat} (h : BoundEnd S w e w') (hp : Bq.boundP n c q r = some S) : e = .returned (.tuple #[boundV n c (strOf q) (strOf r), .int .i64 0]) ∧ Below w.heap.size w w' := by
  obtain ⟨hb, ⟨n', c', q', r', h1, _, h2⟩ | ⟨h1, _⟩⟩ := h
  · obtain ⟨rfl, rfl, rfl, rfl⟩ := Bq.boundP_inj hp h1
    exact ⟨h2, hb⟩
  · exact absurd hp (h1 _ _ _ _)

set_option maxHeartbeats 1000000 in
set_option maxRecDepth 100000 in
theorem alive_any (w : World) : Calls Try.prog 13 #[] w fun e w' => e = .returned (.bool true) ∧ Below w.heap.size w w' := by
  have hP := putBind_any 1 { data := #[99, 110, 61, 97] } { data := #[112] } w (by decide) (by decide)
  rw [show numsOf { data := #[99, 110, 61, 97] } = [99, 110, 61, 97] from rfl, show numsOf { data := #[112] } = [112] from rfl, alive_put] at hP
  go_enter Try.func13, Try.ntmps13
  go_wp2_with fail
  refine hP.mono ?_
  clear hP
  rintro e w1 ⟨hb1, A, c, rfl, hl⟩
  have hG := getBind_any aliveS A c w1 hl
  have HL := Lib.hid hl
  have HB1 := Lib.hid hb1
  clear hl hb1
  go_wp2_with fail
  refine hG.mono ?_
  clear hG
  intro e w2 hh
  obtain ⟨rfl, hb2⟩ := hh.of alive_put
  clear hh
  obtain ⟨P, eP⟩ : ∃ P, w2.heap.size = P := ⟨_, rfl⟩
  have HW3 : Hid (∀ W3, w2.alloc (.cells #[.int .i64 1, .string (strOf [99, 110, 61, 97]), .string (strOf [112])] 23) = W3 → Below w2.heap.size w2 W3 ∧ Lies W3 P 23 [.int .i64 1, .string (strOf [99, 110, 61, 97]), .string (strOf [112])]) := by
    intro W3 h
    subst h
    exact ⟨below_alloc (Below.refl _ _) _, Lies.new_ eP.symm⟩
  go_upto_region 3 with (fail)
  generalize hW3 : World.alloc w2 _ = W3
  obtain ⟨hb3, hL3⟩ := HW3.out _ hW3
  clear hW3 HW3
  have hN := name_any { data := #[99, 110, 61] } { data := #[97, 44, 98] } { data := #[44, 100, 99, 61, 120] } W3 (by decide) (by decide)
  have HL3 := Lib.hid hL3
  have HB3 := Lib.hid (below_more HB1.out (below_more hb2 hb3))
  have HL4 := Lib.hid (HL.out.on (below_more hb2 hb3))
  clear hb2 hb3 hL3 HL
  go_wp2_with fail
  refine hN.mono ?_
  clear hN
  rintro e w4 ⟨hb4, ⟨_, rfl⟩ | ⟨hno, _⟩⟩
  rotate_left
  · exact absurd (show Nq.UserOk [97, 44, 98] from ⟨by decide, by decide⟩) hno
  rw [show ({ data := #[99, 110, 61] } ++ strOf (Nq.esc (numsOf { data := #[97, 44, 98] })) ++ { data := #[44, 100, 99, 61, 120] } : ByteArray) = { data := #[99, 110, 61, 97, 92, 44, 98, 44, 100, 99, 61, 120] } from rfl]
  have hcv : (convert 24 9 (.slice A 19 c)).run Try.prog w4 = .ok (.string { data := #[48, 17, 2, 1, 1, 96, 12, 2, 1, 3, 4, 4, 99, 110, 61, 97, 128, 1, 112] }) w4 := conv_str (HL4.out.on hb4)
  have z2 : w4.cell? ⟨P, 2, none⟩ = some (.string { data := #[112] }) := (HL3.out.below hb4 HL3.out.lt).cell 2
  have HQ := Lib.hid (below_more HB3.out hb4)
  clear hb4
  go_wp2_with fail
  go_ret
  exact ⟨rfl, HQ.out⟩
end Go.Proofs.Ytkjofadabaecfaa

/-
  The laws of binds, over the contracts.
-/
namespace Go.Proofs.Ytkjofadabaecfaa
open Go.RowKit

theorem BindEnd.any {S : List Nat} {w w' : World} {e : Ending} (h : BindEnd S w e w') : Below w.heap.size w w' ∧ ∃ n s t g, e = .returned (.tuple #[bindV n s t, .int .i64 g]) := by
  obtain ⟨hb, ⟨n', q', r', h1, _, h2⟩ | ⟨h1, h2⟩⟩ := h
  · exact ⟨hb, _, _, _, _, h2⟩
  · exact ⟨hb, _, _, _, _, h2⟩
theorem BoundEnd.any {S : List Nat} {w w' : World} {e : Ending} (h : BoundEnd S w e w') : Below w.heap.size w w' ∧ ∃ n c s t g, e = .returned (.tuple #[boundV n c s t, .int .i64 g]) := by
  obtain ⟨hb, ⟨n', c', q', r', h1, _, h2⟩ | ⟨h1, h2⟩⟩ := h
  · exact ⟨hb, _, _, _, _, _, h2⟩
  · exact ⟨hb, _, _, _, _, _, h2⟩
/-- What a law says. -/
abbrev IsTrue (w : World) (e : Ending) (w' : World) : Prop := e = .returned (.bool true) ∧ Below w.heap.size w w'

set_option maxHeartbeats 1000000 in
set_option maxRecDepth 100000 in
theorem lawBinds (n : Int) (dn pw : ByteArray) (w : World) (hd : dn.size ≤ 140737488355328) (hp : pw.size ≤ 140737488355328) :
    Calls Try.prog 3 #[bindV n dn pw] w (IsTrue w) := by
  obtain ⟨V, eV⟩ : ∃ V, w.heap.size = V := ⟨_, rfl⟩
  have HW0 : Hid (∀ W0, w.alloc (.cells #[.int .i64 n, .string dn, .string pw] 23) = W0 → Below w.heap.size w W0 ∧ Lies W0 V 23 [.int .i64 n, .string dn, .string pw]) := by
    intro W0 h
    subst h
    exact ⟨below_alloc (Below.refl _ _) _, Lies.new_ eV.symm⟩
  have HD := Lib.hid hd
  have HP := Lib.hid hp
  obtain ⟨RES, eRES⟩ : ∃ RES, Bq.bindP n (numsOf dn) (numsOf pw) = RES := ⟨_, rfl⟩
  have HRES := Lib.hid eRES
  clear hd hp eRES
  go_enter Try.func3, Try.ntmps3
  go_upto_region 1 with (fail)
  generalize hW0 : World.alloc w _ = W0
  obtain ⟨hb0, hL0⟩ := HW0.out _ hW0
  clear hW0 HW0
  have hP := putBind_any n dn pw W0 HD.out HP.out
  rw [HRES.out] at hP
  obtain ⟨⟨y0, y1, y2⟩, _⟩ := hL0.three
  have HL0 := Lib.hid hL0
  have HB0 := Lib.hid hb0
  clear hL0 hb0 eV
  go_wp2_with fail
  refine hP.mono ?_
  clear hP y0 y1 y2
  intro e w1 hh
  obtain ⟨hb1, hh⟩ := hh.cases
  have hQ := refPutBind_any n dn pw w1 HD.out HP.out
  rw [HRES.out] at hQ
  have hL1 := HL0.out.below hb1 HL0.out.lt
  obtain ⟨⟨y0, y1, y2⟩, _⟩ := hL1.three
  have HL1 := Lib.hid hL1
  have HB1 := Lib.hid (below_more HB0.out hb1)
  clear hL1 hb1 HL0
  rcases hh with ⟨l, A, c, hr, rfl, hl⟩ | ⟨hr, rfl⟩
  · have HR := Lib.hid hr
    have HLL := Lib.hid hl
    rw [hr] at hQ
    clear hr hl
    go_wp2_with fail
    refine hQ.mono ?_
    clear hQ y0 y1 y2
    rintro e w2 ⟨hb2, A2, c2, rfl, hl2⟩
    have HL2 := Lib.hid (HL1.out.below hb2 HL1.out.lt)
    have HLL2 := Lib.hid (HLL.out.on hb2)
    have HM := Lib.hid hl2
    have HB2 := Lib.hid (below_more HB1.out hb2)
    have hG := getBind_any l A c w2 HLL2.out
    clear hb2 hl2
    go_wp2_with fail
    refine hG.mono ?_
    clear hG
    intro e w3 hh
    obtain ⟨rfl, hb3⟩ := hh.of (HRES.out.trans HR.out)
    clear hh
    rw [strOf_numsOf, strOf_numsOf]
    obtain ⟨P, eP⟩ : ∃ P, w3.heap.size = P := ⟨_, rfl⟩
    have HW4 : Hid (∀ W4, w3.alloc (.cells #[.int .i64 n, .string dn, .string pw] 23) = W4 → Below w3.heap.size w3 W4 ∧ Lies W4 P 23 [.int .i64 n, .string dn, .string pw]) := by
      intro W4 h
      subst h
      exact ⟨below_alloc (Below.refl _ _) _, Lies.new_ eP.symm⟩
    go_upto_region 4 with (fail)
    generalize hW4 : World.alloc w3 _ = W4
    obtain ⟨hb4, hL4⟩ := HW4.out _ hW4
    clear hW4 HW4 eP
    have hAl := alive_any W4
    have HL4 := Lib.hid hL4
    have HB4 := Lib.hid (below_more hb3 hb4)
    clear hb3 hb4 hL4
    go_wp2_with fail
    refine hAl.mono ?_
    clear hAl
    rintro e w5 ⟨rfl, hb5⟩
    have hb25 := below_more HB4.out hb5
    have hc1 := conv_str (HLL2.out.on hb25)
    have hc2 := conv_str (HM.out.on hb25)
    obtain ⟨⟨x0, x1, x2⟩, _⟩ := (HL4.out.below hb5 HL4.out.lt).three
    obtain ⟨⟨y0, y1, y2⟩, _⟩ := (HL2.out.below hb25 HL2.out.lt).three
    have HQ := Lib.hid (below_more HB2.out hb25)
    clear hb5 hb25
    go_wp2_with fail
    go_ret
    exact ⟨rfl, HQ.out⟩
  · rw [hr] at hQ
    clear hr
    go_wp2_with fail
    refine hQ.mono ?_
    clear hQ y0 y1 y2
    rintro e w2 ⟨hb2, rfl⟩
    have HB2 := Lib.hid (below_more HB1.out hb2)
    have hG := getBind_any [] none 0 w2 (arg_nil _)
    rw [show ([] : List Nat).length = 0 from rfl] at hG
    clear hb2
    go_wp2_with fail
    refine hG.mono ?_
    clear hG
    intro e w3 hh
    obtain ⟨hb3, n', s', t', g', rfl⟩ := hh.any
    clear hh
    obtain ⟨W4, eW4⟩ : ∃ W4, w3.alloc (.cells #[.int .i64 n', .string s', .string t'] 23) = W4 := ⟨_, rfl⟩
    have hb4 : Below w3.heap.size w3 W4 := by rw [← eW4]; exact below_alloc (Below.refl _ _) _
    have hAl := alive_any W4
    rw [← eW4] at hAl
    have HW4 := Lib.hid eW4
    have HB4 := Lib.hid (below_more hb3 hb4)
    clear hb3 hb4 eW4
    go_wp2_with fail
    refine hAl.mono ?_
    rw [HW4.out]
    clear hAl
    rintro e w5 ⟨rfl, hb5⟩
    have hc1 := conv_str (arg_nil w5)
    rw [show ([] : List Nat).length = 0 from rfl] at hc1
    have HQ := Lib.hid (below_more HB2.out (below_more HB4.out hb5))
    clear hb5
    go_wp2_with fail
    go_ret
    exact ⟨rfl, HQ.out⟩
end Go.Proofs.Ytkjofadabaecfaa

/-
  The laws of what is read, over the contracts.
-/
namespace Go.Proofs.Ytkjofadabaecfaa
open Go.RowKit

theorem BindEnd.same {S : List Nat} {w w' u u' : World} {e e' : Ending} (h : BindEnd S w e w') (h' : BindEnd S u e' u') : Below w.heap.size w w' ∧ Below u.heap.size u u' ∧ ∃ n s t g, e = .returned (.tuple #[bindV n s t, .int .i64 g]) ∧ e' = .returned (.tuple #[bindV n s t, .int .i64 g]) := by
  obtain ⟨hb, h⟩ := h
  obtain ⟨hb', h'⟩ := h'
  refine ⟨hb, hb', ?_⟩
  rcases h with ⟨n, q, r, h1, _, h2⟩ | ⟨h1, h2⟩
  · rcases h' with ⟨n', q', r', h1', _, h2'⟩ | ⟨h1', _⟩
    · obtain ⟨rfl, rfl, rfl⟩ := Bq.bindP_inj h1 h1'
      exact ⟨_, _, _, _, h2, h2'⟩
    · exact absurd h1 (h1' _ _ _)
  · rcases h' with ⟨n', q', r', h1', _, _⟩ | ⟨_, h2'⟩
    · exact absurd h1' (h1 _ _ _)
    · exact ⟨_, _, _, _, h2, h2'⟩
theorem BoundEnd.same {S : List Nat} {w w' u u' : World} {e e' : Ending} (h : BoundEnd S w e w') (h' : BoundEnd S u e' u') : Below w.heap.size w w' ∧ Below u.heap.size u u' ∧ ∃ n c s t g, e = .returned (.tuple #[boundV n c s t, .int .i64 g]) ∧ e' = .returned (.tuple #[boundV n c s t, .int .i64 g]) := by
  obtain ⟨hb, h⟩ := h
  obtain ⟨hb', h'⟩ := h'
  refine ⟨hb, hb', ?_⟩
  rcases h with ⟨n, c, q, r, h1, _, h2⟩ | ⟨h1, h2⟩
  · rcases h' with ⟨n', c', q', r', h1', _, h2'⟩ | ⟨h1', _⟩
    · obtain ⟨rfl, rfl, rfl, rfl⟩ := Bq.boundP_inj h1 h1'
      exact ⟨_, _, _, _, _, h2, h2'⟩
    · exact absurd h1 (h1' _ _ _ _)
  · rcases h' with ⟨n', c', q', r', h1', _, _⟩ | ⟨_, h2'⟩
    · exact absurd h1' (h1 _ _ _ _)
    · exact ⟨_, _, _, _, _, h2, h2'⟩
/-- One of the two is refused. -/
theorem ends_apart {S : List Nat} {w w' u u' : World} {e e' : Ending} (h : BindEnd S w e w') (h' : BoundEnd S u e' u') : Below w.heap.size w w' ∧ Below u.heap.size u u' ∧ ∃ n s t g n' c' s' t' g', e = .returned (.tuple #[bindV n s t, .int .i64 g]) ∧ e' = .returned (.tuple #[boundV n' c' s' t', .int .i64 g']) ∧ ((g = 70 ∧ (g' = 0 ∨ g' = 70)) ∨ (g = 0 ∧ g' = 70)) := by
  obtain ⟨hb, h⟩ := h
  obtain ⟨hb', h'⟩ := h'
  refine ⟨hb, hb', ?_⟩
  rcases h with ⟨n, q, r, h1, _, h2⟩ | ⟨h1, h2⟩
  · rcases h' with ⟨n', c', q', r', h1', _, h2'⟩ | ⟨h1', h2'⟩
    · exact (Bq.apart h1 h1').elim
    · exact ⟨_, _, _, _, _, _, _, _, _, h2, h2', .inr ⟨rfl, rfl⟩⟩
  · rcases h' with ⟨n', c', q', r', h1', _, h2'⟩ | ⟨_, h2'⟩
    · exact ⟨_, _, _, _, _, _, _, _, _, h2, h2', .inl ⟨rfl, .inl rfl⟩⟩
    · exact ⟨_, _, _, _, _, _, _, _, _, h2, h2', .inl ⟨rfl, .inr rfl⟩⟩

set_option maxHeartbeats 1000000 in
set_option maxRecDepth 100000 in
theorem lawBindsRead (S : List Nat) (A : Option Addr) (c : Nat) (w : World) (hS : ArgIs w A c S) :
    Calls Try.prog 4 #[.slice A S.length c] w (IsTrue w) := by
  have hG := getBind_any S A c w hS
  have HS := Lib.hid hS
  clear hS
  go_enter Try.func4, Try.ntmps4
  go_wp2_with fail
  refine hG.mono ?_
  clear hG
  intro e w1 hx
  have HX := Lib.hid hx
  obtain ⟨hb1, n, s, t, g, rfl⟩ := hx.any
  clear hx
  obtain ⟨V, eV⟩ : ∃ V, w1.heap.size = V := ⟨_, rfl⟩
  have HW2 : Hid (∀ W2, w1.alloc (.cells #[.int .i64 n, .string s, .string t] 23) = W2 → Below w1.heap.size w1 W2 ∧ Lies W2 V 23 [.int .i64 n, .string s, .string t]) := by
    intro W2 h
    subst h
    exact ⟨below_alloc (Below.refl _ _) _, Lies.new_ eV.symm⟩
  go_upto_region 2 with (fail)
  generalize hW2 : World.alloc w1 _ = W2
  obtain ⟨hb2, hL2⟩ := HW2.out _ hW2
  clear hW2 HW2 eV
  have hb02 := below_more hb1 hb2
  have hQ := refGetBind_any S A c W2 (HS.out.on hb02)
  have HB2 := Lib.hid hb02
  have HL2 := Lib.hid hL2
  clear hb1 hb2 hb02 hL2
  go_wp2_with fail
  refine hQ.mono ?_
  clear hQ
  intro e w3 hy
  obtain ⟨_, hb3, n', s', t', g', e1, rfl⟩ := HX.out.same hy
  simp only [Ending.returned.injEq, Value.tuple.injEq, Array.mk.injEq, List.cons.injEq, Value.agg.injEq, Value.int.injEq, Value.string.injEq, and_true, true_and] at e1
  obtain ⟨⟨rfl, rfl, rfl⟩, rfl⟩ := e1
  clear HX hy
  obtain ⟨P, eP⟩ : ∃ P, w3.heap.size = P := ⟨_, rfl⟩
  have HW4 : Hid (∀ W4, w3.alloc (.cells #[.int .i64 n, .string s, .string t] 23) = W4 → Below w3.heap.size w3 W4 ∧ Lies W4 P 23 [.int .i64 n, .string s, .string t]) := by
    intro W4 h
    subst h
    exact ⟨below_alloc (Below.refl _ _) _, Lies.new_ eP.symm⟩
  go_upto_region 3 with (fail)
  generalize hW4 : World.alloc w3 _ = W4
  obtain ⟨hb4, hL4⟩ := HW4.out _ hW4
  clear hW4 HW4 eP
  have hAl := alive_any W4
  have HL4 := Lib.hid hL4
  have HB4 := Lib.hid (below_more hb3 hb4)
  clear hb3 hb4 hL4
  go_wp2_with fail
  refine hAl.mono ?_
  clear hAl
  rintro e w5 ⟨rfl, hb5⟩
  have hb25 := below_more HB4.out hb5
  obtain ⟨⟨x0, x1, x2⟩, _⟩ := (HL4.out.below hb5 HL4.out.lt).three
  obtain ⟨⟨y0, y1, y2⟩, _⟩ := (HL2.out.below hb25 HL2.out.lt).three
  have HQ := Lib.hid (below_more HB2.out hb25)
  clear hb5 hb25
  go_wp2_with fail
  go_ret
  exact ⟨rfl, HQ.out⟩

set_option maxHeartbeats 1000000 in
set_option maxRecDepth 100000 in
theorem lawApart (S : List Nat) (A : Option Addr) (c : Nat) (w : World) (hS : ArgIs w A c S) :
    Calls Try.prog 7 #[.slice A S.length c] w (IsTrue w) := by
  have hG := getBind_any S A c w hS
  have HS := Lib.hid hS
  clear hS
  go_enter Try.func7, Try.ntmps7
  go_wp2_with fail
  refine hG.mono ?_
  clear hG
  intro e w1 hx
  have HX := Lib.hid hx
  obtain ⟨hb1, n, s, t, g, rfl⟩ := hx.any
  clear hx
  obtain ⟨W2, eW2⟩ : ∃ W2, w1.alloc (.cells #[.int .i64 n, .string s, .string t] 23) = W2 := ⟨_, rfl⟩
  have hb02 : Below w.heap.size w W2 := by rw [← eW2]; exact below_alloc hb1 _
  have hQ := getBound_any S A c W2 (HS.out.on hb02)
  rw [← eW2] at hQ
  have HB2 := Lib.hid hb02
  have HW2 := Lib.hid eW2
  clear hb1 hb02 eW2
  go_wp2_with fail
  refine hQ.mono ?_
  rw [HW2.out]
  clear hQ
  intro e w3 hy
  obtain ⟨_, hb3, n0, s0, t0, g0, n', c', s', t', g', e1, rfl, hg⟩ := ends_apart HX.out hy
  simp only [Ending.returned.injEq, Value.tuple.injEq, Array.mk.injEq, List.cons.injEq, Value.agg.injEq, Value.int.injEq, Value.string.injEq, and_true, true_and] at e1
  obtain ⟨⟨rfl, rfl, rfl⟩, rfl⟩ := e1
  clear HX hy
  obtain ⟨W4, eW4⟩ : ∃ W4, w3.alloc (.cells #[.int .i64 n', .int .i64 c', .string s', .string t'] 34) = W4 := ⟨_, rfl⟩
  have hb4 : Below w3.heap.size w3 W4 := by rw [← eW4]; exact below_alloc (Below.refl _ _) _
  have hAl := alive_any W4
  rw [← eW4] at hAl
  have HW4 := Lib.hid eW4
  have HB4 := Lib.hid (below_more HB2.out (below_more hb3 hb4))
  clear hb3 hb4 eW4
  rcases hg with ⟨rfl, rfl | rfl⟩ | ⟨rfl, rfl⟩
  all_goals
    go_wp2_with fail
    refine hAl.mono ?_
    rw [HW4.out]
    clear hAl
    rintro e w5 ⟨rfl, hb5⟩
    have HQ := Lib.hid (below_more HB4.out hb5)
    clear hb5
    go_wp2_with fail
    go_ret
    exact ⟨rfl, HQ.out⟩
end Go.Proofs.Ytkjofadabaecfaa

/-
  The laws of what came of a bind, over the contracts.
-/
namespace Go.Proofs.Ytkjofadabaecfaa
open Go.RowKit

set_option maxHeartbeats 1000000 in
set_option maxRecDepth 100000 in
theorem lawBounds (n code : Int) (dn pw : ByteArray) (w : World) (hd : dn.size ≤ 140737488355328) (hp : pw.size ≤ 140737488355328) :
    Calls Try.prog 5 #[boundV n code dn pw] w (IsTrue w) := by
  obtain ⟨V, eV⟩ : ∃ V, w.heap.size = V := ⟨_, rfl⟩
  have HW0 : Hid (∀ W0, w.alloc (.cells #[.int .i64 n, .int .i64 code, .string dn, .string pw] 34) = W0 → Below w.heap.size w W0 ∧ Lies W0 V 34 [.int .i64 n, .int .i64 code, .string dn, .string pw]) := by
    intro W0 h
    subst h
    exact ⟨below_alloc (Below.refl _ _) _, Lies.new_ eV.symm⟩
  have HD := Lib.hid hd
  have HP := Lib.hid hp
  obtain ⟨RES, eRES⟩ : ∃ RES, Bq.boundP n code (numsOf dn) (numsOf pw) = RES := ⟨_, rfl⟩
  have HRES := Lib.hid eRES
  clear hd hp eRES
  go_enter Try.func5, Try.ntmps5
  go_upto_region 1 with (fail)
  generalize hW0 : World.alloc w _ = W0
  obtain ⟨hb0, hL0⟩ := HW0.out _ hW0
  clear hW0 HW0
  have hP := putBound_any n code dn pw W0 HD.out HP.out
  rw [HRES.out] at hP
  obtain ⟨⟨y0, y1, y2, y3⟩, _⟩ := hL0.four
  have HL0 := Lib.hid hL0
  have HB0 := Lib.hid hb0
  clear hL0 hb0 eV
  go_wp2_with fail
  refine hP.mono ?_
  clear hP y0 y1 y2 y3
  intro e w1 hh
  obtain ⟨hb1, hh⟩ := hh.cases
  have hQ := refPutBound_any n code dn pw w1 HD.out HP.out
  rw [HRES.out] at hQ
  have hL1 := HL0.out.below hb1 HL0.out.lt
  obtain ⟨⟨y0, y1, y2, y3⟩, _⟩ := hL1.four
  have HL1 := Lib.hid hL1
  have HB1 := Lib.hid (below_more HB0.out hb1)
  clear hL1 hb1 HL0
  rcases hh with ⟨l, A, c, hr, rfl, hl⟩ | ⟨hr, rfl⟩
  · have HR := Lib.hid hr
    have HLL := Lib.hid hl
    rw [hr] at hQ
    clear hr hl
    go_wp2_with fail
    refine hQ.mono ?_
    clear hQ y0 y1 y2 y3
    rintro e w2 ⟨hb2, A2, c2, rfl, hl2⟩
    have HL2 := Lib.hid (HL1.out.below hb2 HL1.out.lt)
    have HLL2 := Lib.hid (HLL.out.on hb2)
    have HM := Lib.hid hl2
    have HB2 := Lib.hid (below_more HB1.out hb2)
    have hG := getBound_any l A c w2 HLL2.out
    clear hb2 hl2
    go_wp2_with fail
    refine hG.mono ?_
    clear hG
    intro e w3 hh
    obtain ⟨rfl, hb3⟩ := hh.of (HRES.out.trans HR.out)
    clear hh
    rw [strOf_numsOf, strOf_numsOf]
    obtain ⟨P, eP⟩ : ∃ P, w3.heap.size = P := ⟨_, rfl⟩
    have HW4 : Hid (∀ W4, w3.alloc (.cells #[.int .i64 n, .int .i64 code, .string dn, .string pw] 34) = W4 → Below w3.heap.size w3 W4 ∧ Lies W4 P 34 [.int .i64 n, .int .i64 code, .string dn, .string pw]) := by
      intro W4 h
      subst h
      exact ⟨below_alloc (Below.refl _ _) _, Lies.new_ eP.symm⟩
    go_upto_region 4 with (fail)
    generalize hW4 : World.alloc w3 _ = W4
    obtain ⟨hb4, hL4⟩ := HW4.out _ hW4
    clear hW4 HW4 eP
    have hAl := alive_any W4
    have HL4 := Lib.hid hL4
    have HB4 := Lib.hid (below_more hb3 hb4)
    clear hb3 hb4 hL4
    go_wp2_with fail
    refine hAl.mono ?_
    clear hAl
    rintro e w5 ⟨rfl, hb5⟩
    have hb25 := below_more HB4.out hb5
    have hc1 := conv_str (HLL2.out.on hb25)
    have hc2 := conv_str (HM.out.on hb25)
    obtain ⟨⟨x0, x1, x2, x3⟩, _⟩ := (HL4.out.below hb5 HL4.out.lt).four
    obtain ⟨⟨y0, y1, y2, y3⟩, _⟩ := (HL2.out.below hb25 HL2.out.lt).four
    have HQ := Lib.hid (below_more HB2.out hb25)
    clear hb5 hb25
    go_wp2_with fail
    go_ret
    exact ⟨rfl, HQ.out⟩
  · rw [hr] at hQ
    clear hr
    go_wp2_with fail
    refine hQ.mono ?_
    clear hQ y0 y1 y2 y3
    rintro e w2 ⟨hb2, rfl⟩
    have HB2 := Lib.hid (below_more HB1.out hb2)
    have hG := getBound_any [] none 0 w2 (arg_nil _)
    rw [show ([] : List Nat).length = 0 from rfl] at hG
    clear hb2
    go_wp2_with fail
    refine hG.mono ?_
    clear hG
    intro e w3 hh
    obtain ⟨hb3, n', code', s', t', g', rfl⟩ := hh.any
    clear hh
    obtain ⟨W4, eW4⟩ : ∃ W4, w3.alloc (.cells #[.int .i64 n', .int .i64 code', .string s', .string t'] 34) = W4 := ⟨_, rfl⟩
    have hb4 : Below w3.heap.size w3 W4 := by rw [← eW4]; exact below_alloc (Below.refl _ _) _
    have hAl := alive_any W4
    rw [← eW4] at hAl
    have HW4 := Lib.hid eW4
    have HB4 := Lib.hid (below_more hb3 hb4)
    clear hb3 hb4 eW4
    go_wp2_with fail
    refine hAl.mono ?_
    rw [HW4.out]
    clear hAl
    rintro e w5 ⟨rfl, hb5⟩
    have hc1 := conv_str (arg_nil w5)
    rw [show ([] : List Nat).length = 0 from rfl] at hc1
    have HQ := Lib.hid (below_more HB2.out (below_more HB4.out hb5))
    clear hb5
    go_wp2_with fail
    go_ret
    exact ⟨rfl, HQ.out⟩
set_option maxHeartbeats 1000000 in
set_option maxRecDepth 100000 in
theorem lawBoundsRead (S : List Nat) (A : Option Addr) (c : Nat) (w : World) (hS : ArgIs w A c S) :
    Calls Try.prog 6 #[.slice A S.length c] w (IsTrue w) := by
  have hG := getBound_any S A c w hS
  have HS := Lib.hid hS
  clear hS
  go_enter Try.func6, Try.ntmps6
  go_wp2_with fail
  refine hG.mono ?_
  clear hG
  intro e w1 hx
  have HX := Lib.hid hx
  obtain ⟨hb1, n, code, s, t, g, rfl⟩ := hx.any
  clear hx
  obtain ⟨V, eV⟩ : ∃ V, w1.heap.size = V := ⟨_, rfl⟩
  have HW2 : Hid (∀ W2, w1.alloc (.cells #[.int .i64 n, .int .i64 code, .string s, .string t] 34) = W2 → Below w1.heap.size w1 W2 ∧ Lies W2 V 34 [.int .i64 n, .int .i64 code, .string s, .string t]) := by
    intro W2 h
    subst h
    exact ⟨below_alloc (Below.refl _ _) _, Lies.new_ eV.symm⟩
  go_upto_region 2 with (fail)
  generalize hW2 : World.alloc w1 _ = W2
  obtain ⟨hb2, hL2⟩ := HW2.out _ hW2
  clear hW2 HW2 eV
  have hb02 := below_more hb1 hb2
  have hQ := refGetBound_any S A c W2 (HS.out.on hb02)
  have HB2 := Lib.hid hb02
  have HL2 := Lib.hid hL2
  clear hb1 hb2 hb02 hL2
  go_wp2_with fail
  refine hQ.mono ?_
  clear hQ
  intro e w3 hy
  obtain ⟨_, hb3, n', code', s', t', g', e1, rfl⟩ := HX.out.same hy
  simp only [Ending.returned.injEq, Value.tuple.injEq, Array.mk.injEq, List.cons.injEq, Value.agg.injEq, Value.int.injEq, Value.string.injEq, and_true, true_and] at e1
  obtain ⟨⟨rfl, rfl, rfl, rfl⟩, rfl⟩ := e1
  clear HX hy
  obtain ⟨P, eP⟩ : ∃ P, w3.heap.size = P := ⟨_, rfl⟩
  have HW4 : Hid (∀ W4, w3.alloc (.cells #[.int .i64 n, .int .i64 code, .string s, .string t] 34) = W4 → Below w3.heap.size w3 W4 ∧ Lies W4 P 34 [.int .i64 n, .int .i64 code, .string s, .string t]) := by
    intro W4 h
    subst h
    exact ⟨below_alloc (Below.refl _ _) _, Lies.new_ eP.symm⟩
  go_upto_region 3 with (fail)
  generalize hW4 : World.alloc w3 _ = W4
  obtain ⟨hb4, hL4⟩ := HW4.out _ hW4
  clear hW4 HW4 eP
  have hAl := alive_any W4
  have HL4 := Lib.hid hL4
  have HB4 := Lib.hid (below_more hb3 hb4)
  clear hb3 hb4 hL4
  go_wp2_with fail
  refine hAl.mono ?_
  clear hAl
  rintro e w5 ⟨rfl, hb5⟩
  have hb25 := below_more HB4.out hb5
  obtain ⟨⟨x0, x1, x2, x3⟩, _⟩ := (HL4.out.below hb5 HL4.out.lt).four
  obtain ⟨⟨y0, y1, y2, y3⟩, _⟩ := (HL2.out.below hb25 HL2.out.lt).four
  have HQ := Lib.hid (below_more HB2.out hb25)
  clear hb5 hb25
  go_wp2_with fail
  go_ret
  exact ⟨rfl, HQ.out⟩

end Go.Proofs.Ytkjofadabaecfaa

/-
  The laws of names, over the contracts.
-/
namespace Go.Proofs.Ytkjofadabaecfaa
open Go.RowKit

set_option maxHeartbeats 1000000 in
set_option maxRecDepth 100000 in
theorem lawNames (a b u : ByteArray) (w : World) (ha : a.size ≤ 140737488355328) (hb : b.size ≤ 140737488355328) :
    Calls Try.prog 8 #[.agg #[.string a, .string b], .string u] w (IsTrue w) := by
  obtain ⟨V, eV⟩ : ∃ V, w.heap.size = V := ⟨_, rfl⟩
  have HW0 : Hid (∀ W0, w.alloc (.cells #[.string a, .string b] 39) = W0 → Below w.heap.size w W0 ∧ Lies W0 V 39 [.string a, .string b]) := by
    intro W0 h
    subst h
    exact ⟨below_alloc (Below.refl _ _) _, Lies.new_ eV.symm⟩
  have HA := Lib.hid ha
  have HB := Lib.hid hb
  clear ha hb
  go_enter Try.func8, Try.ntmps8
  go_upto_region 1 with (fail)
  generalize hW0 : World.alloc w _ = W0
  obtain ⟨hb0, hL0⟩ := HW0.out _ hW0
  clear hW0 HW0
  have hN := name_any a u b W0 HA.out HB.out
  have y0 := hL0.cell 0
  have y1 := hL0.cell 1
  simp only [List.getElem?_cons_zero, List.getElem?_cons_succ] at y0 y1
  have HL0 := Lib.hid hL0
  have HB0 := Lib.hid hb0
  clear hL0 hb0 eV
  go_wp2_with fail
  refine hN.mono ?_
  clear hN y0 y1
  rintro e w1 ⟨hb1, hh⟩
  have hL1 := HL0.out.below hb1 HL0.out.lt
  have hN := refName_any a u b w1 HA.out HB.out
  have y0 := hL1.cell 0
  have y1 := hL1.cell 1
  simp only [List.getElem?_cons_zero, List.getElem?_cons_succ] at y0 y1
  have HB1 := Lib.hid (below_more HB0.out hb1)
  clear hL1 hb1 HL0
  rcases hh with ⟨hu, rfl⟩ | ⟨hu, rfl⟩
  all_goals
    go_wp2_with fail
    refine hN.mono ?_
    clear hN y0 y1
    rintro e w2 ⟨hb2, ⟨hu2, rfl⟩ | ⟨hu2, rfl⟩⟩
  all_goals first | exact absurd hu hu2 | exact absurd hu2 hu | skip
  all_goals
    have hAl := alive_any w2
    have HB2 := Lib.hid (below_more HB1.out hb2)
    clear hb2 hu hu2
    go_wp2_with fail
    refine hAl.mono ?_
    clear hAl
    rintro e w5 ⟨rfl, hb5⟩
    have HQ := Lib.hid (below_more HB2.out hb5)
    clear hb5
    go_wp2_with fail
    go_ret
    exact ⟨rfl, HQ.out⟩

theorem name_same {a b : ByteArray} {p q : List Nat} (hp : ∀ x ∈ p, x < 256) (hq : ∀ x ∈ q, x < 256) (h : a ++ strOf p ++ b = a ++ strOf q ++ b) : p = q := by
  have h1 : (a ++ strOf p ++ b).data.toList = (a ++ strOf q ++ b).data.toList := by rw [h]
  simp only [ByteArray.data_append, Array.toList_append, List.append_assoc, List.append_cancel_left_eq, List.append_cancel_right_eq] at h1
  refine strOf_inj hp hq ?_
  apply ByteArray.ext
  exact Array.toList_inj.1 h1
theorem str_eq {x y : ByteArray} : (x.toList == y.toList) = decide (x = y) := by
  rw [Bool.eq_iff_iff, beq_iff_eq, decide_eq_true_iff]
  refine ⟨fun h => ?_, fun h => by rw [h]⟩
  rw [ByteArray.toList_eq, ByteArray.toList_eq] at h
  apply ByteArray.ext
  exact Array.toList_inj.1 h
theorem names_eq {a b u v : ByteArray} : ((a ++ strOf (Nq.esc (numsOf u)) ++ b).toList == (a ++ strOf (Nq.esc (numsOf v)) ++ b).toList) = (u.toList == v.toList) := by
  rw [str_eq, str_eq, Bool.eq_iff_iff, decide_eq_true_iff, decide_eq_true_iff]
  refine ⟨fun h => ?_, fun h => by rw [h]⟩
  have h1 := Nq.esc_inj (name_same (Nq.esc_lt (numsOf_lt u)) (Nq.esc_lt (numsOf_lt v)) h)
  rw [← strOf_numsOf u, ← strOf_numsOf v, h1]
theorem nums_esc (u : ByteArray) : numsOf (strOf (Nq.esc (numsOf u))) = Nq.esc (numsOf u) := numsOf_strOf (Nq.esc_lt (numsOf_lt u))
/-- What holds at each round. -/
def URel (E : List Nat) (N : Nat) (q i : Value) (wr w9 : World) : Prop := ∃ k : Nat, i = .int .i64 k ∧ k ≤ N ∧ q = .bool (Nq.quoted (E.take k)) ∧ wr = w9

set_option maxHeartbeats 1000000 in
set_option maxRecDepth 100000 in
theorem lawUnlike (a b u v : ByteArray) (w : World) (ha : a.size ≤ 140737488355328) (hb : b.size ≤ 140737488355328) :
    Calls Try.prog 9 #[.agg #[.string a, .string b], .string u, .string v] w (IsTrue w) := by
  obtain ⟨V, eV⟩ : ∃ V, w.heap.size = V := ⟨_, rfl⟩
  have HW0 : Hid (∀ W0, w.alloc (.cells #[.string a, .string b] 39) = W0 → Below w.heap.size w W0 ∧ Lies W0 V 39 [.string a, .string b]) := by
    intro W0 h
    subst h
    exact ⟨below_alloc (Below.refl _ _) _, Lies.new_ eV.symm⟩
  have HA := Lib.hid ha
  have HB := Lib.hid hb
  clear ha hb
  go_enter Try.func9, Try.ntmps9
  go_upto_region 1 with (fail)
  generalize hW0 : World.alloc w _ = W0
  obtain ⟨hb0, hL0⟩ := HW0.out _ hW0
  clear hW0 HW0
  have hN := name_any a u b W0 HA.out HB.out
  have y0 := hL0.cell 0
  have y1 := hL0.cell 1
  simp only [List.getElem?_cons_zero, List.getElem?_cons_succ] at y0 y1
  have HL0 := Lib.hid hL0
  have HB0 := Lib.hid hb0
  clear hL0 hb0 eV
  go_wp2_with fail
  refine hN.mono ?_
  clear hN y0 y1
  rintro e w1 ⟨hb1, hh⟩
  have hL1 := HL0.out.below hb1 HL0.out.lt
  have hN := name_any a v b w1 HA.out HB.out
  have y0 := hL1.cell 0
  have y1 := hL1.cell 1
  simp only [List.getElem?_cons_zero, List.getElem?_cons_succ] at y0 y1
  have HB1 := Lib.hid (below_more HB0.out hb1)
  clear hL1 hb1 HL0
  rcases hh with ⟨hu, rfl⟩ | ⟨hu, rfl⟩
  · have HU := Lib.hid hu
    clear hu
    go_wp2_with fail
    refine hN.mono ?_
    clear hN y0 y1
    rintro e w2 ⟨hb2, hh⟩
    have HB2 := Lib.hid (below_more HB1.out hb2)
    have hN := name_any { data := #[] } u { data := #[] } w2 (by decide) (by decide)
    have hEq := names_eq (a := a) (b := b) (u := u) (v := v)
    obtain ⟨X, eX⟩ : ∃ X, a ++ strOf (Nq.esc (numsOf u)) ++ b = X := ⟨_, rfl⟩
    obtain ⟨Y, eY⟩ : ∃ Y, a ++ strOf (Nq.esc (numsOf v)) ++ b = Y := ⟨_, rfl⟩
    rw [eY] at hh
    rw [eX, eY] at hEq
    rw [eX]
    obtain ⟨same, eS⟩ : ∃ same, (u.toList == v.toList) = same := ⟨_, rfl⟩
    rw [eS] at hEq
    clear hb2 eX eY
    have hcase : (∃ Z two, e = .returned (.tuple #[.string Z, .bool two]) ∧ (two = true → (X.toList == Z.toList) = same)) := by
      rcases hh with ⟨_, rfl⟩ | ⟨_, rfl⟩
      · exact ⟨_, _, rfl, fun _ => hEq⟩
      · exact ⟨_, _, rfl, fun h => nomatch h⟩
    clear hh hEq Y
    obtain ⟨Z, two, rfl, htwo⟩ := hcase
    obtain ⟨Xs, eXs⟩ : ∃ Xs, strOf (Nq.esc (numsOf u)) = Xs := ⟨_, rfl⟩
    have HEM : Hid ({ data := #[] } ++ Xs ++ { data := #[] } = Xs) := by
      show ByteArray.empty ++ Xs ++ ByteArray.empty = Xs
      rw [ByteArray.append_empty, ByteArray.empty_append]
    have HNX : Hid (numsOf Xs = Nq.esc (numsOf u)) := by unfold Hid; rw [← eXs]; exact nums_esc u
    have hXs := numsOf_length Xs
    rw [HNX.out] at hXs
    have HLX := Lib.hid hXs
    have hX128 : Xs.size ≤ 128 := by
      have h1 := (Nq.esc_len (numsOf u)).2
      have h2 := HU.out.1.2
      omega
    unfold NameEnd at hN
    rw [eXs, HEM.out] at hN
    have HQ : Hid (Nq.quoted (Nq.esc (numsOf u)) = false) := Nq.esc_quoted _
    have hCQ := Nq.comma_quoted (numsOf u)
    obtain ⟨E, eE⟩ : ∃ E, Nq.esc (numsOf u) = E := ⟨_, rfl⟩
    rw [eE] at hXs HNX HLX HQ hCQ
    have HCQ := Lib.hid hCQ
    clear hCQ eE
    clear eXs
    go_upto_region 5 with (fail)
    all_goals
      clear htwo
      go_wp2_with fail
      refine hN.mono ?_
      clear hN
      rintro e w3 ⟨hb3, ⟨_, rfl⟩ | ⟨hno, _⟩⟩
      rotate_left
      · exact absurd HU.out hno
      have HB3 := Lib.hid (below_more HB2.out hb3)
      clear hb3
      go_wp2_with fail
      go_loopw [13, 48] (fun q i wr => URel E Xs.size q i wr w3) (fun _ i _ => Xs.size - (intOf i).toNat)
      case atStart => exact ⟨0, rfl, Nat.zero_le _, rfl, rfl⟩
      case round =>
        obtain ⟨k, rfl, hk, rfl, rfl⟩ := hrel
        by_cases hlt : k < Xs.size
        · have hx := nums_get Xs k hlt
          rw [HNX.out] at hx
          obtain ⟨q, eq⟩ : ∃ q, Nq.quoted (E.take k) = q := ⟨_, rfl⟩
          have hstep := Nq.quoted_snoc hx
          rw [eq] at hstep ⊢
          have hcm := HCQ.out k
          rw [eq, hx] at hcm
          have HSTEP := Lib.hid hstep
          by_cases h44 : Xs[k].toNat = 44
          · obtain rfl : q = true := hcm (by rw [h44])
            have d44 : ((Xs[k].toNat : Int) == 44) = true := by rw [h44]; rfl
            have d92 : ((Xs[k].toNat : Int) == 92) = false := by rw [h44]; rfl
            have HREL : Hid (URel E Xs.size (.bool false) (.int .i64 ((k + 1 : Nat) : Int)) wr wr) := ⟨k + 1, rfl, hlt, by rw [HSTEP.out, h44]; rfl, rfl⟩
            clear hx hcm hstep eq h44
            go_wp2
            go_roundw
            case rel => exact HREL.out
            case measure => simp [intOf]; omega
          · have d44 : ((Xs[k].toNat : Int) == 44) = false := by rw [beq_eq_false_iff_ne]; omega
            by_cases h92 : Xs[k].toNat = 92
            · have d92 : ((Xs[k].toNat : Int) == 92) = true := by rw [h92]; rfl
              have HREL : Hid (URel E Xs.size (.bool !q) (.int .i64 ((k + 1 : Nat) : Int)) wr wr) := ⟨k + 1, rfl, hlt, by rw [HSTEP.out, h92]; rfl, rfl⟩
              clear hx hcm hstep eq h44 h92
              go_wp2
              go_roundw
              case rel => exact HREL.out
              case measure => simp [intOf]; omega
            · have d92 : ((Xs[k].toNat : Int) == 92) = false := by rw [beq_eq_false_iff_ne]; omega
              have HREL : Hid (URel E Xs.size (.bool false) (.int .i64 ((k + 1 : Nat) : Int)) wr wr) := ⟨k + 1, rfl, hlt, by rw [HSTEP.out, decide_eq_false h92]; rfl, rfl⟩
              clear hx hcm hstep eq h44 h92
              go_wp2
              go_roundw
              case rel => exact HREL.out
              case measure => simp [intOf]; omega
        · obtain rfl : k = Xs.size := by omega
          have hd : decide ((Xs.size : Int) < (Xs.size : Int)) = false := by simp
          have hAl := alive_any wr
          go_wp2_with fail
          refine hAl.mono ?_
          clear hAl
          rintro e w5 ⟨rfl, hb5⟩
          have HZ := Lib.hid (below_more HB3.out hb5)
          clear hb5
          go_wp2_with fail
          go_ret
          exact ⟨rfl, HZ.out⟩
  · have HU := Lib.hid hu
    clear hu
    go_wp2_with fail
    refine hN.mono ?_
    clear hN y0 y1
    rintro e w2 ⟨hb2, hh⟩
    have HB2 := Lib.hid (below_more HB1.out hb2)
    have hN := name_any { data := #[] } u { data := #[] } w2 (by decide) (by decide)
    have hcase : ∃ Z two, e = .returned (.tuple #[.string Z, .bool two]) := by
      rcases hh with ⟨_, rfl⟩ | ⟨_, rfl⟩
      · exact ⟨_, _, rfl⟩
      · exact ⟨_, _, rfl⟩
    clear hh hb2
    obtain ⟨Z, two, rfl⟩ := hcase
    go_wp2_with fail
    refine hN.mono ?_
    clear hN
    rintro e w3 ⟨hb3, ⟨hyes, _⟩ | ⟨_, rfl⟩⟩
    · exact absurd hyes HU.out
    have HB3 := Lib.hid (below_more HB2.out hb3)
    clear hb3
    go_wp2_with fail
    go_loopw [13, 48] (fun q i wr => URel [] 0 q i wr w3) (fun _ i _ => 0 - (intOf i).toNat)
    case atStart => exact ⟨0, rfl, Nat.zero_le _, rfl, rfl⟩
    case round =>
      obtain ⟨k, rfl, hk, rfl, rfl⟩ := hrel
      obtain rfl : k = 0 := by omega
      have hAl := alive_any wr
      go_wp2_with fail
      refine hAl.mono ?_
      clear hAl
      rintro e w5 ⟨rfl, hb5⟩
      have HZ := Lib.hid (below_more HB3.out hb5)
      clear hb5
      go_wp2_with fail
      go_ret
      exact ⟨rfl, HZ.out⟩
end Go.Proofs.Ytkjofadabaecfaa

/-
  From the rows' reading of arguments to what the walks ask: binds, what came of them, and the two halves of a name.
-/
namespace Go.Proofs.Ytkjofadabaecfaa
open Go.ChangeShapes Go.WideShapes Go.ChangeAt Go.RowKit

section
variable {H : Type} {enc : TypeId × Value → H} {W : World} {base b0 : Nat} {spare : Nat → Bool} {held : Bool} {r : Reach} {v : Value} {d : DataW H} {p : List MemPlace}

theorem data_size (s : ByteArray) : s.data.toList.length = s.size := by rw [Array.length_toList]; rfl
set_option maxRecDepth 100000 in
theorem bind_open (hv : Value.okWide Try.prog W r b0 23 v) (h : DataW.Trod enc Try.prog W base spare held 23 v d p) (hw : ∀ n ∈ d.weights Try.prog 23, n ≤ reachBytes) :
    ∃ (n : Int) (s t : ByteArray), v = .agg #[.int .i64 n, .string s, .string t] ∧ s.size ≤ 140737488355328 ∧ t.size ≤ 140737488355328 := by
  obtain ⟨c0, c1, c2, y0, y1, y2, m, rfl, rfl, rfl, hy0, hy1, hy2⟩ := Go.Joins.open_agg3 Try.underlying23 (by kernel_rfl) (by kernel_rfl) hv h
  obtain ⟨n, e0, _, _⟩ := DataW.trod_int Try.underlying3 hy0
  obtain ⟨s1, e1, x1, _⟩ := DataW.trod_string Try.underlying9 hy1
  obtain ⟨s2, e2, x2, _⟩ := DataW.trod_string Try.underlying9 hy2
  injection e0 with e0 _
  injection e1 with e1 _
  injection e2 with e2 _
  subst e0 e1 e2 x1 x2
  have e : (DataW.agg [y0.1, .lit (.string s1.data.toList), .lit (.string s2.data.toList)] : DataW H).weights Try.prog 23 = y0.1.weights Try.prog 3 ++ ([s1.data.toList.length] ++ ([s2.data.toList.length] ++ [])) := by
    simp only [DataW.weights, Try.underlying23]
    rfl
  rw [e] at hw
  have hr := reach_small
  have h1 := hw s1.data.toList.length (by simp)
  have h2 := hw s2.data.toList.length (by simp)
  rw [data_size] at h1 h2
  exact ⟨n, s1, s2, rfl, by omega, by omega⟩
set_option maxRecDepth 100000 in
theorem bound_open (hv : Value.okWide Try.prog W r b0 34 v) (h : DataW.Trod enc Try.prog W base spare held 34 v d p) (hw : ∀ n ∈ d.weights Try.prog 34, n ≤ reachBytes) :
    ∃ (n c : Int) (s t : ByteArray), v = .agg #[.int .i64 n, .int .i64 c, .string s, .string t] ∧ s.size ≤ 140737488355328 ∧ t.size ≤ 140737488355328 := by
  obtain ⟨c0, c9, c1, c2, y0, y9, y1, y2, m, rfl, rfl, rfl, hy0, hy9, hy1, hy2⟩ := Go.Joins.open_agg4 Try.underlying34 (by kernel_rfl) (by kernel_rfl) hv h
  obtain ⟨n, e0, _, _⟩ := DataW.trod_int Try.underlying3 hy0
  obtain ⟨k, e9, _, _⟩ := DataW.trod_int Try.underlying3 hy9
  obtain ⟨s1, e1, x1, _⟩ := DataW.trod_string Try.underlying9 hy1
  obtain ⟨s2, e2, x2, _⟩ := DataW.trod_string Try.underlying9 hy2
  injection e0 with e0 _
  injection e9 with e9 _
  injection e1 with e1 _
  injection e2 with e2 _
  subst e0 e9 e1 e2 x1 x2
  have e : (DataW.agg [y0.1, y9.1, .lit (.string s1.data.toList), .lit (.string s2.data.toList)] : DataW H).weights Try.prog 34 = y0.1.weights Try.prog 3 ++ (y9.1.weights Try.prog 3 ++ ([s1.data.toList.length] ++ ([s2.data.toList.length] ++ []))) := by
    simp only [DataW.weights, Try.underlying34]
    rfl
  rw [e] at hw
  have hr := reach_small
  have h1 := hw s1.data.toList.length (by simp)
  have h2 := hw s2.data.toList.length (by simp)
  rw [data_size] at h1 h2
  exact ⟨n, k, s1, s2, rfl, by omega, by omega⟩
set_option maxRecDepth 100000 in
theorem pair_open (hv : Value.okWide Try.prog W r b0 39 v) (h : DataW.Trod enc Try.prog W base spare held 39 v d p) (hw : ∀ n ∈ d.weights Try.prog 39, n ≤ reachBytes) :
    ∃ (s t : ByteArray), v = .agg #[.string s, .string t] ∧ s.size ≤ 140737488355328 ∧ t.size ≤ 140737488355328 := by
  simp only [Value.okWide, Try.underlying39] at hv
  obtain ⟨cs, rfl, hsz, _⟩ := hv
  rw [show Try.prog.cellsOf 39 = 2 by kernel_rfl] at hsz
  obtain ⟨c0, c1, rfl⟩ : ∃ c0 c1, cs = #[c0, c1] := by
    obtain ⟨l⟩ := cs
    match l, hsz with
    | [c0, c1], _ => exact ⟨c0, c1, rfl⟩
  obtain ⟨fuel, hf⟩ := h
  obtain ⟨xs, m, _, hx, _, hxl, hall⟩ := DataW.trod_array Try.underlying39 hf
  have k1 : Try.prog.cellsOf 9 = 1 := by kernel_rfl
  rw [k1] at hall
  match xs, hxl with
  | [x0, x1], _ =>
    have g0 := hall 0 (by decide)
    have g1 := hall 1 (by decide)
    obtain ⟨s0, e0, z0, _⟩ := DataW.trod_string Try.underlying9 g0
    obtain ⟨s1, e1, z1, _⟩ := DataW.trod_string Try.underlying9 g1
    injection e0 with e0 _
    injection e1 with e1 _
    subst e0 e1 z0 z1
    simp only [Prod.mk.injEq] at hx
    obtain ⟨rfl, _⟩ := hx
    have e : (DataW.agg [.lit (.string s0.data.toList), .lit (.string s1.data.toList)] : DataW H).weights Try.prog 39 = [s0.data.toList.length] ++ ([s1.data.toList.length] ++ []) := by
      simp only [DataW.weights, Try.underlying39]
      rfl
    rw [show (List.map (fun x : DataW H × List MemPlace => x.1) [(.lit (.string s0.data.toList), []), (.lit (.string s1.data.toList), [])]) = [.lit (.string s0.data.toList), .lit (.string s1.data.toList)] from rfl, e] at hw
    have hr := reach_small
    have h1 := hw s0.data.toList.length (by simp)
    have h2 := hw s1.data.toList.length (by simp)
    rw [data_size] at h1 h2
    exact ⟨s0, s1, rfl, by omega, by omega⟩
end
end Go.Proofs.Ytkjofadabaecfaa
