/-
  The program's Name.
-/
import Derived.Test.YtkjofadabaecfaaLBld
import Derived.Test.YtkjofadabaecfaaLN
import Derived.Test.YtkjofadabaecfaaTVal
import Derived.Deep.RegionHeld
namespace Go.Proofs.Ytkjofadabaecfaa
open Go.RowKit

set_option maxHeartbeats 400000 in
theorem liteIndex_any (s : ByteArray) (c : Int) (w : World) :
    Calls Try.prog 45 #[.string s, .int .u8 c] w fun e w' => e = .returned (.int .i64 (Lib.indexByte s.data.toList c.toNat.toUInt8)) ∧ w = w' := by
  go_enter Try.func45, Try.ntmps45
  go_wp2
  rw [run_callFunc_extern Try.func55 (by kernel_rfl) (by kernel_rfl) (by kernel_rfl) (e := Extern.BytealgIndexByte.indexByte) (by kernel_rfl), Lib.run_indexByteString]
  simp only [Result.andThen]
  rw [Oper.upon_value]
  go_wp2
  go_ret
  exact ⟨rfl, rfl⟩
set_option maxHeartbeats 400000 in
theorem index_any (s : ByteArray) (c : Int) (w : World) :
    Calls Try.prog 33 #[.string s, .int .u8 c] w fun e w' => e = .returned (.int .i64 (Lib.indexByte s.data.toList c.toNat.toUInt8)) ∧ w = w' := by
  go_enter Try.func33, Try.ntmps33
  go_wp2_with (go_at_call 45; refine (liteIndex_any _ _ _).mono ?_; rintro e w' ⟨rfl, rfl⟩)
  go_ret
  exact ⟨rfl, rfl⟩
abbrev specB : ByteArray := { data := #[44, 43, 34, 92, 60, 62, 59, 61, 35] }
theorem index_spec : ∀ c, c < 256 → (0 ≤ Lib.indexByte specB.data.toList (((c : Nat) : Int).toNat.toUInt8) ↔ c ∈ Nq.specials) := by decide +kernel
/-- Whether a byte needs a sign ahead of it. -/
theorem special_any (c : Nat) (hc : c < 256) (w : World) : Calls Try.prog 33 #[.string specB, .int .u8 (c : Int)] w fun e w' => ∃ I : Int, e = .returned (.int .i64 I) ∧ (0 ≤ I ↔ c ∈ Nq.specials) ∧ w = w' :=
  (index_any specB c w).mono fun _ _ ⟨he, hw⟩ => ⟨_, he, index_spec c hc, hw⟩
theorem nums_get (s : ByteArray) (k : Nat) (h : k < s.size) : (numsOf s)[k]? = some (s[k]'h).toNat := by
  have h' : k < s.data.toList.length := by simpa using h
  simp only [numsOf, List.getElem?_map, List.getElem?_eq_getElem h', Option.map_some, Option.some.injEq]
  rfl
/-- How a name's making ends. -/
def NameEnd (a u b : ByteArray) (w : World) (e : Ending) (w' : World) : Prop := Below w.heap.size w w' ∧
  ((Nq.UserOk (numsOf u) ∧ e = .returned (.tuple #[.string (a ++ strOf (Nq.esc (numsOf u)) ++ b), .bool true])) ∨
   (¬ Nq.UserOk (numsOf u) ∧ e = .returned (.tuple #[.string { data := #[] }, .bool false])))
/-- What holds at each round. -/
def NRel (V : Nat) (u : ByteArray) (W0 : World) (i : Value) (wr : World) : Prop :=
  ∃ k : Nat, i = .int .i64 k ∧ k ≤ u.size ∧ (∀ c ∈ (numsOf u).take k, 33 ≤ c ∧ c ≤ 126) ∧ Bld (V + 1) (V + 1) (Nq.esc ((numsOf u).take k)) wr ∧ Below (V + 1) W0 wr

set_option maxHeartbeats 1000000 in
set_option maxRecDepth 100000 in
theorem name_any (a u b : ByteArray) (w : World) (ha : a.size ≤ 140737488355328) (hb : b.size ≤ 140737488355328) :
    Calls Try.prog 19 #[.agg #[.string a, .string b], .string u] w (NameEnd a u b w) := by
  have hlen := numsOf_length u
  have hba : ∀ o, Below w.heap.size w (w.alloc o) := fun o => (Below.refl _ _).alloc (Nat.le_refl _) _
  by_cases h0 : u.size = 0
  · have hu : u = ByteArray.empty := by
      apply ByteArray.ext
      exact Array.eq_empty_of_size_eq_zero h0
    have HQ : Hid (∀ o, NameEnd a u b w (.returned (.tuple #[.string { data := #[] }, .bool false])) (w.alloc o)) := fun o => ⟨hba o, .inr ⟨fun h => by have := h.1.1; omega, rfl⟩⟩
    rw [hu] at HQ ⊢
    clear hlen hba h0 hu
    go_enter Try.func19, Try.ntmps19
    go_wp2
    go_ret2
    exact HQ.out _
  have hne : u.toList ≠ [] := fun e => h0 (by
    have h1 : u.toList.length = u.size := by rw [ByteArray.toList_eq, Array.length_toList]; rfl
    rw [e] at h1
    simpa using h1.symm)
  have he : u.toList.isEmpty = false := by
    cases h : u.toList with
    | nil => exact absurd h hne
    | cons x l => rfl
  by_cases h64 : 64 < u.size
  · have HQ : Hid (∀ o, NameEnd a u b w (.returned (.tuple #[.string { data := #[] }, .bool false])) (w.alloc o)) := fun o => ⟨hba o, .inr ⟨fun h => by have := h.1.2; omega, rfl⟩⟩
    have hd : decide ((64 : Int) < (u.size : Int)) = true := decide_eq_true (by omega)
    clear hlen hba
    go_enter Try.func19, Try.ntmps19
    go_wp2
    go_ret2
    exact HQ.out _
  have hd : decide ((64 : Int) < (u.size : Int)) = false := decide_eq_false (by omega)
  have HLen := Lib.hid hlen
  obtain ⟨V, eV⟩ : ∃ V, w.heap.size = V := ⟨_, rfl⟩
  have HB0 : Hid (∀ W0, (w.alloc (.cells #[.string a, .string b] 39)).alloc (.cells #[.pointer none, nilS] 66) = W0 → Below w.heap.size w W0 ∧ Lies W0 V 39 [.string a, .string b] ∧ Bld (V + 1) (V + 1) [] W0 ∧ V + 1 < W0.heap.size) := by
    intro W0 h
    subst h
    refine ⟨below_alloc (hba _) _, (Lies.new_ eV.symm).alloc _, .inl ⟨Nat.le_refl _, nilS, ?_, World.ownsRow_nil _ _ _ _, fun e => nomatch e⟩, by simp; omega⟩
    have := heap_alloc_new (w.alloc (.cells #[.string a, .string b] 39)) (.cells #[.pointer none, nilS] 66)
    rw [show (w.alloc (.cells #[.string a, .string b] 39)).heap.size = V + 1 by simp [eV]] at this
    exact this
  clear hlen hba
  go_enter Try.func19, Try.ntmps19
  go_wp2_with fail
  generalize hW0 : World.alloc (World.alloc w _) _ = W0
  obtain ⟨hb0, hL0, hBl, hVlt⟩ := HB0.out _ hW0
  have HL0 := Lib.hid hL0
  have HBW := Lib.hid hb0
  have hwV : w.heap.size ≤ V := Nat.le_of_eq eV
  have HST : Hid (NRel V u W0 (.int .i64 0) W0) := ⟨0, rfl, Nat.zero_le _, fun c hc => by simp at hc, hBl, Below.refl _ _⟩
  have hN64 : u.size ≤ 64 := by omega
  have hN1 : 1 ≤ u.size := by omega
  clear hW0 HB0 hb0 hL0 hBl eV h0 h64 he hne hd
  go_loopw [18] (fun i wr => NRel V u W0 i wr) (fun i _ => u.size - (intOf i).toNat)
  case atStart => exact HST.out
  case round =>
    obtain ⟨k, rfl, hk, hall, hbl, hb⟩ := hrel
    have HALL := Lib.hid hall
    have hs := hb.size
    have hVr : V + 1 < wr.heap.size := by omega
    have hesc := (Nq.esc_len ((numsOf u).take k)).2
    rw [List.length_take] at hesc
    have hLr := HL0.out.below hb (by omega)
    clear hall
    by_cases hlt : k < u.size
    · have hX := Lib.hid (nums_get u k hlt)
      have hx256 := u[k].toNat_lt
      by_cases hr : u[k].toNat < 33 ∨ 126 < u[k].toNat
      · have HQ : Hid (NameEnd a u b w (.returned (.tuple #[.string { data := #[] }, .bool false])) wr) := ⟨HBW.out.trans (hb.mono (by omega)), .inr ⟨fun h => by have := h.2 _ (List.mem_of_getElem? hX.out); omega, rfl⟩⟩
        have hdd : decide ((u[k].toNat : Int) < 33) = true ∨ (decide ((u[k].toNat : Int) < 33) = false ∧ decide ((126 : Int) < (u[k].toNat : Int)) = true) := by
          by_cases h : u[k].toNat < 33
          · exact .inl (decide_eq_true (by omega))
          · exact .inr ⟨decide_eq_false (by omega), decide_eq_true (by omega)⟩
        clear hbl hb hr hesc hLr
        rcases hdd with d1 | ⟨d1, d2⟩
        all_goals
          go_wp2
          go_ret2
          exact HQ.out
      have d1 : decide ((u[k].toNat : Int) < 33) = false := decide_eq_false (by omega)
      have d2 : decide ((126 : Int) < (u[k].toNat : Int)) = false := decide_eq_false (by omega)
      have HR := Lib.hid hr
      have hS := special_any u[k].toNat hx256 wr
      clear hr
      go_wp2_with fail
      refine hS.mono ?_
      rintro e w1 ⟨I, rfl, hI, hw1⟩
      subst hw1
      clear hS
      have HESC : Hid (Nq.esc ((numsOf u).take (k + 1)) = Nq.esc ((numsOf u).take k) ++ Nq.unit u[k].toNat) := Nq.esc_snoc hX.out
      have HALL1 : Hid (∀ c ∈ (numsOf u).take (k + 1), 33 ≤ c ∧ c ≤ 126) := by
        intro c hc
        rw [List.take_add_one, hX.out] at hc
        rcases List.mem_append.1 hc with hc | hc
        · exact HALL.out c hc
        · simp at hc
          have := HR.out
          omega
      by_cases hsp : u[k].toNat ∈ Nq.specials
      · have hd3 : decide (0 ≤ I) = true := decide_eq_true (hI.2 hsp)
        have HU : Hid (Nq.unit u[k].toNat = [92, u[k].toNat]) := if_pos hsp
        have hW1 := writeByte_any (V + 1) (V + 1) _ 92 wr hbl (by omega) (by omega)
        clear hI hsp hbl
        go_wp2_with fail
        refine hW1.mono ?_
        rintro e w2 ⟨rfl, hbl2, hb2⟩
        have hW2 := writeByte_any (V + 1) (V + 1) _ u[k].toNat w2 hbl2 (by simp; omega) (by have := hb2.size; omega)
        clear hW1 hbl2
        go_wp2_with fail
        refine hW2.mono ?_
        rintro e w3 ⟨rfl, hbl3, hb3⟩
        have HREL : Hid (NRel V u W0 (.int .i64 ((k + 1 : Nat) : Int)) w3) := ⟨k + 1, rfl, hlt, HALL1.out, by rw [HESC.out, HU.out]; simpa using hbl3, hb.trans (hb2.trans hb3)⟩
        clear hW2 hbl3 hb2 hb3 hb hesc hLr
        go_wp2
        go_roundw
        case rel => exact HREL.out
        case measure => simp [intOf]; omega
      · have hd3 : decide (0 ≤ I) = false := decide_eq_false (fun h => hsp (hI.1 h))
        have HU : Hid (Nq.unit u[k].toNat = [u[k].toNat]) := if_neg hsp
        have hW2 := writeByte_any (V + 1) (V + 1) _ u[k].toNat wr hbl (by omega) (by omega)
        clear hI hsp hbl
        go_wp2_with fail
        refine hW2.mono ?_
        rintro e w3 ⟨rfl, hbl3, hb3⟩
        have HREL : Hid (NRel V u W0 (.int .i64 ((k + 1 : Nat) : Int)) w3) := ⟨k + 1, rfl, hlt, HALL1.out, by rw [HESC.out, HU.out]; exact hbl3, hb.trans hb3⟩
        clear hW2 hbl3 hb3 hb hesc hLr
        go_wp2
        go_roundw
        case rel => exact HREL.out
        case measure => simp [intOf]; omega
    · obtain rfl : k = u.size := by omega
      have hd2 : decide ((u.size : Int) < (u.size : Int)) = false := by simp
      have hfull : (numsOf u).take u.size = numsOf u := List.take_of_length_le (by rw [HLen.out]; exact Nat.le_refl _)
      rw [hfull] at hbl hesc HALL
      have hSt := fun W (h : Bld (V + 1) (V + 1) (Nq.esc (numsOf u)) W) (hW : V + 1 ≤ W.heap.size) => string_any (V + 1) (V + 1) (Nq.esc (numsOf u)) W h (Nq.esc_lt (numsOf_lt u)) hW
      obtain ⟨X, eX⟩ : ∃ X, strOf (Nq.esc (numsOf u)) = X := ⟨_, rfl⟩
      have hX : X.size ≤ 128 := by rw [← eX, strOf_size]; omega
      have hs1 : ¬ 9223372036854775807 < a.size + X.size := by omega
      have hs2 : ¬ 9223372036854775807 < a.size + X.size + b.size := by omega
      rw [eX] at hSt
      have HOK : Hid (Nq.UserOk (numsOf u)) := ⟨by rw [HLen.out]; omega, HALL.out⟩
      have hSd := hSt wr.drew hbl (by show V + 1 ≤ wr.heap.size; omega)
      have HB := Lib.hid hb
      have KP : Hid (∀ W, Below (V + 1) wr W → (W.cell? ⟨V, 0, none⟩ = some (.string a) ∧ W.cell? ⟨V, 1, none⟩ = some (.string b))) := fun W h =>
        ⟨(h.cell (p := ⟨V, 0, none⟩) (by show V < V + 1; omega)).trans (hLr.cell 0), (h.cell (p := ⟨V, 1, none⟩) (by show V < V + 1; omega)).trans (hLr.cell 1)⟩
      have HEX := Lib.hid eX
      clear hfull hbl hesc hSt eX hX hb hLr HALL
      go_upto_region 14 with (fail)
      go_region_held (fun W => W.cell? ⟨V, 0, none⟩ = some (.string a) ∧ W.cell? ⟨V, 1, none⟩ = some (.string b))
        ((refine KP.out _ ?_; first | exact (Below.refl _ _).drew | exact below_undrew (by assumption)))
        (first | (go_at_call 35; refine hSd.mono ?_; rintro e w2 ⟨rfl, hb2⟩))
      all_goals
        have HQ : Hid (NameEnd a u b w (.returned (.tuple #[.string (a ++ X ++ b), .bool true])) w2) := ⟨HBW.out.trans ((HB.out.trans (below_undrew hb2)).mono (by omega)), .inl ⟨HOK.out, by rw [HEX.out]⟩⟩
        clear hb2
        go_wp2
        go_ret2
        exact HQ.out
end Go.Proofs.Ytkjofadabaecfaa
