/-
  QC: JWord JHex JUint JUnit JEsc JLetter JTextR JNumber, side by side.
-/
import Derived.Test.YthklgpflaghojaaGreatDoorQB
import Derived.Test.YthklgpflaghojaaGreatDoorQM
import Derived.Lib.ConvBytes
import Derived.Laws.Strings3
import Derived.Laws.Closers25
import Derived.Laws.Closers25b
import Derived.BigCall
import Derived.BigGuard

/-
  The reader's word; texts and numbers as values.
-/
namespace Go.Proofs.YthklgpflaghojaaGreatDoor
open Go.RowKit

abbrev nilS : Value := .slice none 0 0
theorem gb_alloc {w w' : World} {o : Obj} {r : Option Nat} (h : (w.alloc o).grownBy w' r) : w.grownBy w' r := gb_trans (World.grownBy_alloc w o r) h
theorem Rd.alloc {W w : World} {R d : Nat} {s : ByteArray} (h : Rd W R s d w) (o : Obj) : Rd W R s d (w.alloc o) := h.more ((Below.refl _ _).alloc (Nat.le_refl _) o)

theorem isJ_bare (w : World) (ok : Nat → Prop) {k n : Int} {b : Bool} (hk : -9223372036854775808 ≤ k ∧ k ≤ 9223372036854775807) (hn : -9223372036854775808 ≤ n ∧ n ≤ 9223372036854775807) : IsJ w ok (jv k b n ByteArray.empty nilS nilS) (.mk k b n [] [] []) :=
  isJ_plain w ok (t := []) hk hn ⟨Nat.zero_le _, fun _ h => nomatch h⟩

set_option maxHeartbeats 2000000 in
set_option maxRecDepth 100000 in
theorem word_any (W : World) (R d : Nat) (s p : ByteArray) (k : Int) (b : Bool) (hk : 0 ≤ k ∧ k ≤ 5) (w : World) (h : Rd W R s d w) :
    Calls Tryz.prog 117 #[.pointer (some ⟨R, 0, none⟩), .string p, jv k b 0 ByteArray.empty nilS nilS] w fun e w' => Ends W R d w (fun x v w' => IsJ w' (w.heap.size ≤ ·) v x) (Jq.word (numsOf p) (.mk k b 0 [] [] []) (numsOf s)) e w' := by
  have hC := fun w => cutPrefix_any s p w
  obtain ⟨c0, _, f0, _⟩ := h.cells
  have hlt := h.lt
  go_enter Tryz.func117, Tryz.ntmps117
  go_wp2_with fail
  refine (hC _).mono ?_
  rintro e w1 ⟨rfl, ⟨x, rfl, hp, hx⟩ | ⟨rfl, hp⟩⟩
  · have HP : Hid (Jq.word (numsOf p) (.mk k b 0 [] [] []) (numsOf s) = .ok (.mk k b 0 [] [] [], (numsOf s).drop (numsOf p).length)) := if_pos (by rw [numsOf_length]; exact hp)
    have hxs : x.size ≤ 4096 := by
      have := h.small
      rw [hx, ← numsOf_length, nums_from, List.length_drop, numsOf_length]; omega
    have HX : Hid (numsOf x = (numsOf s).drop (numsOf p).length) := by unfold Hid; rw [hx, nums_from, numsOf_length]
    clear hp hx hC
    have h3 := h.set0 hxs
    go_wp2
    exact bodyPost_ret (v := jv k b 0 ByteArray.empty nilS nilS) (by simp [results, Tryz.results117, go_sem]) rfl (Ends.ok HP.out (isJ_bare _ _ (by omega) (by decide)) HX.out ((h3.alloc _).alloc _) (gb_trans (gb_set _ _ _ _) (gb_alloc (gb_alloc (World.grownBy.refl _ _)))))
  · have HP : Hid (Jq.word (numsOf p) (.mk k b 0 [] [] []) (numsOf s) = .error 51) := if_neg (by rw [numsOf_length]; exact hp)
    clear hp hC
    go_wp2
    exact ⟨rfl, Ends.err HP.out (gb_alloc (gb_alloc (World.grownBy.refl _ _)))⟩

set_option maxRecDepth 100000 in
set_option maxHeartbeats 1000000 in
theorem textJ_any (t : ByteArray) (ht : t.size ≤ 140737488355328) (w : World) :
    Calls Tryz.prog 57 #[.string t] w fun e w' => e = .returned (jv 3 false 0 t nilS nilS) ∧ IsJ w' (w.heap.size ≤ ·) (jv 3 false 0 t nilS nilS) (Jq.textJ (numsOf t)) ∧ Below w.heap.size w w' := by
  have hJ := fun w' => isJ_plain w' (w.heap.size ≤ ·) (k := 3) (n := 0) (b := false) (t := numsOf t) (by decide) (by decide) ⟨by rw [numsOf_length]; exact ht, numsOf_lt t⟩
  rw [strOf_numsOf] at hJ
  go_enter Tryz.func57, Tryz.ntmps57
  go_wp2
  exact bodyPost_ret (v := jv 3 false 0 t nilS nilS) (by simp [results, Tryz.results57, go_sem]) rfl ⟨rfl, hJ _, (Below.refl _ _).alloc (Nat.le_refl _) _⟩
set_option maxRecDepth 100000 in
set_option maxHeartbeats 1000000 in
theorem intJ_any (n : Int) (hn : -9223372036854775808 ≤ n ∧ n ≤ 9223372036854775807) (w : World) :
    Calls Tryz.prog 121 #[.int .i64 n] w fun e w' => e = .returned (jv 2 false n ByteArray.empty nilS nilS) ∧ IsJ w' (w.heap.size ≤ ·) (jv 2 false n ByteArray.empty nilS nilS) (Jq.intJ n) ∧ Below w.heap.size w w' := by
  have hJ := fun w' => isJ_bare w' (w.heap.size ≤ ·) (k := 2) (n := n) (b := false) (by decide) hn
  clear hn
  go_enter Tryz.func121, Tryz.ntmps121
  go_wp2
  exact bodyPost_ret (v := jv 2 false n ByteArray.empty nilS nilS) (by simp [results, Tryz.results121, go_sem]; rfl) rfl ⟨rfl, hJ _, (Below.refl _ _).alloc (Nat.le_refl _) _⟩
end Go.Proofs.YthklgpflaghojaaGreatDoor

/-
  What four hexadecimal signs say, sign by sign.
-/
namespace Go.Proofs.YthklgpflaghojaaGreatDoor

/-- What so many hexadecimal signs from a place on say. -/
def hexN (S : List Nat) (i : Nat) : Nat → Nat
  | 0 => 0
  | k + 1 => hexN S i k * 16 + Jq.hexv (S.getD (i + k) 0)
theorem four_short : ∀ (l : List Nat), l.length < 4 → Jq.four l = none
  | [], _ => rfl
  | [_], _ => rfl
  | [_, _], _ => rfl
  | [_, _, _], _ => rfl
  | _ :: _ :: _ :: _ :: _, h => by simp at h; omega
theorem getD_drop (S : List Nat) (i j : Nat) : (S.drop i).getD j 0 = S.getD (i + j) 0 := by
  rw [List.getD_eq_getElem?_getD, List.getElem?_drop, List.getD_eq_getElem?_getD]
theorem four_yes {S : List Nat} {i : Nat} (h : ∀ j, j < 4 → Jq.hexv (S.getD (i + j) 0) < 16) : Jq.four (S.drop i) = some (hexN S i 4) := by
  have hl : 4 ≤ (S.drop i).length := by
    rcases Nat.lt_or_ge (S.drop i).length 4 with hl | hl
    · exfalso
      have := h 3 (by omega)
      rw [← getD_drop, List.getD_eq_getElem?_getD, List.getElem?_eq_none (by omega)] at this
      exact absurd this (by decide)
    · exact hl
  have h0 := h 0 (by omega)
  have h1 := h 1 (by omega)
  have h2 := h 2 (by omega)
  have h3 := h 3 (by omega)
  simp only [hexN]
  rw [← getD_drop] at h0 h1 h2 h3
  rw [← getD_drop, ← getD_drop, ← getD_drop, ← getD_drop]
  match hd : S.drop i, hl with
  | a :: b :: c :: d :: r, _ =>
    rw [hd] at h0 h1 h2 h3
    rw [Jq.four, if_pos ⟨h0, h1, h2, h3⟩]
    simp
theorem four_no {S : List Nat} {i j : Nat} (hj : j < 4) (h : ¬ Jq.hexv (S.getD (i + j) 0) < 16) : Jq.four (S.drop i) = none := by
  rcases Nat.lt_or_ge (S.drop i).length 4 with hl | hl
  · exact four_short _ hl
  rw [← getD_drop] at h
  match hd : S.drop i, hl with
  | a :: b :: c :: d :: r, _ =>
    rw [hd] at h
    rw [Jq.four, if_neg]
    rintro ⟨h0, h1, h2, h3⟩
    match j, hj with
    | 0, _ => exact h h0
    | 1, _ => exact h h1
    | 2, _ => exact h h2
    | 3, _ => exact h h3
theorem hexN_lt {S : List Nat} {i : Nat} : ∀ (k : Nat), (∀ j, j < k → Jq.hexv (S.getD (i + j) 0) < 16) → hexN S i k < 16 ^ k
  | 0, _ => Nat.lt_of_lt_of_le Nat.zero_lt_one (Nat.le_refl _)
  | k + 1, h => by
    have ih := hexN_lt k fun j hj => h j (by omega)
    have := h k (by omega)
    rw [hexN, Nat.pow_succ]
    omega
end Go.Proofs.YthklgpflaghojaaGreatDoor

/-
  The library's ParseUint on four bytes, at base 16 and 16 bits.
-/
namespace Go.Proofs.YthklgpflaghojaaGreatDoor
open Go.RowKit

/-- How ParseUint ends. -/
def HexEnd (L : List Nat) (w : World) (e : Ending) (w' : World) : Prop :=
  Below w.heap.size w w' ∧ ((∃ n : Nat, Jq.four L = some n ∧ e = .returned (.tuple #[.int .u64 (n : Int), .nilIface])) ∨ (Jq.four L = none ∧ ∃ v : Int, e = .returned (.tuple #[.int .u64 v, .iface 186 (.int .i64 2)])))
theorem HexEnd.ok {L : List Nat} {w w' : World} {n : Nat} {a : Int} (hb : Below w.heap.size w w') (h : Jq.four L = some n) (ha : a = (n : Int)) : HexEnd L w (.returned (.tuple #[.int .u64 a, .nilIface])) w' :=
  ⟨hb, .inl ⟨n, h, by rw [ha]⟩⟩
theorem HexEnd.no {L : List Nat} {w w' : World} {v : Int} (hb : Below w.heap.size w w') (h : Jq.four L = none) : HexEnd L w (.returned (.tuple #[.int .u64 v, .iface 186 (.int .i64 2)])) w' :=
  ⟨hb, .inr ⟨h, v, rfl⟩⟩
set_option maxRecDepth 100000 in
theorem lower_any (c : Int) (w : World) : Calls Tryz.prog 179 #[.int .u8 c] w fun e w' => e = .returned (.int .u8 (bits .or .u8 c 32)) ∧ w = w' := by
  go_enter Tryz.func179, Tryz.ntmps179
  go_wp2
  go_ret
  exact ⟨rfl, rfl⟩
set_option maxRecDepth 100000 in
theorem low_letter : ∀ x : Fin 256, (65 ≤ x.val → x.val ≤ 90 → bits .or .u8 ((x.val : Nat) : Int) 32 = ((x.val + 32 : Nat) : Int)) ∧ (97 ≤ x.val → x.val ≤ 122 → bits .or .u8 ((x.val : Nat) : Int) 32 = ((x.val : Nat) : Int)) ∧ (¬ (65 ≤ x.val ∧ x.val ≤ 90) → ¬ (97 ≤ x.val ∧ x.val ≤ 122) → ¬ (97 ≤ bits .or .u8 ((x.val : Nat) : Int) 32 ∧ bits .or .u8 ((x.val : Nat) : Int) 32 ≤ 122)) := by decide

set_option maxHeartbeats 16000000 in
set_option maxRecDepth 100000 in
theorem parseHex_any (t : ByteArray) (ht : t.size = 4) (w : World) :
    Calls Tryz.prog 173 #[.string t, .int .i64 16, .int .i64 16] w fun e w' => HexEnd (numsOf t) w e w' := by
  have hemp : t.toList.isEmpty = false := by
    rw [ByteArray.toList_eq]
    cases hh : t.data.toList with
    | nil => have := congrArg List.length hh; rw [Array.length_toList] at this; exact absurd (show t.size = 0 from this) (by omega)
    | cons a r => rfl
  have hcv := Lib.run_convert_string_bytes (P := Tryz.prog) w 9 27 5 t (u := .string) Tryz.underlying9 Tryz.underlying27 Tryz.underlying5
  have hB : ∀ j, j < 4 → (Lib.bytesWorld w 5 t).cell? ⟨w.heap.size, j, none⟩ = some (.int .u8 ((numsOf t).getD j 0 : Nat)) := fun j hj => by
    rw [Lib.bytesWorld_cell w 5 t j (by omega), numsOf, Jq.getD_map]
  have hbel := Lib.hid (Lib.bytesWorld_below w 5 t)
  obtain ⟨W1, hW1⟩ : ∃ W1, W1 = Lib.bytesWorld w 5 t := ⟨_, rfl⟩
  rw [← hW1] at hcv hB hbel
  rw [ht] at hcv
  have hl4 : (numsOf t).length = 4 := by rw [numsOf_length]; exact ht
  have hlt256 := nums_lt t
  obtain ⟨L, hL⟩ : ∃ L, L = numsOf t := ⟨_, rfl⟩
  rw [← hL] at hB hl4 hlt256 ⊢
  clear hW1 hL
  have hmv : IntKind.u64.wrap (IntKind.u64.wrap 65536 - 1) = 65535 := by
    rw [IntKind.wrap_u64, IntKind.wrap_u64]
    decide
  have Hl4 := Lib.hid hl4
  have HLT := Lib.hid hlt256
  clear hl4 hlt256
  have hlow := fun (c : Int) w => lower_any c w
  go_enter Tryz.func173, Tryz.ntmps173
  go_wp2_with fail
  go_loop [12, 13, 101] (fun vu vn vi => ∃ (k : Nat) (a : Int), vu = .bool false ∧ vn = .int .u64 a ∧ vi = .int .i64 k ∧ k ≤ 4 ∧ Hid (a = (hexN L 0 k : Nat) ∧ hexN L 0 k < 16 ^ k ∧ ∀ j, j < k → Jq.hexv (L.getD (0 + j) 0) < 16))
    (fun _ _ vi => 4 - (intOf vi).toNat)
  case atStart => exact ⟨0, 0, rfl, rfl, rfl, by omega, rfl, by show 0 < 1; omega, fun j hj => by omega⟩
  case round =>
    obtain ⟨k, a, rfl, rfl, rfl, hk, hh⟩ := hrel
    have hpw : 16 ^ k ≤ 16 ^ 4 := Nat.pow_le_pow_right (by omega) hk
    have h16 : 16 ^ 4 = 65536 := by decide
    have a0 : 0 ≤ a := by have := hh.out.1; omega
    have a1 : a ≤ 65535 := by have := hh.out; omega
    by_cases hkn : k < 4
    · have a2 : a ≤ 4095 := by
        have h1 := hh.out
        have h3 : 16 ^ k ≤ 16 ^ 3 := Nat.pow_le_pow_right (by omega) (by omega)
        have h4 : 16 ^ 3 = 4096 := by decide
        omega
      have hc := hB k hkn
      have hc256 := HLT.out k
      have HX : Hid (hexN L 0 (k + 1) = hexN L 0 k * 16 + Jq.hexv (L.getD (0 + k) 0)) := rfl
      have HK : Hid (L.getD (0 + k) 0 = L.getD k 0) := by unfold Hid; rw [Nat.zero_add]
      obtain ⟨c, ec⟩ : ∃ c, L.getD k 0 = c := ⟨_, rfl⟩
      rw [ec] at hc hc256 HK
      have hlo := low_letter ⟨c, hc256⟩
      simp only at hlo
      obtain ⟨l1, l2, l3⟩ := hlo
      have hyes : ∀ v, Jq.hexv c = v → v < 16 → Hid (a * 16 + (v : Int) = (hexN L 0 (k + 1) : Nat) ∧ hexN L 0 (k + 1) < 16 ^ (k + 1) ∧ ∀ j, j < k + 1 → Jq.hexv (L.getD (0 + j) 0) < 16) := fun v hv h16 => by
        have h := hh.out
        have hj : ∀ j, j < k + 1 → Jq.hexv (L.getD (0 + j) 0) < 16 := fun j hj => by
          rcases Nat.lt_or_eq_of_le (Nat.le_of_lt_succ hj) with h' | h'
          · exact h.2.2 j h'
          · rw [h', HK.out, hv]; exact h16
        refine Lib.hid ⟨?_, hexN_lt (k + 1) hj, hj⟩
        rw [HX.out, HK.out, hv]
        have := h.1
        omega
      have hno : ¬ Jq.hexv c < 16 → Hid (Jq.four L = none) := fun h => by
        have := four_no (S := L) (i := 0) (j := k) hkn (by rw [HK.out]; exact h)
        exact this
      clear hB ec hpw h16
      by_cases hd : 48 ≤ c ∧ c ≤ 57
      · have HN := hyes (c - 48) (by unfold Jq.hexv; rw [if_pos hd]) (by omega)
        obtain ⟨hd0, hd1⟩ := hd
        clear hyes hno l1 l2 l3 hh HX HK
        go_wp2
        refine ⟨⟨k + 1, a * 16 + ((c : Int) - 48), rfl, (by first | rfl | (congr 1; omega)), (by first | rfl | (congr 1; omega)), by omega, ?_⟩, by simp [intOf]; omega⟩
        have e : ((c : Int) - 48) = ((c - 48 : Nat) : Int) := by omega
        rw [e]; exact HN
      have hlow := fun w => lower_any (c : Int) w
      by_cases hf : 97 ≤ c ∧ c ≤ 102
      · have HN := hyes (c - 87) (by unfold Jq.hexv; rw [if_neg hd, if_pos hf]) (by omega)
        have hb := l2 hf.1 (by omega)
        rw [hb] at hlow
        obtain ⟨hf0, hf1⟩ := hf
        have hn48 : ¬ ((c : Int) ≤ 57) := by omega
        have h48 : (48 : Int) ≤ c := by omega
        clear hyes hno l1 l2 l3 hh HX HK hd hb
        go_wp2_with (go_at_call 179; refine (hlow _).mono ?_; rintro e w' ⟨rfl, rfl⟩)
        refine ⟨⟨k + 1, a * 16 + ((c : Int) - 97 + 10), rfl, (by first | rfl | (congr 1; omega)), (by first | rfl | (congr 1; omega)), by omega, ?_⟩, by simp [intOf]; omega⟩
        have e : ((c : Int) - 97 + 10) = ((c - 87 : Nat) : Int) := by omega
        rw [e]; exact HN
      by_cases hF : 65 ≤ c ∧ c ≤ 70
      · have HN := hyes (c - 55) (by unfold Jq.hexv; rw [if_neg hd, if_neg hf, if_pos hF]) (by omega)
        have hb := l1 hF.1 (by omega)
        rw [hb] at hlow
        obtain ⟨hf0, hf1⟩ := hF
        have hn48 : ¬ ((c : Int) ≤ 57) := by omega
        have h48 : (48 : Int) ≤ c := by omega
        obtain ⟨m, em⟩ : ∃ m, c + 32 = m := ⟨_, rfl⟩
        rw [em] at hlow
        have m0 : 97 ≤ m := by omega
        have m1 : m ≤ 102 := by omega
        have EM := Lib.hid em
        clear hyes hno l1 l2 l3 hh HX HK hd hf hb em
        go_wp2_with (go_at_call 179; refine (hlow _).mono ?_; rintro e w' ⟨rfl, rfl⟩)
        refine ⟨⟨k + 1, a * 16 + ((m : Int) - 97 + 10), rfl, (by first | rfl | (congr 1; omega)), (by first | rfl | (congr 1; omega)), by omega, ?_⟩, by simp [intOf]; omega⟩
        have e : ((m : Int) - 97 + 10) = ((c - 55 : Nat) : Int) := by have := EM.out; omega
        rw [e]; exact HN
      have HN := hno (by unfold Jq.hexv; rw [if_neg hd, if_neg hf, if_neg hF]; omega)
      have hlet : (∃ m : Nat, bits .or .u8 (c : Int) 32 = (m : Int) ∧ 103 ≤ m ∧ m ≤ 122) ∨ (∃ x : Int, bits .or .u8 (c : Int) 32 = x ∧ ¬ (97 ≤ x ∧ x ≤ 122)) := by
        by_cases h1 : 65 ≤ c ∧ c ≤ 90
        · exact .inl ⟨c + 32, l1 h1.1 h1.2, by omega, by omega⟩
        by_cases h2 : 97 ≤ c ∧ c ≤ 122
        · exact .inl ⟨c, l2 h2.1 h2.2, by omega, by omega⟩
        · exact .inr ⟨_, rfl, l3 h1 h2⟩
      have hv0 := bits_lo_u8 .or (c : Int) 32
      have hv1 := bits_hi_u8 .or (c : Int) 32
      have hdd : decide ((48 : Int) ≤ (c : Int)) = false ∨ (decide ((48 : Int) ≤ (c : Int)) = true ∧ decide ((c : Int) ≤ 57) = false) := by
        by_cases h : 48 ≤ c
        · exact .inr ⟨decide_eq_true (by omega), decide_eq_false (by omega)⟩
        · exact .inl (decide_eq_false (by omega))
      clear hyes hno l1 l2 l3 hh HX HK hd hf hF
      by_cases h95 : c = 95
      · subst h95
        have hb : bits .or .u8 95 32 = 127 := by decide
        have hlow := fun w => lower_any 95 w
        rw [hb] at hlow
        have hc : W1.cell? ⟨w.heap.size, k, none⟩ = some (.int .u8 95) := hc
        clear hlet hv0 hv1 hdd hb
        go_wp2_with (go_at_call 179; refine (hlow _).mono ?_; rintro e w' ⟨rfl, rfl⟩)
        go_ret2
        exact HexEnd.no hbel.out HN.out
      have hne : ((c : Int) == 95) = false := by rw [beq_eq_false_iff_ne]; omega
      clear h95
      rcases hlet with ⟨m, hb, m0, m1⟩ | ⟨m, hb, hm⟩
      · rw [hb] at hlow
        clear hb hv0 hv1
        rcases hdd with h48 | ⟨h48, h57⟩
        all_goals
          go_wp2_with (go_at_call 179; refine (hlow _).mono ?_; rintro e w' ⟨rfl, rfl⟩)
          go_ret2
          exact HexEnd.no hbel.out HN.out
      · rw [hb] at hlow hv0 hv1
        clear hb
        have hmm : decide ((97 : Int) ≤ m) = false ∨ (decide ((97 : Int) ≤ m) = true ∧ decide (m ≤ 122) = false) := by
          by_cases h : 97 ≤ m
          · exact .inr ⟨decide_eq_true h, decide_eq_false (fun h2 => hm ⟨h, h2⟩)⟩
          · exact .inl (decide_eq_false h)
        clear hm
        rcases hdd with h48 | ⟨h48, h57⟩ <;> rcases hmm with h97 | ⟨h97, h122⟩
        all_goals
          go_wp2_with (go_at_call 179; refine (hlow _).mono ?_; rintro e w' ⟨rfl, rfl⟩)
          go_ret2
          exact HexEnd.no hbel.out HN.out
    · obtain rfl : k = 4 := by omega
      have HN : Hid (Jq.four L = some (hexN L 0 4)) := by
        have := four_yes (S := L) (i := 0) (fun j hj => hh.out.2.2 j hj)
        exact this
      have HA : Hid (a = (hexN L 0 4 : Nat)) := hh.out.1
      clear hh hB
      go_wp2
      go_ret2
      exact HexEnd.ok hbel.out HN.out HA.out
end Go.Proofs.YthklgpflaghojaaGreatDoor

/-
  The reader's unit: a u and four hexadecimal signs.
-/
namespace Go.Proofs.YthklgpflaghojaaGreatDoor
open Go.RowKit

/-- How the public ParseUint ends. -/
def UintEnd (L : List Nat) (w : World) (e : Ending) (w' : World) : Prop :=
  Below w.heap.size w w' ∧ ((∃ n : Nat, Jq.four L = some n ∧ e = .returned (.tuple #[.int .u64 (n : Int), .nilIface])) ∨ (Jq.four L = none ∧ ∃ (v : Int) (t : TypeId) (p : Value), e = .returned (.tuple #[.int .u64 v, .iface t p])))
theorem toErr_any (fn s : ByteArray) (base bits : Int) (w : World) (hs : s.size ≤ 4096) (hH : Held w) :
    Calls Tryz.prog 157 #[.string fn, .string s, .int .i64 base, .int .i64 bits, .iface 186 (.int .i64 2)] w fun e w' => ∃ t p, e = .returned (.iface t p) ∧ Below w.heap.size w w' := by
  obtain ⟨_, ⟨t1, p1, v1⟩, _, _⟩ := hH
  exact (Any.strconv_toError_syntax (P := Tryz.prog) (ρ := laysC172_ren) { laysC172 with } fn s base bits (.iface t1 p1) w (by omega) (by have h0 := World.var?_cell laysC172.m15 v1 0; simpa using h0) (.inr ⟨_, _, rfl⟩)).mono fun e w' ⟨N, he, _, _, hb⟩ => ⟨_, _, he, hb⟩

set_option maxRecDepth 100000 in
set_option maxHeartbeats 2000000 in
theorem parseUint_any (t : ByteArray) (ht : t.size = 4) (w : World) (hH : Held w) :
    Calls Tryz.prog 178 #[.string t, .int .i64 16, .int .i64 16] w fun e w' => UintEnd (numsOf t) w e w' := by
  have hP := parseHex_any t ht w
  have hT := fun fn base bits w' h => toErr_any fn t base bits w' (by omega) h
  have HH := Lib.hid hH
  clear hH
  go_enter Tryz.func178, Tryz.ntmps178
  go_wp2_with fail
  refine hP.mono ?_
  rintro e w1 ⟨hb, ⟨n, hn, rfl⟩ | ⟨hn, v, rfl⟩⟩
  · have HN := Lib.hid hn
    clear hn hP hT
    go_wp2
    go_ret2
    exact ⟨hb, .inl ⟨n, HN.out, rfl⟩⟩
  · have HN := Lib.hid hn
    have hH1 := HH.out.below hb
    clear hn hP
    go_wp2_with fail
    refine (hT _ _ _ _ hH1).mono ?_
    rintro e w2 ⟨t2, p2, rfl, hb2⟩
    clear hT hH1
    go_wp2
    go_ret2
    exact ⟨hb.trans (hb2.mono hb.size), .inr ⟨HN.out, v, t2, p2, rfl⟩⟩

abbrev uB : ByteArray := { data := #[117] }
theorem head_u {s : ByteArray} : (numsOf s).take 1 = numsOf uB ↔ (numsOf s).head? = some 117 := by
  have e : numsOf uB = [117] := rfl
  rw [e]
  cases numsOf s with
  | nil => simp
  | cons a r => simp
theorem unit_cases (L : List Nat) (h : L.head? = some 117) : Jq.unit L = (Jq.four (L.drop 1)).map fun n => (n, L.drop 5) := by
  match L, h with
  | a :: r, h =>
    have : a = 117 := by simpa using h
    subst this
    rw [Jq.unit_u]
    rfl
/-- A step that gives a value, or ErrJsonText. -/
def orText {α : Type} : Option (α × List Nat) → Jq.R α
  | none => .error 53
  | some p => .ok p

set_option maxHeartbeats 4000000 in
set_option maxRecDepth 100000 in
theorem unit_any (W : World) (R d : Nat) (s : ByteArray) (w : World) (h : Rd W R s d w) :
    Calls Tryz.prog 172 #[.pointer (some ⟨R, 0, none⟩)] w fun e w' => Ends W R d w (fun (x : Nat) v _ => v = .int .i32 (x : Int)) (orText (Jq.unit (numsOf s))) e w' := by
  have hC := cutPrefix_any s uB w
  have hsm := h.small
  obtain ⟨c0, _, f0, _⟩ := h.cells
  go_enter Tryz.func172, Tryz.ntmps172
  go_wp2_with fail
  refine hC.mono ?_
  rintro e w1 ⟨rfl, ⟨x, rfl, hp, hx⟩ | ⟨rfl, hp⟩⟩
  · have hu := unit_cases (numsOf s) (head_u.1 hp)
    have hxn : numsOf x = (numsOf s).drop 1 := by rw [hx]; exact nums_from s 1
    have hxs : x.size ≤ 4096 := by rw [← numsOf_length, hxn, List.length_drop, numsOf_length]; omega
    rw [← hxn] at hu
    have e5 : (numsOf s).drop 5 = (numsOf x).drop 4 := by rw [hxn, List.drop_drop]
    rw [e5] at hu
    clear hp hx e5 hxn hC
    by_cases h4 : x.size < 4
    · have HP : Hid (orText (Jq.unit (numsOf s)) = .error 53) := by
        unfold Hid
        rw [hu, four_short _ (by rw [numsOf_length]; exact h4)]
        rfl
      clear hu
      go_wp2
      exact ⟨rfl, Ends.err HP.out (World.grownBy.refl _ _)⟩
    · have h4' : 4 ≤ x.size := by omega
      have hPU := parseUint_any (x.extract 0 4) (by rw [ByteArray.size_extract]; omega) w h.heldW
      rw [nums_to] at hPU
      have ht4 : Jq.four ((numsOf x).take 4) = Jq.four (numsOf x) := by
        match numsOf x with
        | [] => rfl
        | [_] => rfl
        | [_, _] => rfl
        | [_, _, _] => rfl
        | _ :: _ :: _ :: _ :: _ => rfl
      unfold UintEnd at hPU
      rw [ht4] at hPU
      clear ht4
      have HU := Lib.hid hu
      clear hu
      go_wp2_with fail
      refine hPU.mono ?_
      rintro e w2 ⟨hb, ⟨n, hn, rfl⟩ | ⟨hn, v, t, p, rfl⟩⟩
      · have HP : Hid (orText (Jq.unit (numsOf s)) = .ok (n, (numsOf x).drop 4)) := by
          unfold Hid
          rw [HU.out, hn]
          rfl
        have hn16 : n < 65536 := (Jq.four_lt hn).1
        clear hn hPU c0 f0
        have h2 := h.more hb
        obtain ⟨c0, _, f0, _⟩ := h2.cells
        have hxx : (x.extract 4 x.size).size ≤ 4096 := by rw [ByteArray.size_extract]; omega
        go_wp2
        go_ret
        exact Ends.ok HP.out rfl (nums_from x 4) (h2.set0 hxx) (gb_trans (gb_below hb) (gb_set _ _ _ _))
      · have HP : Hid (orText (Jq.unit (numsOf s)) = .error 53) := by
          unfold Hid
          rw [HU.out, hn]
          rfl
        clear hn hPU
        go_wp2
        exact ⟨rfl, Ends.err HP.out (gb_below hb)⟩
  · have HP : Hid (orText (Jq.unit (numsOf s)) = .error 53) := by
      unfold Hid
      rw [Jq.unit_no fun e => hp (head_u.2 e)]
      rfl
    clear hp hC
    go_wp2
    exact ⟨rfl, Ends.err HP.out (World.grownBy.refl _ _)⟩
end Go.Proofs.YthklgpflaghojaaGreatDoor

/-
  The reader's short, escapedRune and escape.
-/
namespace Go.Proofs.YthklgpflaghojaaGreatDoor
open Go.RowKit

/-- How short ends. -/
def ShortEnd (c : Nat) (w : World) (e : Ending) (w' : World) : Prop :=
  w = w' ∧ match Jq.short c with
  | some x => e = .returned (.int .i32 (x : Int))
  | none => e = errEnd 53
set_option maxRecDepth 100000 in
set_option maxHeartbeats 2000000 in
theorem short_any (c : Nat) (hc : c < 256) (w : World) : Calls Tryz.prog 165 #[.int .u8 (c : Int)] w fun e w' => ShortEnd c w e w' := by
  by_cases hk : c = 34 ∨ c = 92 ∨ c = 47 ∨ c = 98 ∨ c = 102 ∨ c = 110 ∨ c = 114 ∨ c = 116
  · rcases hk with rfl | rfl | rfl | rfl | rfl | rfl | rfl | rfl
    all_goals
      go_enter Tryz.func165, Tryz.ntmps165
      go_wp2
      go_ret
      exact ⟨rfl, rfl⟩
  · have HP : Hid (Jq.short c = none) := by
      unfold Hid Jq.short
      rw [if_neg (by omega), if_neg (by omega), if_neg (by omega), if_neg (by omega), if_neg (by omega), if_neg (by omega)]
    have d1 : ((c : Int) == 34) = false := by rw [beq_eq_false_iff_ne]; omega
    have d2 : ((c : Int) == 92) = false := by rw [beq_eq_false_iff_ne]; omega
    have d3 : ((c : Int) == 47) = false := by rw [beq_eq_false_iff_ne]; omega
    have d4 : ((c : Int) == 98) = false := by rw [beq_eq_false_iff_ne]; omega
    have d5 : ((c : Int) == 102) = false := by rw [beq_eq_false_iff_ne]; omega
    have d6 : ((c : Int) == 110) = false := by rw [beq_eq_false_iff_ne]; omega
    have d7 : ((c : Int) == 114) = false := by rw [beq_eq_false_iff_ne]; omega
    have d8 : ((c : Int) == 116) = false := by rw [beq_eq_false_iff_ne]; omega
    clear hk
    go_enter Tryz.func165, Tryz.ntmps165
    go_wp2
    refine ⟨rfl, rfl, ?_⟩
    rw [HP.out]
    exact rfl

set_option maxHeartbeats 4000000 in
set_option maxRecDepth 100000 in
theorem escRune_any (W : World) (R d : Nat) (s : ByteArray) (w : World) (h : Rd W R s d w) :
    Calls Tryz.prog 164 #[.pointer (some ⟨R, 0, none⟩)] w fun e w' => Ends W R d w (fun (x : Nat) v _ => v = .int .i32 (x : Int)) (orText (Jq.escRune (numsOf s))) e w' := by
  have hU := unit_any W R d s w h
  cases hu : Jq.unit (numsOf s) with
  | none =>
    have HP : Hid (orText (Jq.escRune (numsOf s)) = .error 53) := by unfold Hid Jq.escRune; rw [hu]; rfl
    rw [hu] at hU
    clear hu
    go_enter Tryz.func164, Tryz.ntmps164
    go_wp2_with fail
    refine hU.mono ?_
    rintro e w1 ⟨rfl, hg⟩
    clear hU
    go_wp2
    exact ⟨rfl, Ends.err HP.out hg⟩
  | some p =>
    obtain ⟨n, r⟩ := p
    have HU := Lib.hid hu
    rw [hu] at hU
    have hn := (Jq.unit_ok hu).1
    clear hu
    by_cases h1 : n < 55296 ∨ 57343 < n
    · have HP : Hid (orText (Jq.escRune (numsOf s)) = .ok (n, r)) := by unfold Hid Jq.escRune; rw [HU.out]; simp only; rw [if_pos h1]; rfl
      have hd : decide ((n : Int) < 55296) = true ∨ (decide ((n : Int) < 55296) = false ∧ decide ((57343 : Int) < (n : Int)) = true) := by
        by_cases h : n < 55296
        · exact .inl (decide_eq_true (by omega))
        · exact .inr ⟨decide_eq_false (by omega), decide_eq_true (by omega)⟩
      clear h1
      rcases hd with hd | ⟨hd, hd2⟩
      all_goals
        go_enter Tryz.func164, Tryz.ntmps164
        go_wp2_with fail
        refine hU.mono ?_
        rintro e w1 ⟨v, s1, rfl, rfl, hs1, h1, hg⟩
        have HS := Lib.hid hs1
        clear hU hs1
        go_wp2
        go_ret
        exact Ends.ok HP.out rfl HS.out h1 hg
    have hd : decide ((n : Int) < 55296) = false := decide_eq_false (by omega)
    have hd2 : decide ((57343 : Int) < (n : Int)) = false := decide_eq_false (by omega)
    by_cases h2 : 56320 ≤ n
    · have HP : Hid (orText (Jq.escRune (numsOf s)) = .error 53) := by unfold Hid Jq.escRune; rw [HU.out]; simp only; rw [if_neg h1, if_pos (.inl h2)]; rfl
      have hd3 : decide ((56320 : Int) ≤ (n : Int)) = true := decide_eq_true (by omega)
      clear h1 h2
      go_enter Tryz.func164, Tryz.ntmps164
      go_wp2_with fail
      refine hU.mono ?_
      rintro e w1 ⟨v, s1, rfl, rfl, hs1, h1, hg⟩
      clear hU hs1
      go_wp2
      exact ⟨rfl, Ends.err HP.out hg⟩
    have hd3 : decide ((56320 : Int) ≤ (n : Int)) = false := decide_eq_false (by omega)
    by_cases h92 : r.head? = some 92
    · have HE : Hid (Jq.escRune (numsOf s) = match Jq.unit (r.drop 1) with
        | none => none
        | some (m, r2) => if m < 56320 ∨ 57343 < m then none else some (65536 + (n - 55296) * 1024 + (m - 56320), r2)) := by
        unfold Hid
        rw [Jq.escRune, HU.out]
        simp only
        rw [if_neg h1, if_neg (fun h => by rcases h with h | h; exact h2 h; exact h h92)]
        rfl
      have hn5 : 55296 ≤ n := by omega
      have hn6 : n < 56320 := by omega
      clear h1 h2
      cases hp1 : Jq.unit (r.drop 1) with
      | none =>
        have HP : Hid (orText (Jq.escRune (numsOf s)) = .error 53) := by unfold Hid; rw [HE.out, hp1]; rfl
        have HN1 := Lib.hid hp1
        clear hp1
        go_enter Tryz.func164, Tryz.ntmps164
        go_wp2_with fail
        refine hU.mono ?_
        rintro e w1 ⟨v, s1, rfl, rfl, hs1, h1, hg⟩
        clear hU
        have hN := next_any W R d s1 w1 h1
        have hx : (numsOf s1).getD 0 0 = 92 := (nums_head s1 92 (by decide)).1 (by rw [hs1]; exact h92)
        rw [hx] at hN
        have hPa := pass_any W R d s1 w1 h1 (head_pos (by rw [hs1]; exact h92))
        have HS := Lib.hid hs1
        clear hx hs1 h92
        go_wp2_with fail
        refine hN.mono ?_
        rintro e w2 ⟨rfl, rfl⟩
        clear hN
        go_wp2_with fail
        refine hPa.mono ?_
        rintro e w2 ⟨rfl, s2, hs2, h2, hg2⟩
        clear hPa
        have hU2 := unit_any W R d s2 w2 h2
        rw [hs2, HS.out, HN1.out] at hU2
        clear hs2
        go_wp2_with fail
        refine hU2.mono ?_
        rintro e w3 ⟨rfl, hg3⟩
        clear hU2
        go_wp2
        exact ⟨rfl, Ends.err HP.out (gb_trans (gb_trans hg hg2) hg3)⟩
      | some q =>
        obtain ⟨m, r2⟩ := q
        have HN1 := Lib.hid hp1
        have hm := (Jq.unit_ok hp1).1
        by_cases hmm : m < 56320 ∨ 57343 < m
        · have HP : Hid (orText (Jq.escRune (numsOf s)) = .error 53) := by unfold Hid; rw [HE.out, hp1]; simp only; rw [if_pos hmm]; rfl
          have hd4 : decide ((m : Int) < 56320) = true ∨ (decide ((m : Int) < 56320) = false ∧ decide ((57343 : Int) < (m : Int)) = true) := by
            by_cases h : m < 56320
            · exact .inl (decide_eq_true (by omega))
            · exact .inr ⟨decide_eq_false (by omega), decide_eq_true (by omega)⟩
          clear hp1 hmm
          rcases hd4 with hd4 | ⟨hd4, hd5⟩
          all_goals
            go_enter Tryz.func164, Tryz.ntmps164
            go_wp2_with fail
            refine hU.mono ?_
            rintro e w1 ⟨v, s1, rfl, rfl, hs1, h1, hg⟩
            clear hU
            have hN := next_any W R d s1 w1 h1
            have hx : (numsOf s1).getD 0 0 = 92 := (nums_head s1 92 (by decide)).1 (by rw [hs1]; exact h92)
            rw [hx] at hN
            have hPa := pass_any W R d s1 w1 h1 (head_pos (by rw [hs1]; exact h92))
            have HS := Lib.hid hs1
            clear hx hs1 h92
            go_wp2_with fail
            refine hN.mono ?_
            rintro e w2 ⟨rfl, rfl⟩
            clear hN
            go_wp2_with fail
            refine hPa.mono ?_
            rintro e w2 ⟨rfl, s2, hs2, h2, hg2⟩
            clear hPa
            have hU2 := unit_any W R d s2 w2 h2
            rw [hs2, HS.out, HN1.out] at hU2
            clear hs2
            go_wp2_with fail
            refine hU2.mono ?_
            rintro e w3 ⟨v, s3, rfl, rfl, hs3, h3, hg3⟩
            clear hU2 hs3
            go_wp2
            exact ⟨rfl, Ends.err HP.out (gb_trans (gb_trans hg hg2) hg3)⟩
        · have HP : Hid (orText (Jq.escRune (numsOf s)) = .ok (65536 + (n - 55296) * 1024 + (m - 56320), r2)) := by unfold Hid; rw [HE.out, hp1]; simp only; rw [if_neg hmm]; rfl
          have hd4 : decide ((m : Int) < 56320) = false := decide_eq_false (by omega)
          have hd5 : decide ((57343 : Int) < (m : Int)) = false := decide_eq_false (by omega)
          have hm5 : 56320 ≤ m := by omega
          have hm6 : m ≤ 57343 := by omega
          clear hp1 hmm
          go_enter Tryz.func164, Tryz.ntmps164
          go_wp2_with fail
          refine hU.mono ?_
          rintro e w1 ⟨v, s1, rfl, rfl, hs1, h1, hg⟩
          clear hU
          have hN := next_any W R d s1 w1 h1
          have hx : (numsOf s1).getD 0 0 = 92 := (nums_head s1 92 (by decide)).1 (by rw [hs1]; exact h92)
          rw [hx] at hN
          have hPa := pass_any W R d s1 w1 h1 (head_pos (by rw [hs1]; exact h92))
          have HS := Lib.hid hs1
          clear hx hs1 h92
          go_wp2_with fail
          refine hN.mono ?_
          rintro e w2 ⟨rfl, rfl⟩
          clear hN
          go_wp2_with fail
          refine hPa.mono ?_
          rintro e w2 ⟨rfl, s2, hs2, h2, hg2⟩
          clear hPa
          have hU2 := unit_any W R d s2 w2 h2
          rw [hs2, HS.out, HN1.out] at hU2
          clear hs2
          go_wp2_with fail
          refine hU2.mono ?_
          rintro e w3 ⟨v, s3, rfl, rfl, hs3, h3, hg3⟩
          clear hU2
          have HS3 := Lib.hid hs3
          clear hs3
          go_wp2
          go_ret
          refine Ends.ok HP.out ?_ HS3.out h3 (gb_trans (gb_trans hg hg2) hg3)
          have HE2 : (65536 + ((n : Int) - 55296) * 1024 + ((m : Int) - 56320)) = ((65536 + (n - 55296) * 1024 + (m - 56320) : Nat) : Int) := by omega
          exact congrArg (Value.int .i32) HE2
    · have HP : Hid (orText (Jq.escRune (numsOf s)) = .error 53) := by unfold Hid Jq.escRune; rw [HU.out]; simp only; rw [if_neg h1, if_pos (.inr h92)]; rfl
      clear h1 h2
      go_enter Tryz.func164, Tryz.ntmps164
      go_wp2_with fail
      refine hU.mono ?_
      rintro e w1 ⟨v, s1, rfl, rfl, hs1, h1, hg⟩
      clear hU
      have hN := next_any W R d s1 w1 h1
      have hx : (numsOf s1).getD 0 0 ≠ 92 := fun e => h92 (by rw [← hs1]; exact (nums_head s1 92 (by decide)).2 e)
      obtain ⟨x, ex⟩ : ∃ x, (numsOf s1).getD 0 0 = x := ⟨_, rfl⟩
      rw [ex] at hN hx
      have hd4 : ((x : Int) != 92) = true := byte_ne hx
      clear ex hx hs1 h92
      go_wp2_with fail
      refine hN.mono ?_
      rintro e w2 ⟨rfl, rfl⟩
      clear hN
      go_wp2
      exact ⟨rfl, Ends.err HP.out hg⟩
end Go.Proofs.YthklgpflaghojaaGreatDoor

/-
  The reader's escape and letter.
-/
namespace Go.Proofs.YthklgpflaghojaaGreatDoor
open Go.RowKit

theorem nums_cons {s : ByteArray} {c : Nat} (h0 : s.size ≠ 0) (hc : (numsOf s).getD 0 0 = c) : numsOf s = c :: (numsOf s).drop 1 := by
  cases hh : numsOf s with
  | nil => exact absurd ((nums_nil s).1 hh) h0
  | cons a r =>
    rw [hh] at hc
    have : a = c := by simpa using hc
    subst this
    rfl

set_option maxRecDepth 100000 in
set_option maxHeartbeats 4000000 in
theorem escape_any (W : World) (R d : Nat) (s : ByteArray) (w : World) (h : Rd W R s d w) :
    Calls Tryz.prog 153 #[.pointer (some ⟨R, 0, none⟩)] w fun e w' => Ends W R d w (fun (x : Nat) v _ => v = .int .i32 (x : Int)) (orText (Jq.escape (numsOf s))) e w' := by
  have hN := next_any W R d s w h
  have hlt := nums_lt s 0
  obtain ⟨c, ec⟩ : ∃ c, (numsOf s).getD 0 0 = c := ⟨_, rfl⟩
  rw [ec] at hN hlt
  by_cases h117 : c = 117
  · have h0 : s.size ≠ 0 := fun e => by rw [nums_end s 0 (by omega)] at ec; omega
    have hcons := nums_cons h0 ec
    have HP : Hid (orText (Jq.escape (numsOf s)) = orText (Jq.escRune (numsOf s))) := by
      unfold Hid
      rw [hcons, h117, Jq.escape_u]
    have hE := escRune_any W R d s w h
    rw [← HP.out] at hE
    subst h117
    clear ec hcons
    go_enter Tryz.func153, Tryz.ntmps153
    go_wp2_with fail
    refine hN.mono ?_
    rintro e w1 ⟨rfl, rfl⟩
    clear hN
    cases hr : orText (Jq.escape (numsOf s)) with
    | error n =>
      rw [hr] at hE
      have HR := Lib.hid hr
      clear hr
      go_wp2_with fail
      refine hE.mono ?_
      rintro e w1 ⟨rfl, hg⟩
      clear hE
      go_wp2
      exact ⟨rfl, Ends.err HR.out hg⟩
    | ok p =>
      obtain ⟨x, r⟩ := p
      rw [hr] at hE
      have HR := Lib.hid hr
      clear hr
      go_wp2_with fail
      refine hE.mono ?_
      rintro e w1 ⟨v, s1, rfl, rfl, hs1, h1, hg⟩
      have HS := Lib.hid hs1
      clear hE hs1
      go_wp2
      go_ret
      exact Ends.ok HR.out rfl HS.out h1 hg
  · have hd : ((c : Int) == 117) = false := by rw [beq_eq_false_iff_ne]; omega
    have hS := short_any c hlt w
    unfold ShortEnd at hS
    cases hsh : Jq.short c with
    | none =>
      have HP : Hid (orText (Jq.escape (numsOf s)) = .error 53) := by
        unfold Hid
        by_cases h0 : s.size = 0
        · rw [(nums_nil s).2 h0]; rfl
        · rw [nums_cons h0 ec, Jq.escape_short h117, hsh]; rfl
      rw [hsh] at hS
      clear hsh ec h117
      go_enter Tryz.func153, Tryz.ntmps153
      go_wp2_with fail
      refine hN.mono ?_
      rintro e w1 ⟨rfl, rfl⟩
      clear hN
      go_wp2_with fail
      refine hS.mono ?_
      rintro e w1 ⟨rfl, rfl⟩
      clear hS
      go_wp2
      exact ⟨rfl, Ends.err HP.out (World.grownBy.refl _ _)⟩
    | some x =>
      have h0 : s.size ≠ 0 := fun e => by
        rw [nums_end s 0 (by omega)] at ec
        subst ec
        cases hsh
      have HP : Hid (orText (Jq.escape (numsOf s)) = .ok (x, (numsOf s).drop 1)) := by
        unfold Hid
        rw [nums_cons h0 ec, Jq.escape_short h117, hsh]; rfl
      rw [hsh] at hS
      have hPa := pass_any W R d s w h (by omega)
      clear hsh ec h117
      go_enter Tryz.func153, Tryz.ntmps153
      go_wp2_with fail
      refine hN.mono ?_
      rintro e w1 ⟨rfl, rfl⟩
      clear hN
      go_wp2_with fail
      refine hS.mono ?_
      rintro e w1 ⟨rfl, rfl⟩
      clear hS
      go_wp2_with fail
      refine hPa.mono ?_
      rintro e w2 ⟨rfl, s2, hs2, h2, hg2⟩
      have HS := Lib.hid hs2
      clear hPa hs2
      go_wp2
      go_ret
      exact Ends.ok HP.out rfl HS.out h2 hg2

/-- The plain letter, by the library's decoder. -/
theorem letter_bad {L : List Nat} (h : L = [] ∨ L.getD 0 0 < 32 ∨ Jq.long L = 0) : Jq.letter L = none := by
  match L with
  | [] => rfl
  | c :: r =>
    rw [Jq.letter]
    rcases h with h | h | h
    · cases h
    · rw [if_pos (by simpa using h)]
    · by_cases h1 : c < 32
      · rw [if_pos h1]
      rw [if_neg h1]
      by_cases h2 : c = 92
      · exfalso
        subst h2
        have : Jq.isRune 1 (92 :: r) = true := by rw [Jq.isRune1 (by omega)]; rfl
        unfold Jq.long at h
        rw [if_pos this] at h
        cases h
      · rw [if_neg h2, if_pos h]
theorem letter_esc (r : List Nat) : Jq.letter (92 :: r) = Jq.escape r := by
  rw [Jq.letter, if_neg (by omega), if_pos rfl]
/-- What the decoder tells, put to the plain letter. -/
theorem dec_letter {L : List Nat} (hne : L ≠ []) {c k : Nat} (h : Jq.DecAs L (c, k)) :
    (((c = 65533 ∧ k ≤ 1) ∨ c < 32) ∧ Jq.letter L = none) ∨ (¬ (c = 65533 ∧ k ≤ 1) ∧ 32 ≤ c ∧ c ≤ 1114111 ∧ 1 ≤ k ∧ k ≤ L.length ∧ ((c = 92 ∧ k = 1 ∧ Jq.letter L = Jq.escape (L.drop k)) ∨ (c ≠ 92 ∧ Jq.letter L = some (c, L.drop k)))) := by
  rcases h with ⟨h1, h2⟩ | ⟨h1, h2, h3, h4, h5, h6, h7, h8, h9⟩
  · injection h1 with h1 h1'
    subst h1 h1'
    exact .inl ⟨.inl ⟨rfl, by omega⟩, letter_bad (.inr (.inr h2))⟩
  · simp only at h1 h2 h3 h4 h5 h6 h7 h8 h9
    match L, hne with
    | a :: r, _ =>
      by_cases hc : c < 128
      · have hk := h9.1 hc
        subst hk
        have ha : a = c := by
          rw [Jq.bytes_low hc] at h6
          have e : [c] = [a] := h6
          injection e with e
          exact e.symm
        subst ha
        by_cases h32 : a < 32
        · exact .inl ⟨.inr h32, letter_bad (.inr (.inl h32))⟩
        refine .inr ⟨h1, by omega, h7, h3, h5, ?_⟩
        by_cases h92 : a = 92
        · subst h92
          exact .inl ⟨rfl, rfl, letter_esc r⟩
        · refine .inr ⟨h92, ?_⟩
          rw [Jq.letter, if_neg h32, if_neg h92, h2, if_neg (by decide)]
          rfl
      · refine .inr ⟨h1, by omega, h7, h3, h5, .inr ⟨by omega, ?_⟩⟩
        have hk1 : k ≠ 1 := fun e => hc (h9.2 e)
        have ha : 128 ≤ a := by
          rcases Jq.runeBytes_cases c with ⟨h, _⟩ | ⟨_, _, hx⟩
          · omega
          · refine hx a ?_
            rw [h6]
            match k, h3 with
            | k + 1, _ => simp
        have hr : Jq.runeOf k (a :: r) = c := by
          have hlb : (Jq.runeBytes c).length = k := by rw [h6, List.length_take]; omega
          have h10 := Jq.rune_back h7 ((a :: r).drop k)
          rw [hlb, h6, List.take_append_drop] at h10
          exact h10
        rw [Jq.letter, if_neg (by omega), if_neg (by omega), h2, if_neg (by omega), hr]

set_option maxHeartbeats 4000000 in
set_option maxRecDepth 100000 in
theorem letter_any (W : World) (R d : Nat) (s : ByteArray) (w : World) (h : Rd W R s d w) :
    Calls Tryz.prog 137 #[.pointer (some ⟨R, 0, none⟩)] w fun e w' => Ends W R d w (fun (x : Nat) v _ => v = .int .i32 (x : Int)) (orText (Jq.letter (numsOf s))) e w' := by
  have hD := decodeRune_any s w h.heldW
  have hsm := h.small
  obtain ⟨c0, _, f0, _⟩ := h.cells
  go_enter Tryz.func137, Tryz.ntmps137
  go_wp2_with fail
  refine hD.mono ?_
  rintro e w1 ⟨c, k, rfl, hcase, hb⟩
  clear hD c0 f0
  have h1 := h.more hb
  obtain ⟨c0, _, f0, _⟩ := h1.cells
  have hfin : (((c = 65533 ∧ k ≤ 1) ∨ c < 32) ∧ Jq.letter (numsOf s) = none) ∨ (¬ (c = 65533 ∧ k ≤ 1) ∧ 32 ≤ c ∧ c ≤ 1114111 ∧ 1 ≤ k ∧ k ≤ s.size ∧ ((c = 92 ∧ k = 1 ∧ Jq.letter (numsOf s) = Jq.escape ((numsOf s).drop k)) ∨ (c ≠ 92 ∧ Jq.letter (numsOf s) = some (c, (numsOf s).drop k)))) := by
    rcases hcase with ⟨h0, rfl, rfl⟩ | ⟨h0, hd⟩
    · exact .inl ⟨.inl ⟨rfl, by omega⟩, letter_bad (.inl ((nums_nil s).2 h0))⟩
    · have := dec_letter (fun e => h0 ((nums_nil s).1 e)) hd
      rw [numsOf_length] at this
      exact this
  clear hcase
  rcases hfin with ⟨hw, hl⟩ | ⟨hw, h32, hc, hk1, hks, hl⟩
  · have HP : Hid (orText (Jq.letter (numsOf s)) = .error 53) := by unfold Hid; rw [hl]; rfl
    have hdd : (((c : Int) == 65533) = true ∧ decide ((k : Int) ≤ 1) = true) ∨ (((c : Int) == 65533) = false ∧ decide ((c : Int) < 32) = true) := by
      rcases hw with ⟨rfl, hk⟩ | hc
      · exact .inl ⟨rfl, decide_eq_true (by omega)⟩
      · exact .inr ⟨by rw [beq_eq_false_iff_ne]; omega, decide_eq_true (by omega)⟩
    clear hw hl
    rcases hdd with ⟨d1, d2⟩ | ⟨d1, d2⟩
    all_goals
      go_wp2
      exact ⟨rfl, Ends.err HP.out (gb_below hb)⟩
  · have hdd : (((c : Int) == 65533) = true ∧ decide ((k : Int) ≤ 1) = false) ∨ ((c : Int) == 65533) = false := by
      by_cases h' : c = 65533
      · subst h'
        exact .inl ⟨rfl, decide_eq_false (by omega)⟩
      · exact .inr (by rw [beq_eq_false_iff_ne]; omega)
    have d3 : decide ((c : Int) < 32) = false := decide_eq_false (by omega)
    have hxx : (s.extract k s.size).size ≤ 4096 := by rw [ByteArray.size_extract]; omega
    have h2 := h1.set0 hxx
    have b1 : (0 : Int) ≤ (k : Int) := by omega
    have b2 : (k : Int) ≤ (s.size : Int) := by omega
    clear hw
    rcases hl with ⟨hc92, rfl, hl⟩ | ⟨hc92, hl⟩
    · have b2 : (1 : Int) ≤ (s.size : Int) := by omega
      clear b1
      have hEs := escape_any W R d (s.extract 1 s.size) _ h2
      rw [nums_from, ← hl] at hEs
      have d4 : ((c : Int) == 92) = true := by rw [beq_iff_eq]; omega
      have hdd : ((c : Int) == 65533) = false := by rw [beq_eq_false_iff_ne]; omega
      clear hc92 hl
      cases hr : orText (Jq.letter (numsOf s)) with
      | error n =>
        rw [hr] at hEs
        have HR := Lib.hid hr
        clear hr
        go_wp2_with fail
        refine hEs.mono ?_
        rintro e w2 ⟨rfl, hg⟩
        clear hEs
        go_wp2
        exact ⟨rfl, Ends.err HR.out (gb_trans (gb_trans (gb_below hb) (gb_set _ _ _ _)) hg)⟩
      | ok p =>
        obtain ⟨x, r⟩ := p
        rw [hr] at hEs
        have HR := Lib.hid hr
        clear hr
        go_wp2_with fail
        refine hEs.mono ?_
        rintro e w2 ⟨v, s2, rfl, rfl, hs2, h3, hg⟩
        have HS := Lib.hid hs2
        clear hEs hs2
        go_wp2
        go_ret
        exact Ends.ok HR.out rfl HS.out h3 (gb_trans (gb_trans (gb_below hb) (gb_set _ _ _ _)) hg)
    · have HP : Hid (orText (Jq.letter (numsOf s)) = .ok (c, (numsOf s).drop k)) := by unfold Hid; rw [hl]; rfl
      have d4 : ((c : Int) == 92) = false := by rw [beq_eq_false_iff_ne]; omega
      clear hc92 hl
      rcases hdd with ⟨d1, d2⟩ | d1
      all_goals
        go_wp2
        go_ret
        exact Ends.ok HP.out rfl (nums_from s k) h2 (gb_trans (gb_below hb) (gb_set _ _ _ _))
end Go.Proofs.YthklgpflaghojaaGreatDoor

/-
  The reader's text, from the first quotation mark on.
-/
namespace Go.Proofs.YthklgpflaghojaaGreatDoor
open Go.RowKit

theorem own_gb {w w' : World} {base R : Nat} {e : TypeId} {size n : Nat} {v : Value} {xs : List Value} (h : w.ownsRow base e size v n xs) (hb : w.grownBy w' (some R)) (hR : R < base) : w'.ownsRow base e size v n xs :=
  h.kept hb (by
    cases hv : v.ownBlock with
    | none => exact .inl rfl
    | some k => exact .inr (fun e => by have := (h.lt k hv).1; injection e with e; omega))
/-- A row of the call's own is grown: what lies below its base is as it was. -/
theorem gb_row {w0 w w' : World} {R base : Nat} {v : Value} (h : w0.grownBy w (some R)) (hg : w.grownBy w' v.ownBlock) (hv : ∀ k, v.ownBlock = some k → base ≤ k) (hb : w0.heap.size ≤ base) : w0.grownBy w' (some R) :=
  ⟨hg.os.trans h.os, hg.tape.trans h.tape, hg.output.trans h.output, Nat.le_trans h.size hg.size, fun k hk hr => (hg.block k (Nat.lt_of_lt_of_le hk h.size) (fun e => by have := hv k e.symm; omega)).trans (h.block k hk hr)⟩
theorem Rd.row {W w w' : World} {R d base : Nat} {s : ByteArray} {v : Value} (h : Rd W R s d w) (hg : w.grownBy w' v.ownBlock) (hv : ∀ k, v.ownBlock = some k → base ≤ k) (hb : R < base) (hW : W.heap.size ≤ base) : Rd W R s d w' :=
  ⟨h.held, h.below.grown hg h.below.size (fun k e => by have := hv k e; omega), h.le, h.lies.grown hg (fun e => by have := hv R e.symm; omega), h.small, h.deep⟩
theorem letter_len {L r : List Nat} {x : Nat} (h : Jq.letter L = some (x, r)) : (Jq.runeBytes x).length + r.length ≤ L.length := by
  match L, h with
  | c :: q, h =>
    rw [Jq.letter] at h
    split at h
    · cases h
    split at h
    · obtain ⟨_, h2, _⟩ := Jq.escape_ok h
      rw [List.length_cons]; omega
    split at h
    · cases h
    · rename_i h0
      injection h with h
      injection h with h1 h2
      have hle := Jq.long_le (c :: q) (by omega)
      rw [← h1, ← h2, (Jq.long_rune_bytes h0).1, List.length_drop, List.length_take]
      omega
theorem rune_bytes_lt {r : Nat} (h : Jq.okRune r = true) : ∀ x ∈ Jq.runeBytes r, x < 256 := by
  have hr : r ≤ 1114111 := by
    unfold Jq.okRune at h
    simp only [Bool.and_eq_true, decide_eq_true_eq] at h
    exact h.1
  intro x hx
  unfold Jq.runeBytes at hx
  split at hx
  · simp at hx; omega
  · split at hx
    · simp at hx; omega
    · split at hx
      · simp at hx; omega
      · simp at hx; omega
/-- What is read of a text so far, and what the rest says: together what the whole says. -/
def TextRel (W : World) (R d : Nat) (w : World) (L : List Nat) (v : Value) (wr : World) : Prop :=
  ∃ (s : ByteArray) (acc : List Nat), Rd W R s d wr ∧ w.grownBy wr (some R) ∧ wr.ownsRow w.heap.size 5 1 v acc.length (u8s acc) ∧ (∀ x ∈ acc, x < 256) ∧ acc.length + s.size ≤ 4096 ∧ Hid (Jq.text L = (Jq.text (numsOf s)).map fun q => (acc ++ q.1, q.2))
/-- How much is left to read. -/
def restLen (R : Nat) (w : World) : Nat := match w.cell? ⟨R, 0, none⟩ with
  | some (.string s) => s.size
  | _ => 0
theorem rest_of {W w : World} {R d : Nat} {s : ByteArray} (h : Rd W R s d w) : restLen R w = s.size := by
  unfold restLen
  rw [h.cells.1]
/-- A text that was read. -/
def IsText (t : List Nat) (v : Value) (_ : World) : Prop := v = .string (strOf t) ∧ t.length ≤ 4096 ∧ ∀ x ∈ t, x < 256

set_option maxHeartbeats 4000000 in
set_option maxRecDepth 100000 in
theorem textR_any (W : World) (R d : Nat) (s : ByteArray) (w : World) (h : Rd W R s d w) (h34 : (numsOf s).head? = some 34) :
    Calls Tryz.prog 118 #[.pointer (some ⟨R, 0, none⟩)] w fun e w' => Ends W R d w IsText (Jq.text ((numsOf s).drop 1)) e w' := by
  have hPa := pass_any W R d s w h (head_pos h34)
  have hRlt := h.lt
  have hWle := h.below.size
  obtain ⟨L, eL⟩ : ∃ L, (numsOf s).drop 1 = L := ⟨_, rfl⟩
  rw [eL] at hPa ⊢
  clear eL h34
  go_enter Tryz.func118, Tryz.ntmps118
  go_wp2_with fail
  refine hPa.mono ?_
  rintro e w1 ⟨rfl, s1, hs1, h1, hg1⟩
  clear hPa
  have HS1 := Lib.hid hs1
  clear hs1
  have hsm := h1.small
  go_wp2_with fail
  go_loopw [3] (fun v wr => TextRel W R d w L v wr) (fun _ wr => restLen R wr)
  case atStart => exact ⟨s1, [], h1, hg1, World.ownsRow_nil _ _ _ _, (fun x hx => nomatch hx), by simpa using hsm, Lib.hid (by rw [HS1.out]; cases Jq.text L <;> simp [Except.map])⟩
  case round =>
    obtain ⟨s2, acc, h2, hg2, hown, hacc, hle, hrel⟩ := hrel
    have hN := next_any W R d s2 _ h2
    by_cases h34 : (numsOf s2).head? = some 34
    · have hx := (nums_head s2 34 (by decide)).1 h34
      rw [hx] at hN
      have hPa := pass_any W R d s2 _ h2 (head_pos h34)
      have HP : Hid (Jq.text L = .ok (acc, (numsOf s2).drop 1)) := by
        unfold Hid
        rw [hrel.out, nums_cons (c := 34) (by have := head_pos h34; omega) hx, Jq.text_end]
        simp [Except.map]
      clear hx h34 hrel
      go_wp2_with fail
      refine hN.mono ?_
      rintro e w2 ⟨rfl, rfl⟩
      clear hN
      go_wp2_with fail
      refine hPa.mono ?_
      rintro e w2 ⟨rfl, s3, hs3, h3, hg3⟩
      clear hPa
      have hown3 := own_gb hown hg3 hRlt
      obtain ⟨A, c, rfl⟩ := own_slice hown3
      obtain ⟨_, harg⟩ := own_arg hown3 hacc
      have hcv := conv_str harg
      have HS3 := Lib.hid hs3
      clear hs3 hown hown3 harg
      go_wp2
      go_ret
      exact Ends.ok HP.out ⟨rfl, by omega, hacc⟩ HS3.out h3 (gb_trans hg2 hg3)
    · have hx : (numsOf s2).getD 0 0 ≠ 34 := fun e => h34 ((nums_head s2 34 (by decide)).2 e)
      obtain ⟨x, ex⟩ : ∃ x, (numsOf s2).getD 0 0 = x := ⟨_, rfl⟩
      rw [ex] at hN hx
      have hd : ((x : Int) != 34) = true := byte_ne hx
      clear ex hx
      have hL := letter_any W R d s2 _ h2
      have hst := Jq.text_step h34
      cases hl : Jq.letter (numsOf s2) with
      | none =>
        have HP : Hid (Jq.text L = .error 53) := by
          unfold Hid
          rw [hrel.out, hst, hl]
          rfl
        rw [hl] at hL
        clear hl hst h34 hrel
        go_wp2_with fail
        refine hN.mono ?_
        rintro e w2 ⟨rfl, rfl⟩
        clear hN
        go_wp2_with fail
        refine hL.mono ?_
        rintro e w2 ⟨rfl, hg3⟩
        clear hL
        go_wp2
        exact ⟨rfl, Ends.err HP.out (gb_trans hg2 hg3)⟩
      | some p =>
        obtain ⟨r, q⟩ := p
        have hlen := letter_len hl
        obtain ⟨hok, hless⟩ := Jq.letter_ok hl
        have hrb := rune_bytes_lt hok
        have HP : Hid (Jq.text L = (Jq.text q).map fun p => ((acc ++ Jq.runeBytes r) ++ p.1, p.2)) := by
          unfold Hid
          rw [hrel.out, hst, hl]
          simp only
          cases Jq.text q with
          | error e => rfl
          | ok p => simp [Except.map, List.append_assoc]
        rw [hl] at hL
        rw [numsOf_length] at hlen hless
        clear hl hst h34 hrel
        go_wp2_with fail
        refine hN.mono ?_
        rintro e w2 ⟨rfl, rfl⟩
        clear hN
        go_wp2_with fail
        refine hL.mono ?_
        rintro e w2 ⟨v2, s3, rfl, rfl, hs3, h3, hg3⟩
        clear hL
        have hown3 := own_gb hown hg3 hRlt
        have hg := gb_trans hg2 hg3
        have hA := appendRune_any w.heap.size _ acc r hok w2 hown3 (by omega) hg.size
        have HS3 := Lib.hid hs3
        have hlt := hown3.lt
        have hr0 := rest_of h2
        clear hs3 hown hg2 hg3
        go_wp2_with fail
        refine hA.mono ?_
        rintro e w3 ⟨v3, rfl, hown4, hgr⟩
        clear hA
        have h4 := h3.row hgr (fun k e => (hlt k e).1) hRlt hWle
        have hg5 := gb_row hg hgr (fun k e => (hlt k e).1) (Nat.le_refl _)
        have hs3l : s3.size = q.length := by rw [← HS3.out, numsOf_length]
        have hr1 := rest_of h4
        have HM := Lib.hid (show restLen R w3 < restLen R wr by rw [hr1, hr0]; omega)
        have HT : Hid (TextRel W R d w L v3 w3) := ⟨s3, _, h4, hg5, hown4, fun y hy => by
          rcases List.mem_append.1 hy with hy | hy
          · exact hacc y hy
          · exact hrb y hy, by rw [List.length_append]; omega, by have := HP.out; rw [← HS3.out] at this; exact this⟩
        clear hown4 hgr h4 hg5 hr1 hr0 hs3l
        go_wp2_with fail
        go_roundw
        case rel => exact HT.out
        case measure => exact HM.out
end Go.Proofs.YthklgpflaghojaaGreatDoor

/-
  The reader's number.
-/
namespace Go.Proofs.YthklgpflaghojaaGreatDoor
open Go.RowKit

def numVOf (m : Bool) (r : List Nat) : Jq.R Int := if Jq.NumBad m r then .error 52 else .ok (if m then -(Uq.val (Jq.digs r) : Int) else (Uq.val (Jq.digs r) : Int), r.drop (Jq.digs r).length)
def numV (L : List Nat) : Jq.R Int := if L.head? = some 45 then numVOf true (L.drop 1) else numVOf false L
theorem number_V (L : List Nat) : Jq.number L = (numV L).map fun q => (Jq.intJ q.1, q.2) := by
  have h : ∀ m r, Jq.numberOf m r = (numVOf m r).map fun q => (Jq.intJ q.1, q.2) := fun m r => by
    unfold Jq.numberOf numVOf
    split <;> rfl
  unfold Jq.number numV
  split <;> exact h _ _
theorem digs_drop (r : List Nat) : r.dropWhile Jq.dig = r.drop (Jq.digs r).length ∧ Jq.digs r = r.take (Jq.digs r).length := by
  have key : ∀ a b : List Nat, a ++ b = r → b = r.drop a.length ∧ a = r.take a.length := fun a b e => by subst e; simp
  exact key _ _ (List.takeWhile_append_dropWhile (p := Jq.dig) (l := r))
theorem digs_le (r : List Nat) : (Jq.digs r).length ≤ r.length := (List.takeWhile_prefix Jq.dig).length_le
theorem head_minus {s : ByteArray} : (numsOf s).take 1 = [45] ↔ (numsOf s).head? = some 45 := by
  cases numsOf s with
  | nil => simp
  | cons a r => simp
abbrev minusB : ByteArray := { data := #[45] }
/-- What becomes of a minus ahead. -/
theorem cutMinus_any (s : ByteArray) (w : World) :
    Calls Tryz.prog 134 #[.string s, .string minusB] w fun e w' => w = w' ∧ ∃ (b : Bool) (x : ByteArray), e = .returned (.tuple #[.string x, .bool b]) ∧ numV (numsOf s) = numVOf b (numsOf x) ∧ x.size ≤ s.size := by
  refine (cutPrefix_any s minusB w).mono fun e w' ⟨hw, hc⟩ => ⟨hw, ?_⟩
  rcases hc with ⟨x, he, hp, hx⟩ | ⟨he, hp⟩
  · refine ⟨true, x, he, ?_, ?_⟩
    · rw [numV, if_pos (head_minus.1 hp), hx, nums_from]
      rfl
    · rw [hx, ByteArray.size_extract]; omega
  · refine ⟨false, s, he, ?_, Nat.le_refl _⟩
    rw [numV, if_neg fun e => hp (head_minus.2 e)]

theorem num_bad {m : Bool} {r : List Nat} (h : Jq.NumBad m r) : numVOf m r = .error 52 := if_pos h
theorem num_good {m : Bool} {r : List Nat} (h : ¬ Jq.NumBad m r) : numVOf m r = .ok (if m then -(Uq.val (Jq.digs r) : Int) else (Uq.val (Jq.digs r) : Int), r.drop (Jq.digs r).length) := if_neg h
/-- A number that was read. -/
def IsNum (n : Int) (v : Value) (_ : World) : Prop := v = .int .i64 n ∧ -9007199254740991 ≤ n ∧ n ≤ 9007199254740991

set_option maxHeartbeats 8000000 in
set_option maxRecDepth 100000 in
theorem number_any (W : World) (R d : Nat) (s : ByteArray) (w : World) (h : Rd W R s d w) :
    Calls Tryz.prog 122 #[.pointer (some ⟨R, 0, none⟩)] w fun e w' => Ends W R d w IsNum (numV (numsOf s)) e w' := by
  have hC := cutMinus_any s w
  have hsm := h.small
  obtain ⟨c0, _, f0, _⟩ := h.cells
  go_enter Tryz.func122, Tryz.ntmps122
  go_wp2_with fail
  refine hC.mono ?_
  rintro e w1 ⟨rfl, b, x, rfl, hv, hxs⟩
  clear hC
  have HV := Lib.hid hv
  clear hv
  have hT := trimDigits_any x w
  go_wp2_with fail
  refine hT.mono ?_
  rintro e w1 ⟨s1, rfl, hs1, hb⟩
  clear hT c0 f0
  have h1 := h.more hb
  obtain ⟨c0, _, f0, _⟩ := h1.cells
  obtain ⟨k, ek⟩ : ∃ k, (Jq.digs (numsOf x)).length = k := ⟨_, rfl⟩
  obtain ⟨e1, e2⟩ := digs_drop (numsOf x)
  have hkl := digs_le (numsOf x)
  rw [ek] at e1 e2 hkl
  rw [e1] at hs1
  rw [numsOf_length] at hkl
  have hsz : s1.size + k = x.size := by
    have := congrArg List.length hs1
    rw [numsOf_length, List.length_drop, numsOf_length] at this
    omega
  have hds : numsOf (x.extract 0 k) = Jq.digs (numsOf x) := by rw [nums_to, ← e2]
  have hdd : ∀ c ∈ numsOf (x.extract 0 k), Jq.dig c = true := by rw [hds]; exact Jq.digs_dig _
  have hs1s : s1.size ≤ 4096 := by omega
  have h2 := h1.set0 hs1s
  have hA := atoi_any (x.extract 0 k) (w1.setCell ⟨R, 0, none⟩ (.string s1)) (by rw [ByteArray.size_extract]; omega) hdd h2.heldW
  unfold AtoiEnd at hA
  rw [hds] at hA
  have hk1 : ((x.size : Int) - (s1.size : Int)) = (k : Int) := by omega
  have hk2 : (0 : Int) ≤ (k : Int) := by omega
  have hk3 : (k : Int) ≤ (x.size : Int) := by omega
  have HS1 := Lib.hid hs1
  have HDS := Lib.hid hds
  have EK := Lib.hid ek
  clear hs1 e1 e2 hds hdd ek
  go_wp2_with fail
  refine hA.mono ?_
  rintro e w2 ⟨hb2, ⟨hne, hlt, rfl⟩ | ⟨hbad, v, t, p, rfl⟩⟩
  · have h3 := h2.more hb2
    have hg3 := gb_trans (gb_trans (gb_below hb) (gb_set _ R 0 (.string s1))) (gb_below (r := some R) hb2)
    have htop : Jq.top = 9007199254740991 := rfl
    obtain ⟨ds, eds⟩ : ∃ ds, x.extract 0 k = ds := ⟨_, rfl⟩
    rw [eds] at HDS ⊢
    have hdk : ds.size = k := by rw [← eds, ByteArray.size_extract]; omega
    have hk0 : 0 < ds.size := by
      rcases Nat.eq_zero_or_pos ds.size with h' | h'
      · exact absurd (by rw [← HDS.out]; exact (nums_nil ds).2 h') hne
      · exact h'
    clear hA eds c0 f0
    by_cases ht : Uq.val (Jq.digs (numsOf x)) ≤ 9007199254740991
    · have dt : decide ((9007199254740991 : Int) < (Uq.val (Jq.digs (numsOf x)) : Int)) = false := decide_eq_false (by omega)
      have hX := nums_at ds 0 hk0
      rw [HDS.out] at hX
      have hhead : (Jq.digs (numsOf x)).head? = some ds[0].toNat := by
        cases hh : Jq.digs (numsOf x) with
        | nil => exact absurd hh hne
        | cons a r => rw [hh] at hX; simp at hX; rw [hX]; rfl
      have HB1 : Hid (ds[0].toNat = 48 → (b = true ∨ 1 < ds.size) → numV (numsOf s) = .error 52) := fun h1 h2 => by
        rw [HV.out]
        refine num_bad ((Jq.numBad_iff _ _).2 (.inr (.inr (.inl ⟨by rw [hhead, h1], ?_⟩))))
        rw [EK.out, ← hdk]; exact h2
      have HB2 : Hid (∀ y, (numsOf s1).head? = some y → (y = 46 ∨ y = 101 ∨ y = 69) → numV (numsOf s) = .error 52) := fun y h1 h2 => by
        rw [HV.out]
        refine num_bad ((Jq.numBad_iff _ _).2 (.inr (.inr (.inr ?_))))
        rw [EK.out, ← HS1.out, h1]
        rcases h2 with rfl | rfl | rfl
        · exact .inl rfl
        · exact .inr (.inl rfl)
        · exact .inr (.inr rfl)
      have HG : Hid (¬ (ds[0].toNat = 48 ∧ (b = true ∨ 1 < ds.size)) → (∀ y, (numsOf s1).head? = some y → ¬ (y = 46 ∨ y = 101 ∨ y = 69)) → numV (numsOf s) = .ok (if b then -(Uq.val (Jq.digs (numsOf x)) : Int) else (Uq.val (Jq.digs (numsOf x)) : Int), numsOf s1)) := fun h1 h2 => by
        rw [HV.out, num_good (fun hb => ?_), EK.out, HS1.out]
        rcases (Jq.numBad_iff _ _).1 hb with h | h | ⟨ha, hb⟩ | h | h | h
        · exact hne h
        · omega
        · rw [hhead] at ha
          rw [EK.out, ← hdk] at hb
          exact h1 ⟨by simpa using ha, hb⟩
        · rw [EK.out, ← HS1.out] at h; exact h2 _ h (.inl rfl)
        · rw [EK.out, ← HS1.out] at h; exact h2 _ h (.inr (.inl rfl))
        · rw [EK.out, ← HS1.out] at h; exact h2 _ h (.inr (.inr rfl))
      obtain ⟨V, eV⟩ : ∃ V, Uq.val (Jq.digs (numsOf x)) = V := ⟨_, rfl⟩
      rw [eV] at ht dt HG hlt ⊢
      clear hX hhead eV HV HS1 HDS EK hne hdk hsz hk1 hk2 hk3 hkl htop
      by_cases hbad : ds[0].toNat = 48 ∧ (b = true ∨ 1 < ds.size)
      · obtain ⟨h48, hrest⟩ := hbad
        have HP := Lib.hid (HB1.out h48 hrest)
        have d48 : ((ds[0].toNat : Int) == 48) = true := by rw [h48]; rfl
        clear h48 HG HB1 HB2
        cases b with
        | true =>
          clear hrest
          go_wp2
          exact ⟨rfl, Ends.err HP.out hg3⟩
        | false =>
          have dl : decide ((1 : Int) < (ds.size : Int)) = true := decide_eq_true (by rcases hrest with h | h; cases h; omega)
          clear hrest
          go_wp2
          exact ⟨rfl, Ends.err HP.out hg3⟩
      · have HG2 := Lib.hid (HG.out hbad)
        have hN := next_any W R d s1 w2 h3
        obtain ⟨y, ey⟩ : ∃ y, (numsOf s1).getD 0 0 = y := ⟨_, rfl⟩
        rw [ey] at hN
        have hyy : ∀ z, z ≠ 0 → ((numsOf s1).head? = some z ↔ y = z) := fun z hz => by rw [← ey]; exact nums_head s1 z hz
        have hcase : (((ds[0].toNat : Int) == 48) = false) ∨ (((ds[0].toNat : Int) == 48) = true ∧ b = false ∧ decide ((1 : Int) < (ds.size : Int)) = false) := by
          by_cases h48 : ds[0].toNat = 48
          · refine .inr ⟨by rw [h48]; rfl, ?_, decide_eq_false (fun h => hbad ⟨h48, .inr (by omega)⟩)⟩
            cases b with
            | true => exact absurd ⟨h48, .inl rfl⟩ hbad
            | false => rfl
          · exact .inl (by rw [beq_eq_false_iff_ne]; omega)
        by_cases hy : y = 46 ∨ y = 101 ∨ y = 69
        · have HP := Lib.hid (HB2.out y ((hyy y (by omega)).2 rfl) hy)
          clear HG HG2 HB1 HB2 hyy ey hbad
          rcases hy with rfl | rfl | rfl
          all_goals
            rcases hcase with d48 | ⟨d48, rfl, dl⟩
            all_goals
              go_wp2_with fail
              refine hN.mono ?_
              rintro e w3 ⟨rfl, rfl⟩
              clear hN
              go_wp2
              exact ⟨rfl, Ends.err HP.out hg3⟩
        · have HP := Lib.hid (HG2.out (fun z h1 h2 => hy (by rw [(hyy z (by omega)).1 h1]; exact h2)))
          have y1 : ((y : Int) == 46) = false := by rw [beq_eq_false_iff_ne]; omega
          have y2 : ((y : Int) == 101) = false := by rw [beq_eq_false_iff_ne]; omega
          have y3 : ((y : Int) == 69) = false := by rw [beq_eq_false_iff_ne]; omega
          clear HG HG2 HB1 HB2 hyy ey hbad hy
          rcases hcase with d48 | ⟨d48, hbf, dl⟩
          · cases b with
            | true =>
              go_wp2_with fail
              refine hN.mono ?_
              rintro e w3 ⟨rfl, rfl⟩
              clear hN
              go_wp2
              go_ret
              exact Ends.ok HP.out ⟨rfl, by simp <;> omega, by simp <;> omega⟩ rfl h3 hg3
            | false =>
              go_wp2_with fail
              refine hN.mono ?_
              rintro e w3 ⟨rfl, rfl⟩
              clear hN
              go_wp2
              go_ret
              exact Ends.ok HP.out ⟨rfl, by simp <;> omega, by simp <;> omega⟩ rfl h3 hg3
          · subst hbf
            go_wp2_with fail
            refine hN.mono ?_
            rintro e w3 ⟨rfl, rfl⟩
            clear hN
            go_wp2
            go_ret
            exact Ends.ok HP.out ⟨rfl, by simp <;> omega, by simp <;> omega⟩ rfl h3 hg3
    · have HP : Hid (numV (numsOf s) = .error 52) := by
        unfold Hid
        rw [HV.out]
        exact num_bad ((Jq.numBad_iff _ _).2 (.inr (.inl (by omega))))
      have dt : decide ((9007199254740991 : Int) < (Uq.val (Jq.digs (numsOf x)) : Int)) = true := decide_eq_true (by omega)
      clear ht
      go_wp2
      exact ⟨rfl, Ends.err HP.out hg3⟩
  · have HP : Hid (numV (numsOf s) = .error 52) := by
      unfold Hid
      rw [HV.out]
      refine num_bad ((Jq.numBad_iff _ _).2 ?_)
      rcases hbad with h | h
      · exact .inl h
      · refine .inr (.inl ?_)
        have : Jq.top = 9007199254740991 := rfl
        omega
    clear hbad hA
    go_wp2
    exact ⟨rfl, Ends.err HP.out (gb_trans (gb_trans (gb_below hb) (gb_set _ _ _ _)) (gb_below hb2))⟩
end Go.Proofs.YthklgpflaghojaaGreatDoor
