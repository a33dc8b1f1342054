/-
  The contract of the document's Unescape.
-/
import Derived.Test.YtejmkijnngkoaaaDoorPUn
namespace Go.Proofs.YtejmkijnngkoaaaDoor
open Go.RowKit

/-- What holds at each round of the document's loop. -/
def RefURel (plus : Bool) (S : List Nat) (w : World) (out i : Value) (wr : World) : Prop :=
  ∃ (k n : Nat) (T : List Nat), i = .int .i64 k ∧ T.length = n ∧ n ≤ k ∧ k ≤ S.length ∧ Pq.Acc plus S T k ∧ (∀ x ∈ T, x < 256) ∧ wr.ownsRow w.heap.size 5 1 out n (u8s T) ∧ Below w.heap.size w wr

set_option maxHeartbeats 2000000 in
set_option maxRecDepth 100000 in
theorem refUnescape_any (s : ByteArray) (plus : Bool) (w : World) (hs : s.size ≤ 140737488351232) :
    Calls Tryd.prog 63 #[.string s, .bool plus] w fun e w' => UnEnd plus (numsOf s) w e w' := by
  have Hlen := Lib.hid (numsOf_length s)
  go_enter Tryd.func63, Tryd.ntmps63
  go_wp2_with fail
  go_loopw [6, 7] (fun t i wr => RefURel plus (numsOf s) w t i wr) (fun _ i _ => s.size - (intOf i).toNat)
  case atStart => exact ⟨0, 0, [], rfl, rfl, Nat.le_refl _, Nat.zero_le _, Pq.acc_start _ _, (fun x hx => by cases hx), World.ownsRow_nil _ _ _ _, Below.refl _ _⟩
  case round =>
    obtain ⟨k, n, T, rfl, hn, hnk, hk, hacc, hT, hown, hb⟩ := hrel
    rw [Hlen.out] at hk
    have Hn := Lib.hid hn
    have HA := Lib.hid hacc
    have HT := Lib.hid hT
    clear hn hacc hT
    by_cases hlt : k < s.size
    · have hX := Lib.hid (nums_at s k hlt)
      by_cases h37 : s[k].toNat = 37
      · have hd2 : ((s[k].toNat : Int) == 37) = true := by rw [beq_iff_eq]; omega
        have H37 : Hid ((numsOf s).getD k 0 = 37) := by unfold Hid; rw [hX.out]; exact h37
        clear h37
        by_cases h2 : k + 2 < s.size
        · have hd3 : decide ((s.size : Int) ≤ (k : Int) + 2) = false := decide_eq_false (by omega)
          have h1 : k + 1 < s.size := by omega
          have e0 := nums_at s (k + 1) h1
          have e1 := nums_at s (k + 2) h2
          have hH0 := fun w => refHex_any s[k + 1].toNat s[k + 1].toNat_lt w
          have hH1 := fun w => refHex_any s[k + 2].toNat s[k + 2].toNat_lt w
          have l0 := Pq.hv_le s[k + 1].toNat
          have l1 := Pq.hv_le s[k + 2].toNat
          by_cases hok : Pq.hv s[k + 1].toNat < 16 ∧ Pq.hv s[k + 2].toNat < 16
          · have HS := Lib.hid (Pq.acc_esc HA.out (by rw [Hlen.out]; exact h2) H37.out (by rw [e0]; exact hok.1) (by rw [e1]; exact hok.2))
            rw [e0, e1] at HS
            obtain ⟨a, ea⟩ : ∃ a, Pq.hv s[k + 1].toNat = a := ⟨_, rfl⟩
            obtain ⟨b, eb⟩ : ∃ b, Pq.hv s[k + 2].toNat = b := ⟨_, rfl⟩
            rw [ea] at hH0 l0 HS hok
            rw [eb] at hH1 l1 HS hok
            obtain ⟨ha, hbb⟩ := hok
            have d0 : ((a : Int) == 16) = false := by rw [beq_eq_false_iff_ne]; omega
            have d1 : ((b : Int) == 16) = false := by rw [beq_eq_false_iff_ne]; omega
            have HD : Hid ((a : Int) * 16 + (b : Int) = ((a * 16 + b : Nat) : Int)) := by unfold Hid; omega
            clear ea eb e0 e1
            go_wp2_with fail
            refine (hH0 _).mono ?_
            rintro e w' ⟨rfl, rfl⟩
            go_wp2_with fail
            refine (hH1 _).mono ?_
            rintro e w' ⟨rfl, rfl⟩
            clear hH0 hH1
            repeat ((fail_if_success (with_reducible show wpList _ _ _ (⟨some 47, _, _, _, _, _⟩ :: _) _ _)); first | go_values | go_skip | go_guarded | go_step | go_upon | go_back | go_simp)
            with_reducible refine append_row rfl (.tmp 41) (.tmp 46) 37 5 (.int .u8 0) 1 1 rfl Tryd.underlying37 infoByte rfl (by decide) w.heap.size _ n _ ⟨wr.heap.size, 0, none⟩ 1 1 (u8s [a * 16 + b]) (hown.alloc _) ?c1 ?c2 ?c3 ?c4 ?c5 ?c6 ?c7 ?c8 ?_
            case c1 => rfl
            case c2 => show ∀ j u, [Value.int .u8 ((a * 16 + b : Nat) : Int)][j]? = some u → _; rw [← HD.out]; exact fun j u hj => new_cells wr _ _ j u hj
            case c3 => exact u8s_one _
            case c4 => rfl
            case c5 => rfl
            case c6 => omega
            case c7 => omega
            case c8 => have := hb.size; simp; omega
            intro v2 w2 hown2 hgr2
            have hb2 : Below w.heap.size w w2 := (hb.alloc hb.size _).grown hgr2 (by have := hb.size; simp; omega) (own_ge hown)
            rw [← u8s_append] at hown2
            clear hgr2 hown hb
            go_frame
            go_wp2
            go_roundw
            case rel => exact ⟨k + 3, n + 1, T ++ [a * 16 + b], by go_num, by rw [List.length_append, Hn.out]; rfl, by omega, by rw [Hlen.out]; omega, HS.out, snoc_lt HT.out (by omega), hown2, hb2⟩
            case measure => simp [intOf]; omega
          · have HS := Lib.hid (Pq.acc_bad HA.out (by rw [Hlen.out]; exact hlt) H37.out (fun h => hok (by rw [e0, e1] at h; exact h.2)))
            obtain ⟨a, ea⟩ : ∃ a, Pq.hv s[k + 1].toNat = a := ⟨_, rfl⟩
            obtain ⟨b, eb⟩ : ∃ b, Pq.hv s[k + 2].toNat = b := ⟨_, rfl⟩
            rw [ea] at hH0 l0 hok
            rw [eb] at hH1 l1 hok
            have hor : ((a : Int) == 16) = true ∨ (((a : Int) == 16) = false ∧ ((b : Int) == 16) = true) := by
              by_cases h : a = 16
              · exact .inl (by rw [beq_iff_eq]; omega)
              · exact .inr ⟨by rw [beq_eq_false_iff_ne]; omega, by rw [beq_iff_eq]; omega⟩
            clear ea eb e0 e1 hok
            go_wp2_with fail
            refine (hH0 _).mono ?_
            rintro e w' ⟨rfl, rfl⟩
            go_wp2_with fail
            refine (hH1 _).mono ?_
            rintro e w' ⟨rfl, rfl⟩
            clear hH0 hH1
            rcases hor with d0 | ⟨d0, d1⟩
            all_goals
              go_wp2
              go_ret2
              exact UnEnd.no HS.out hb
        · have hd3 : decide ((s.size : Int) ≤ (k : Int) + 2) = true := decide_eq_true (by omega)
          have HS := Lib.hid (Pq.acc_bad HA.out (by rw [Hlen.out]; exact hlt) H37.out (fun h => h2 (by rw [Hlen.out] at h; exact h.1)))
          go_wp2
          go_ret2
          exact UnEnd.no HS.out hb
      · have hd2 : ((s[k].toNat : Int) == 37) = false := by rw [beq_eq_false_iff_ne]; omega
        have HS := Lib.hid (Pq.acc_plain HA.out (by rw [Hlen.out]; exact hlt) (by rw [hX.out]; exact h37))
        rw [hX.out] at HS
        have hx256 := s[k].toNat_lt
        clear h37
        by_cases h43 : s[k].toNat = 43 ∧ plus = true
        · have hd3 : ((s[k].toNat : Int) == 43) = true := by rw [beq_iff_eq]; omega
          obtain rfl : plus = true := h43.2
          rw [if_pos h43] at HS
          clear h43
          repeat ((fail_if_success (with_reducible show wpList _ _ _ (⟨some 58, _, _, _, _, _⟩ :: _) _ _)); first | go_values | go_skip | go_guarded | go_step | go_upon | go_back | go_simp)
          with_reducible refine append_row rfl (.tmp 55) (.tmp 57) 37 5 (.int .u8 0) 1 1 rfl Tryd.underlying37 infoByte rfl (by decide) w.heap.size _ n _ ⟨wr.heap.size, 0, none⟩ 1 1 (u8s [32]) (hown.alloc _) ?c1 ?c2 ?c3 ?c4 ?c5 ?c6 ?c7 ?c8 ?_
          case c1 => rfl
          case c2 => exact fun j u hj => new_cells wr _ _ j u hj
          case c3 => exact u8s_one _
          case c4 => rfl
          case c5 => rfl
          case c6 => omega
          case c7 => omega
          case c8 => have := hb.size; simp; omega
          intro v2 w2 hown2 hgr2
          have hb2 : Below w.heap.size w w2 := (hb.alloc hb.size _).grown hgr2 (by have := hb.size; simp; omega) (own_ge hown)
          rw [← u8s_append] at hown2
          clear hgr2 hown hb
          go_frame
          go_wp2
          go_roundw
          case rel => exact ⟨k + 1, n + 1, T ++ [32], by go_num, by rw [List.length_append, Hn.out]; rfl, by omega, by rw [Hlen.out]; omega, HS.out, snoc_lt HT.out (by decide), hown2, hb2⟩
          case measure => simp [intOf]; omega
        · rw [if_neg h43] at HS
          have hp : ((s[k].toNat : Int) == 43) = false ∨ plus = false := by
            by_cases h : s[k].toNat = 43
            · exact .inr (by cases plus; rfl; exact absurd ⟨h, rfl⟩ h43)
            · exact .inl (by rw [beq_eq_false_iff_ne]; omega)
          clear h43
          rcases hp with hd3 | rfl
          · repeat ((fail_if_success (with_reducible show wpList _ _ _ (⟨some 58, _, _, _, _, _⟩ :: _) _ _)); first | go_values | go_skip | go_guarded | go_step | go_upon | go_back | go_simp)
            with_reducible refine append_row rfl (.tmp 55) (.tmp 57) 37 5 (.int .u8 0) 1 1 rfl Tryd.underlying37 infoByte rfl (by decide) w.heap.size _ n _ ⟨wr.heap.size, 0, none⟩ 1 1 (u8s [s[k].toNat]) (hown.alloc _) ?c1 ?c2 ?c3 ?c4 ?c5 ?c6 ?c7 ?c8 ?_
            case c1 => rfl
            case c2 => exact fun j u hj => new_cells wr _ _ j u hj
            case c3 => exact u8s_one _
            case c4 => rfl
            case c5 => rfl
            case c6 => omega
            case c7 => omega
            case c8 => have := hb.size; simp; omega
            intro v2 w2 hown2 hgr2
            have hb2 : Below w.heap.size w w2 := (hb.alloc hb.size _).grown hgr2 (by have := hb.size; simp; omega) (own_ge hown)
            rw [← u8s_append] at hown2
            clear hgr2 hown hb
            go_frame
            go_wp2
            go_roundw
            case rel => exact ⟨k + 1, n + 1, T ++ [s[k].toNat], by go_num, by rw [List.length_append, Hn.out]; rfl, by omega, by rw [Hlen.out]; omega, HS.out, snoc_lt HT.out hx256, hown2, hb2⟩
            case measure => simp [intOf]; omega
          · cases hd3 : ((s[k].toNat : Int) == 43)
            all_goals
              repeat ((fail_if_success (with_reducible show wpList _ _ _ (⟨some 58, _, _, _, _, _⟩ :: _) _ _)); first | go_values | go_skip | go_guarded | go_step | go_upon | go_back | go_simp)
              with_reducible refine append_row rfl (.tmp 55) (.tmp 57) 37 5 (.int .u8 0) 1 1 rfl Tryd.underlying37 infoByte rfl (by decide) w.heap.size _ n _ ⟨wr.heap.size, 0, none⟩ 1 1 (u8s [s[k].toNat]) (hown.alloc _) ?c1 ?c2 ?c3 ?c4 ?c5 ?c6 ?c7 ?c8 ?_
              case c1 => rfl
              case c2 => exact fun j u hj => new_cells wr _ _ j u hj
              case c3 => exact u8s_one _
              case c4 => rfl
              case c5 => rfl
              case c6 => omega
              case c7 => omega
              case c8 => have := hb.size; simp; omega
              intro v2 w2 hown2 hgr2
              have hb2 : Below w.heap.size w w2 := (hb.alloc hb.size _).grown hgr2 (by have := hb.size; simp; omega) (own_ge hown)
              rw [← u8s_append] at hown2
              clear hgr2 hown hb
              go_frame
              go_wp2
              go_roundw
              case rel => exact ⟨k + 1, n + 1, T ++ [s[k].toNat], by go_num, by rw [List.length_append, Hn.out]; rfl, by omega, by rw [Hlen.out]; omega, HS.out, snoc_lt HT.out hx256, hown2, hb2⟩
              case measure => simp [intOf]; omega
    · obtain rfl : k = s.size := by omega
      have hd : decide ((s.size : Int) < (s.size : Int)) = false := by simp
      obtain ⟨A1, c1, rfl⟩ := own_slice hown
      obtain ⟨hl, harg⟩ := own_arg hown HT.out
      have hconv := conv_str harg
      rw [hl] at hconv
      clear hl harg hown
      go_wp2
      go_ret2
      exact UnEnd.yes (Pq.acc_end HA.out (by rw [Hlen.out]; omega)) hb
end Go.Proofs.YtejmkijnngkoaaaDoor
