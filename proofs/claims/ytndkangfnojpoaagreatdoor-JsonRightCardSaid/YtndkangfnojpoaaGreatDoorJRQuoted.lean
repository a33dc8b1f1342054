/-
  The document's Quoted.
-/
import Derived.Test.YtndkangfnojpoaaGreatDoorQI
namespace Go.Proofs.YtndkangfnojpoaaGreatDoor
open Go.RowKit

theorem own_two {w : World} {base : Nat} {v : Value} {n : Nat} {T a b : List Nat} {m k : Nat} (h : w.ownsRow base 5 1 v (n + m + k) ((u8s T ++ u8s a) ++ u8s b)) : w.ownsRow base 5 1 v (n + (m + k)) (u8s T ++ u8s (a ++ b)) := by
  rw [u8s_append, ← List.append_assoc, ← Nat.add_assoc]; exact h
theorem one_list (a : Int) : ∀ u ∈ [Value.int .u8 a], u.oneCell' = true := by
  intro u hu
  simp at hu
  rw [hu]; rfl
theorem hex_atN (n : Nat) (hn : n < 16) (p : n < hexB.size) : ((hexB[n]'p).toNat : Int) = ((Jq.hexl n : Nat) : Int) := hex_at (n : Int) n rfl hn p
theorem QRel.add {S : List Nat} {w w2 : World} {k n : Nat} {T : List Nat} {x : Nat} {v : Value} (q : List Nat) (hq : Hid (Jq.q1 x = q)) (hm6 : q.length ≤ 6) (hx : Hid (S.getD k 0 = x)) (hk : k < S.length) (hT : Hid (T.length = n)) (hn : n ≤ 1 + 6 * k) (he : Hid (T = 34 :: (S.take k).flatMap Jq.q1))
    (hlt : ∀ x ∈ T, x < 256) (hq2 : ∀ x ∈ q, x < 256) (ho : w2.ownsRow w.heap.size 5 1 v (n + q.length) (u8s T ++ u8s q)) (hb : Below w.heap.size w w2) : QRel S w v (.int .i64 ((k + 1 : Nat) : Int)) w2 :=
  QRel.next hx.out hk hT.out hn he hq.out rfl hm6 hlt hq2 ho hb

set_option maxHeartbeats 8000000 in
set_option maxRecDepth 100000 in
theorem refQuoted_any (s : ByteArray) (hs : s.size ≤ 4096) (w : World) :
    Calls Tryz.prog 54 #[.string s] w fun e w' => e = .returned (.string (strOf (Jq.quoted (numsOf s)))) ∧ Below w.heap.size w w' := by
  have Hlen := Lib.hid (numsOf_length s)
  go_enter Tryz.func54, Tryz.ntmps54
  go_wp2_with fail
  go_loopw [4, 5] (fun t i wr => QRel (numsOf s) w t i wr) (fun _ i _ => s.size - (intOf i).toNat)
  case atStart => exact ⟨0, 1, [34], rfl, Nat.zero_le _, rfl, by omega, Lib.hid rfl, own_new1 rfl (Nat.le_refl _), by decide, (Below.refl _ _).alloc (Nat.le_refl _) _⟩
  case round =>
    obtain ⟨k, n, T, rfl, hk, hn, hnk, hT, hown, hlt256, hb⟩ := hrel
    rw [Hlen.out] at hk
    have Hn := Lib.hid hn
    clear hn
    have hwr : w.heap.size ≤ wr.heap.size := hb.size
    by_cases hlt : k < s.size
    · have hX := Lib.hid (nums_at s k hlt)
      have hx256 := s[k].toNat_lt
      by_cases h1 : s[k].toNat = 34 ∨ s[k].toNat = 92
      · have hQ := Lib.hid (q1_esc h1)
        have hdd : (((s[k].toNat : Int) == 34) = true) ∨ (((s[k].toNat : Int) == 34) = false ∧ ((s[k].toNat : Int) == 92) = true) := by
          rcases h1 with h1 | h1
          · exact .inl (by rw [h1]; rfl)
          · exact .inr (by rw [h1]; exact ⟨rfl, rfl⟩)
        have d3 : decide ((s[k].toNat : Int) < 32) = false := decide_eq_false (by omega)
        clear h1
        rcases hdd with d1 | ⟨d1, d2⟩
        all_goals
          go_upto_region 7 with (fail)
          repeat ((fail_if_success (with_reducible show wpList _ _ _ (⟨some 25, _, _, _, _, _⟩ :: _) _ _)); first | go_values | go_skip | go_guarded | go_step | go_upon | go_back | go_simp)
          with_reducible refine append_row rfl (.tmp 23) (.tmp 24) 52 5 (.int .u8 0) 1 1 rfl Tryz.underlying52 infoByte rfl (by decide) w.heap.size _ n _ ⟨wr.heap.size, 0, none⟩ 1 1 (u8s [92]) (hown.alloc _) ?c1 ?c2 ?c3 ?c4 ?c5 ?c6 ?c7 ?c8 ?_
          case c1 => rfl
          case c2 => exact fun j u hj => new_cells wr _ _ j u hj
          case c3 => exact u8s_one _
          case c4 => rfl
          case c5 => rfl
          case c6 => omega
          case c7 => omega
          case c8 => simp; omega
          intro v2 w2 hown2 hgr2
          have hb2 : Below w.heap.size w w2 := (hb.alloc hb.size _).grown hgr2 (by simp; omega) (own_ge hown)
          have hw2 : w.heap.size ≤ w2.heap.size := hb2.size
          clear hgr2 hown hb
          go_frame
          repeat ((fail_if_success (with_reducible show wpList _ _ _ (⟨some 55, _, _, _, _, _⟩ :: _) _ _)); first | go_values | go_skip | go_guarded | go_step | go_upon | go_back | go_simp)
          with_reducible refine append_row rfl (.tmp 50) (.tmp 54) 52 5 (.int .u8 0) 1 1 rfl Tryz.underlying52 infoByte rfl (by decide) w.heap.size _ (n + 1) _ ⟨w2.heap.size, 0, none⟩ 1 1 (u8s [s[k].toNat]) (hown2.alloc _) ?c1 ?c2 ?c3 ?c4 ?c5 ?c6 ?c7 ?c8 ?_
          case c1 => rfl
          case c2 => exact fun j u hj => new_cells w2 _ _ j u hj
          case c3 => exact u8s_one _
          case c4 => rfl
          case c5 => rfl
          case c6 => omega
          case c7 => omega
          case c8 => simp; omega
          intro v3 w3 hown3 hgr3
          have hb3 : Below w.heap.size w w3 := (hb2.alloc hb2.size _).grown hgr3 (by simp; omega) (own_ge hown2)
          have HR := Lib.hid (QRel.add [92, s[k].toNat] hQ (by simp) hX (by rw [Hlen.out]; exact hlt) Hn hnk hT hlt256 (by intro x hx; simp at hx; omega) (own_two hown3) hb3)
          clear hgr3 hown2 hown3 hb2 hb3
          go_frame
          go_wp2
          go_roundw
          case rel => exact HR.out
          case measure => simp [intOf]; omega
      have d1 : ((s[k].toNat : Int) == 34) = false := by rw [beq_eq_false_iff_ne]; omega
      have d2 : ((s[k].toNat : Int) == 92) = false := by rw [beq_eq_false_iff_ne]; omega
      by_cases h3 : s[k].toNat < 32
      · have hQ := Lib.hid (q1_ctl h3)
        have d3 : decide ((s[k].toNat : Int) < 32) = true := decide_eq_true (by omega)
        clear h1
        go_upto_region 9 with (fail)
        obtain ⟨i0, hi, hz0, hz1, hz2⟩ := info_parts infoByte
        repeat ((fail_if_success (with_reducible show wpList _ _ _ (⟨some 31, _, _, _, _, _⟩ :: _) _ _)); first | go_values | go_skip | go_guarded | go_step | go_upon | go_back | go_simp)
        with_reducible refine Lib.wpList_append_own_string _ rfl (.tmp 30) (.const (.string { data := #[92, 117, 48, 48] })) 52 9 rfl w.heap.size 5 i0 Tryz.underlying52 Tryz.underlying9 hi hz0 hz1 hz2 u4 n (u8s T) ?r1 hown { data := #[92, 117, 48, 48] } ?r2 ?r3 ?r4 ?r5 ?r6
        case r1 => rfl
        case r2 => rfl
        case r3 => show n + 4 ≤ maxLen; unfold maxLen; omega
        case r4 => show n + 4 ≤ _; omega
        case r5 => exact hwr
        case r6 =>
        intro v2 w2 hown2 hgr2 hnil
        clear hnil
        have hown2 : w2.ownsRow w.heap.size 5 1 v2 (n + 4) (u8s T ++ u8s [92, 117, 48, 48]) := hown2
        have hb2 : Below w.heap.size w w2 := hb.grown hgr2 hwr (own_ge hown)
        have hw2 : w.heap.size ≤ w2.heap.size := hb2.size
        have p1 : s[k].toNat / 16 < hexB.size := by show _ < 16; omega
        have p2 : s[k].toNat % 16 < hexB.size := by show _ < 16; omega
        have b1 : (0 : Int) ≤ (s[k].toNat : Int) / 16 := by omega
        have b2 : (s[k].toNat : Int) / 16 < 16 := by omega
        have b3 : (0 : Int) ≤ (s[k].toNat : Int) % 16 := by omega
        have b4 : (s[k].toNat : Int) % 16 < 16 := by omega
        clear hgr2 hown hb hi hz0 hz1 hz2 i0
        go_frame
        repeat ((fail_if_success (with_reducible show wpList _ _ _ (⟨some 40, _, _, _, _, _⟩ :: _) _ _)); first | go_values | go_skip | go_guarded | go_step | go_upon | go_back | go_simp)
        with_reducible refine append_row rfl (.tmp 32) (.tmp 39) 52 5 (.int .u8 0) 1 1 rfl Tryz.underlying52 infoByte rfl (by decide) w.heap.size _ (n + 4) _ ⟨w2.heap.size, 0, none⟩ 1 1 [.int .u8 (((hexB[s[k].toNat / 16]'p1).toNat : Nat) : Int)] (hown2.alloc _) ?c1 ?c2 ?c3 ?c4 ?c5 ?c6 ?c7 ?c8 ?_
        case c2 => exact fun j u hj => new_cells w2 _ _ j u hj
        case c1 => rfl
        case c3 => exact one_list _
        case c4 => rfl
        case c5 => rfl
        case c6 => omega
        case c7 => omega
        case c8 => simp; omega
        intro v3 w3 hown3 hgr3
        have hb3 : Below w.heap.size w w3 := (hb2.alloc hb2.size _).grown hgr3 (by simp; omega) (own_ge hown2)
        have hown3 : w3.ownsRow w.heap.size 5 1 v3 (n + 4 + 1) (u8s T ++ u8s [92, 117, 48, 48] ++ u8s [Jq.hexl (s[k].toNat / 16)]) := own_as hown3 (by
          rw [hex_atN _ (by omega) p1]; rfl)
        have hw3 : w.heap.size ≤ w3.heap.size := hb3.size
        clear hgr3 hown2 hb2
        go_frame
        repeat ((fail_if_success (with_reducible show wpList _ _ _ (⟨some 49, _, _, _, _, _⟩ :: _) _ _)); first | go_values | go_skip | go_guarded | go_step | go_upon | go_back | go_simp)
        with_reducible refine append_row rfl (.tmp 41) (.tmp 48) 52 5 (.int .u8 0) 1 1 rfl Tryz.underlying52 infoByte rfl (by decide) w.heap.size _ (n + 4 + 1) _ ⟨w3.heap.size, 0, none⟩ 1 1 [.int .u8 (((hexB[s[k].toNat % 16]'p2).toNat : Nat) : Int)] (hown3.alloc _) ?c1 ?c2 ?c3 ?c4 ?c5 ?c6 ?c7 ?c8 ?_
        case c2 => exact fun j u hj => new_cells w3 _ _ j u hj
        case c1 => rfl
        case c3 => exact one_list _
        case c4 => rfl
        case c5 => rfl
        case c6 => omega
        case c7 => omega
        case c8 => simp; omega
        intro v4 w4 hown4 hgr4
        have hb4 : Below w.heap.size w w4 := (hb3.alloc hb3.size _).grown hgr4 (by simp; omega) (own_ge hown3)
        have hown4 : w4.ownsRow w.heap.size 5 1 v4 (n + 4 + 1 + 1) (u8s T ++ u8s [92, 117, 48, 48] ++ u8s [Jq.hexl (s[k].toNat / 16)] ++ u8s [Jq.hexl (s[k].toNat % 16)]) := own_as hown4 (by
          rw [hex_atN _ (by omega) p2]; rfl)
        have hown5 : w4.ownsRow w.heap.size 5 1 v4 (n + 6) (u8s T ++ u8s [92, 117, 48, 48, Jq.hexl (s[k].toNat / 16), Jq.hexl (s[k].toNat % 16)]) := by
          rw [List.append_assoc, List.append_assoc, ← u8s_append, ← u8s_append] at hown4
          exact hown4
        have HR := Lib.hid (QRel.add _ hQ (by simp) hX (by rw [Hlen.out]; exact hlt) Hn hnk hT hlt256 (by have := hexl_lt (n := s[k].toNat / 16) (by omega); have := hexl_lt (n := s[k].toNat % 16) (by omega); intro x hx; simp at hx; omega) hown5 hb4)
        clear hgr4 hown3 hown4 hown5 hb3 hb4
        go_frame
        go_wp2
        go_roundw
        case rel => exact HR.out
        case measure => simp [intOf]; omega
      · have hQ := Lib.hid (q1_lit (fun e => h1 (.inl e)) (fun e => h1 (.inr e)) h3)
        have d3 : decide ((s[k].toNat : Int) < 32) = false := decide_eq_false (by omega)
        clear h1 h3
        go_upto_region 12 with (fail)
        repeat ((fail_if_success (with_reducible show wpList _ _ _ (⟨some 55, _, _, _, _, _⟩ :: _) _ _)); first | go_values | go_skip | go_guarded | go_step | go_upon | go_back | go_simp)
        with_reducible refine append_row rfl (.tmp 50) (.tmp 54) 52 5 (.int .u8 0) 1 1 rfl Tryz.underlying52 infoByte rfl (by decide) w.heap.size _ n _ ⟨wr.heap.size, 0, none⟩ 1 1 (u8s [s[k].toNat]) (hown.alloc _) ?c1 ?c2 ?c3 ?c4 ?c5 ?c6 ?c7 ?c8 ?_
        case c1 => rfl
        case c2 => exact fun j u hj => new_cells wr _ _ j u hj
        case c3 => exact u8s_one _
        case c4 => rfl
        case c5 => rfl
        case c6 => omega
        case c7 => omega
        case c8 => simp; omega
        intro v2 w2 hown2 hgr2
        have hb2 : Below w.heap.size w w2 := (hb.alloc hb.size _).grown hgr2 (by simp; omega) (own_ge hown)
        have HR := Lib.hid (QRel.add [s[k].toNat] hQ (by simp) hX (by rw [Hlen.out]; exact hlt) Hn hnk hT hlt256 (by intro x hx; simp at hx; omega) hown2 hb2)
        clear hgr2 hown hown2 hb hb2
        go_frame
        go_wp2
        go_roundw
        case rel => exact HR.out
        case measure => simp [intOf]; omega
    · obtain rfl : k = s.size := by omega
      have hd2 : decide ((s.size : Int) < (s.size : Int)) = false := by simp
      have HT : Hid (T ++ [34] = Jq.quoted (numsOf s)) := by
        unfold Hid Jq.quoted
        rw [hT.out, List.take_of_length_le (by rw [Hlen.out]; exact Nat.le_refl _)]
        rfl
      go_upto_region 13 with (fail)
      repeat ((fail_if_success (with_reducible show wpList _ _ _ (⟨some 58, _, _, _, _, _⟩ :: _) _ _)); first | go_values | go_skip | go_guarded | go_step | go_upon | go_back | go_simp)
      with_reducible refine append_row rfl (.tmp 56) (.tmp 57) 52 5 (.int .u8 0) 1 1 rfl Tryz.underlying52 infoByte rfl (by decide) w.heap.size _ n _ ⟨wr.heap.size, 0, none⟩ 1 1 (u8s [34]) (hown.alloc _) ?c1 ?c2 ?c3 ?c4 ?c5 ?c6 ?c7 ?c8 ?_
      case c1 => rfl
      case c2 => exact fun j u hj => new_cells wr _ _ j u hj
      case c3 => exact u8s_one _
      case c4 => rfl
      case c5 => rfl
      case c6 => omega
      case c7 => omega
      case c8 => simp; omega
      intro v2 w2 hown2 hgr2
      have hb2 : Below w.heap.size w w2 := (hb.alloc hb.size _).grown hgr2 (by simp; omega) (own_ge hown)
      rw [← u8s_append, HT.out] at hown2
      have hq256 : ∀ x ∈ Jq.quoted (numsOf s), x < 256 := by
        rw [← HT.out]
        exact snoc_lt hlt256 (by decide)
      obtain ⟨A1, c1, rfl⟩ := own_slice hown2
      obtain ⟨hql, harg⟩ := own_arg hown2 hq256
      have hcv := conv_str harg
      rw [hql] at hcv
      clear hgr2 hown hown2 hb harg hql hq256 hlt256
      go_frame
      go_wp2
      go_ret
      exact ⟨rfl, hb2⟩
end Go.Proofs.YtndkangfnojpoaaGreatDoor
