/-
  The contract of the document's Escape.
-/
import Derived.Test.YtejmkijnngkoaaaDoorPEs
namespace Go.Proofs.YtejmkijnngkoaaaDoor
open Go.RowKit

set_option maxHeartbeats 2000000 in
set_option maxRecDepth 100000 in
theorem refEscape_any (s : ByteArray) (w : World) (hs : s.size ≤ 4194304) :
    Calls Tryd.prog 49 #[.string s] w fun e w' => e = .returned (.string (strOf (Pq.es (numsOf s)))) ∧ Below w.heap.size w w' := by
  have Hlen := Lib.hid (numsOf_length s)
  go_enter Tryd.func49, Tryd.ntmps49
  go_wp2_with fail
  go_loopw [4, 5] (fun t i wr => EsRel (numsOf s) w t i wr) (fun _ i _ => s.size - (intOf i).toNat)
  case atStart => exact ⟨0, 0, rfl, Nat.zero_le _, Nat.zero_le _, rfl, World.ownsRow_nil _ _ _ _, Below.refl _ _⟩
  case round =>
    obtain ⟨k, n, rfl, hk, hnk, hn, hown, hb⟩ := hrel
    rw [Hlen.out] at hk
    have Hn := Lib.hid hn
    clear hn
    by_cases hlt : k < s.size
    · have hX := Lib.hid (nums_at s k hlt)
      have hx256 := s[k].toNat_lt
      have HE := Lib.hid (Pq.es_take (numsOf s) k (by rw [Hlen.out]; exact hlt))
      rw [hX.out] at HE
      have hP := fun w => refPlain_any s[k].toNat hx256 w
      have HLen : Hid (∀ m, (Pq.e1 s[k].toNat).length = m → (Pq.es (List.take (k + 1) (numsOf s))).length = n + m) := fun m hm => by rw [HE.out, List.length_append, Hn.out, hm]
      cases hp : Pq.pl s[k].toNat
      · rw [hp] at hP
        rw [Pq.e1_no hp] at HE HLen
        clear hp
        go_wp2_with fail
        refine (hP _).mono ?_
        rintro e w' ⟨rfl, rfl⟩
        clear hP
        have b1 : (0 : Int) ≤ (s[k].toNat : Int) / 16 := by omega
        have b2 : (s[k].toNat : Int) / 16 < 16 := by omega
        have b3 : (0 : Int) ≤ (s[k].toNat : Int) % 16 := by omega
        have b4 : (s[k].toNat : Int) % 16 < 16 := by omega
        repeat ((fail_if_success (with_reducible show wpList _ _ _ (⟨some 24, _, _, _, _, _⟩ :: _) _ _)); first | go_values | go_skip | go_guarded | go_step | go_upon | go_back | go_simp)
        with_reducible refine append_row rfl (.tmp 22) (.tmp 23) 37 5 (.int .u8 0) 1 1 rfl Tryd.underlying37 infoByte rfl (by decide) w.heap.size _ n _ ⟨wr.heap.size, 0, none⟩ 1 1 (u8s [37]) (hown.alloc _) ?c11 ?c12 ?c13 ?c14 ?c15 ?c16 ?c17 ?c18 ?_
        case c11 => rfl
        case c12 => exact fun j u hj => new_cells wr _ _ j u hj
        case c13 => exact u8s_one _
        case c14 => rfl
        case c15 => rfl
        case c16 => omega
        case c17 => omega
        case c18 => have := hb.size; simp; omega
        intro v1 w1 hown1 hgr1
        have hb1 : Below w.heap.size w w1 := (hb.alloc hb.size _).grown hgr1 (by have := hb.size; simp; omega) (own_ge hown)
        rw [← u8s_append] at hown1
        clear hgr1 hown hb
        go_frame
        repeat ((fail_if_success (with_reducible show wpList _ _ _ (⟨some 33, _, _, _, _, _⟩ :: _) _ _)); first | go_values | go_skip | go_guarded | go_step | go_upon | go_back | go_simp)
        with_reducible refine append_row rfl (.tmp 25) (.tmp 32) 37 5 (.int .u8 0) 1 1 rfl Tryd.underlying37 infoByte rfl (by decide) w.heap.size _ (n + 1) _ ⟨w1.heap.size, 0, none⟩ 1 1 (u8s [Pq.hx (s[k].toNat / 16)]) (hown1.alloc _) ?c21 ?c22 ?c23 ?c24 ?c25 ?c26 ?c27 ?c28 ?_
        case c21 => rfl
        case c22 => show ∀ j u, [Value.int .u8 ((Pq.hx (s[k].toNat / 16) : Nat) : Int)][j]? = some u → _; rw [← hex_at ((s[k].toNat : Int) / 16) (s[k].toNat / 16) (by omega) (by omega) (by show _ < 16; omega)]; exact fun j u hj => new_cells w1 _ _ j u hj
        case c23 => exact u8s_one _
        case c24 => rfl
        case c25 => rfl
        case c26 => omega
        case c27 => omega
        case c28 => have := hb1.size; simp; omega
        intro v2 w2 hown2 hgr2
        have hb2 : Below w.heap.size w w2 := (hb1.alloc hb1.size _).grown hgr2 (by have := hb1.size; simp; omega) (own_ge hown1)
        rw [← u8s_append] at hown2
        clear hgr2 hown1 hb1
        go_frame
        repeat ((fail_if_success (with_reducible show wpList _ _ _ (⟨some 42, _, _, _, _, _⟩ :: _) _ _)); first | go_values | go_skip | go_guarded | go_step | go_upon | go_back | go_simp)
        with_reducible refine append_row rfl (.tmp 34) (.tmp 41) 37 5 (.int .u8 0) 1 1 rfl Tryd.underlying37 infoByte rfl (by decide) w.heap.size _ (n + 1 + 1) _ ⟨w2.heap.size, 0, none⟩ 1 1 (u8s [Pq.hx (s[k].toNat % 16)]) (hown2.alloc _) ?c31 ?c32 ?c33 ?c34 ?c35 ?c36 ?c37 ?c38 ?_
        case c31 => rfl
        case c32 => show ∀ j u, [Value.int .u8 ((Pq.hx (s[k].toNat % 16) : Nat) : Int)][j]? = some u → _; rw [← hex_at ((s[k].toNat : Int) % 16) (s[k].toNat % 16) (by omega) (by omega) (by show _ < 16; omega)]; exact fun j u hj => new_cells w2 _ _ j u hj
        case c33 => exact u8s_one _
        case c34 => rfl
        case c35 => rfl
        case c36 => omega
        case c37 => omega
        case c38 => have := hb2.size; simp; omega
        intro v3 w3 hown3 hgr3
        have hb3 : Below w.heap.size w w3 := (hb2.alloc hb2.size _).grown hgr3 (by have := hb2.size; simp; omega) (own_ge hown2)
        rw [← u8s_append] at hown3
        clear hgr3 hown2 hb2
        go_frame
        have e3 : (Pq.es (List.take k (numsOf s)) ++ [37] ++ [Pq.hx (s[k].toNat / 16)]) ++ [Pq.hx (s[k].toNat % 16)] = Pq.es (List.take (k + 1) (numsOf s)) := by rw [HE.out]; simp
        rw [e3] at hown3
        clear e3
        go_wp2
        go_roundw
        case rel => exact ⟨k + 1, n + 1 + 1 + 1, by go_num, by rw [Hlen.out]; omega, by omega, HLen.out 3 rfl, hown3, hb3⟩
        case measure => simp [intOf]; omega
      · rw [hp] at hP
        rw [Pq.e1_yes hp] at HE HLen
        clear hp
        go_wp2_with fail
        refine (hP _).mono ?_
        rintro e w' ⟨rfl, rfl⟩
        clear hP
        repeat ((fail_if_success (with_reducible show wpList _ _ _ (⟨some 21, _, _, _, _, _⟩ :: _) _ _)); first | go_values | go_skip | go_guarded | go_step | go_upon | go_back | go_simp)
        with_reducible refine append_row rfl (.tmp 16) (.tmp 20) 37 5 (.int .u8 0) 1 1 rfl Tryd.underlying37 infoByte rfl (by decide) w.heap.size _ n _ ⟨wr.heap.size, 0, none⟩ 1 1 (u8s [s[k].toNat]) (hown.alloc _) ?c11 ?c12 ?c13 ?c14 ?c15 ?c16 ?c17 ?c18 ?_
        case c11 => rfl
        case c12 => exact fun j u hj => new_cells wr _ _ j u hj
        case c13 => exact u8s_one _
        case c14 => rfl
        case c15 => rfl
        case c16 => omega
        case c17 => omega
        case c18 => have := hb.size; simp; omega
        intro v1 w1 hown1 hgr1
        have hb1 : Below w.heap.size w w1 := (hb.alloc hb.size _).grown hgr1 (by have := hb.size; simp; omega) (own_ge hown)
        rw [← u8s_append] at hown1
        clear hgr1 hown hb
        go_frame
        rw [← HE.out] at hown1
        go_wp2
        go_roundw
        case rel => exact ⟨k + 1, n + 1, by go_num, by rw [Hlen.out]; omega, by omega, HLen.out 1 rfl, hown1, hb1⟩
        case measure => simp [intOf]; omega
    · obtain rfl : k = s.size := by omega
      have hd : decide ((s.size : Int) < (s.size : Int)) = false := by simp
      obtain ⟨A1, c1, rfl⟩ := own_slice hown
      rw [List.take_of_length_le (by rw [Hlen.out]; exact Nat.le_refl _)] at hown
      obtain ⟨hl, harg⟩ := own_arg hown (Pq.es_lt (numsOf_lt s))
      have hconv := conv_str harg
      rw [hl] at hconv
      clear hl harg hown
      go_wp2
      go_ret
      exact ⟨rfl, hb⟩
end Go.Proofs.YtejmkijnngkoaaaDoor
