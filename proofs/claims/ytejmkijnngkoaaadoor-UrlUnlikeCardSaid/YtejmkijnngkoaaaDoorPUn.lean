/-
  The contract of Unescape.
-/
import Derived.Test.YtejmkijnngkoaaaDoorPEsc
namespace Go.Proofs.YtejmkijnngkoaaaDoor
open Go.RowKit

theorem nums_at (s : ByteArray) (k : Nat) (h : k < s.size) : (numsOf s).getD k 0 = s[k].toNat := by
  have h' : k < s.data.toList.length := by simpa using h
  rw [List.getD_eq_getElem?_getD, numsOf, List.getElem?_map, List.getElem?_eq_getElem h']
  rfl
theorem nums_extract (s : ByteArray) (i j : Nat) : numsOf (s.extract i j) = ((numsOf s).take j).drop i := by
  unfold numsOf
  rw [ByteArray.data_extract, Array.toList_extract]
  simp only [List.extract, List.map_drop, List.map_take]
  rw [List.drop_take]
theorem nums_from (s : ByteArray) (i : Nat) : numsOf (s.extract i s.size) = (numsOf s).drop i := by
  rw [nums_extract, List.take_of_length_le (by rw [numsOf_length]; exact Nat.le_refl _)]
theorem rep_set (T : List Nat) (n cap x : Nat) (h : T.length = n) (hn : n < cap) : (T ++ List.replicate (cap - n) 0).set n x = (T ++ [x]) ++ List.replicate (cap - (n + 1)) 0 := by
  rw [List.set_append_right _ _ (by omega), h, Nat.sub_self, show cap - n = (cap - (n + 1)) + 1 from by omega, List.replicate_succ, List.set_cons_zero, List.append_assoc, List.singleton_append]
theorem arg_part {w : World} {g : Nat} {t : TypeId} {T R : List Nat} {c : Nat} (h : Lies w g t (u8s (T ++ R))) (hT : ∀ x ∈ T, x < 256) (hR : ∀ x ∈ R, x < 256) (hc : T.length ≤ c) (hcm : c ≤ 9223372036854775807) : ArgIs w (some ⟨g, 0, none⟩) c T :=
  ⟨hc, hcm, hT, fun _ => ⟨g, 0, rfl, h.lt, by
    have := h.bytes (fun x hx => (List.mem_append.1 hx).elim (hT x) (hR x)) 0 T.length
    simpa using this⟩⟩
theorem conv_str {w : World} {A : Option Addr} {c : Nat} {q : List Nat} (h : ArgIs w A c q) : (convert 37 9 (.slice A q.length c)).run Tryd.prog w = .ok (.string (strOf q)) w :=
  conv_any h _ 5 _ Tryd.underlying37 Tryd.underlying5 Tryd.underlying9

/-- What Unescape answers. -/
def UnEnd (plus : Bool) (S : List Nat) (w : World) (e : Ending) (w' : World) : Prop :=
  e = .returned (.tuple #[.string (strOf ((Pq.un plus S).getD [])), .bool (Pq.un plus S).isSome]) ∧ Below w.heap.size w w'
theorem UnEnd.yes {plus : Bool} {S T : List Nat} {w w' : World} (h : Pq.un plus S = some T) (hb : Below w.heap.size w w') : UnEnd plus S w (.returned (.tuple #[.string (strOf T), .bool true])) w' := ⟨by rw [h]; rfl, hb⟩
theorem UnEnd.no {plus : Bool} {S : List Nat} {w w' : World} (h : Pq.un plus S = none) (hb : Below w.heap.size w w') : UnEnd plus S w (.returned (.tuple #[.string { data := #[] }, .bool false])) w' := ⟨by rw [h]; rfl, hb⟩
/-- What holds at each round of Unescape's loop. -/
def UnRel (plus : Bool) (S : List Nat) (w : World) (cap : Nat) (text next i : Value) (wr : World) : Prop :=
  ∃ (k nx n : Nat) (T : List Nat), i = .int .i64 k ∧ next = .int .i64 nx ∧ text = .slice (some ⟨w.heap.size, 0, none⟩) n cap ∧ T.length = n ∧ n ≤ k ∧ k ≤ cap ∧ nx ≤ cap ∧ Pq.Acc plus S T (max k nx) ∧ (∀ x ∈ T, x < 256) ∧
    Lies wr w.heap.size 5 (u8s (T ++ List.replicate (cap - n) 0)) ∧ Below w.heap.size w wr

theorem rep_lt (n : Nat) : ∀ x ∈ List.replicate n 0, x < 256 := fun x hx => by rw [List.mem_replicate] at hx; omega
theorem snoc_lt {T : List Nat} {x : Nat} (h : ∀ y ∈ T, y < 256) (hx : x < 256) : ∀ y ∈ T ++ [x], y < 256 := fun y hy => by
  rcases List.mem_append.1 hy with hy | hy
  · exact h y hy
  · simp at hy; omega

set_option maxHeartbeats 2000000 in
set_option maxRecDepth 100000 in
theorem unescape_any (s : ByteArray) (plus : Bool) (w : World) (hs : s.size ≤ 140737488351232) :
    Calls Tryd.prog 55 #[.string s, .bool plus] w fun e w' => UnEnd plus (numsOf s) w e w' := by
  have Hlen := Lib.hid (numsOf_length s)
  go_enter Tryd.func55, Tryd.ntmps55
  repeat ((fail_if_success (with_reducible show wpList _ _ _ (⟨some 13, _, _, _, _, _⟩ :: _) _ _)); first | go_values | go_skip | go_guarded | go_step | go_upon | go_back | go_simp)
  with_reducible refine make_at rfl (.const (.int .i64 0)) (.tmp 12) rfl 0 s.size ?s1 ?s2 (Nat.zero_le _) (by omega) ?_
  case s1 => rfl
  case s2 => rfl
  intro w1 hL1 hb1
  go_frame
  go_wp2_with fail
  go_loopw [6, 7, 16] (fun t x i wr => UnRel plus (numsOf s) w s.size t x i wr) (fun _ _ i _ => s.size - (intOf i).toNat)
  case atStart => exact ⟨0, 0, 0, [], rfl, rfl, rfl, rfl, Nat.le_refl _, Nat.zero_le _, Nat.zero_le _, Pq.acc_start _ _, (fun x hx => by cases hx), by simpa using hL1, hb1⟩
  case round =>
    obtain ⟨k, nx, n, T, rfl, rfl, rfl, hn, hnk, hk, hnx, hacc, hT, hL, hb⟩ := hrel
    have Hn := Lib.hid hn
    have HA := Lib.hid hacc
    have HT := Lib.hid hT
    clear hL1 hb1 hn hacc hT
    by_cases hlt : k < s.size
    · have hX := Lib.hid (nums_at s k hlt)
      by_cases hsk : k < nx
      · have hd : decide ((k : Int) < (nx : Int)) = true := decide_eq_true (by omega)
        go_wp2
        go_roundw
        case rel => exact ⟨k + 1, nx, n, T, by go_num, rfl, rfl, Hn.out, by omega, by omega, hnx, by have := HA.out; rwa [Nat.max_eq_right (by omega)] at this ⊢, HT.out, hL, hb⟩
        case measure => simp [intOf]; omega
      · have hd : decide ((k : Int) < (nx : Int)) = false := decide_eq_false (by omega)
        have HA' := Lib.hid HA.out
        rw [Nat.max_eq_left (by omega)] at HA'
        clear HA
        by_cases h37 : s[k].toNat = 37
        · have hd2 : ((s[k].toNat : Int) == 37) = true := by rw [beq_iff_eq]; omega
          have H37 : Hid ((numsOf s).getD k 0 = 37) := by unfold Hid; rw [hX.out]; exact h37
          clear h37
          by_cases hok : k + 2 < (numsOf s).length ∧ Pq.hv ((numsOf s).getD (k + 1) 0) < 16 ∧ Pq.hv ((numsOf s).getD (k + 2) 0) < 16
          · obtain ⟨h2, ha, hbb⟩ := hok
            rw [Hlen.out] at h2
            have hsz : (s.extract (k + 1) s.size).size = s.size - (k + 1) := by rw [ByteArray.size_extract]; omega
            have h1 : 1 < (s.extract (k + 1) s.size).size := by rw [hsz]; omega
            have h0 : 0 < (s.extract (k + 1) s.size).size := by omega
            have e0 : (s.extract (k + 1) s.size)[0].toNat = (numsOf s).getD (k + 1) 0 := by
              rw [← nums_at _ 0 h0, nums_from, List.getD_eq_getElem?_getD, List.getD_eq_getElem?_getD, List.getElem?_drop]
            have e1 : (s.extract (k + 1) s.size)[1].toNat = (numsOf s).getD (k + 2) 0 := by
              rw [← nums_at _ 1 h1, nums_from, List.getD_eq_getElem?_getD, List.getD_eq_getElem?_getD, List.getElem?_drop]
            have hE := fun w => escaped_yes (s.extract (k + 1) s.size) h1 (by rw [e0]; exact ha) (by rw [e1]; exact hbb) w
            rw [e0, e1] at hE
            have HS := Lib.hid (Pq.acc_esc HA'.out (by rw [Hlen.out]; exact h2) H37.out ha hbb)
            have hxl : Pq.hv ((numsOf s).getD (k + 1) 0) * 16 + Pq.hv ((numsOf s).getD (k + 2) 0) < 256 := by omega
            obtain ⟨x, ex⟩ : ∃ x, Pq.hv ((numsOf s).getD (k + 1) 0) * 16 + Pq.hv ((numsOf s).getD (k + 2) 0) = x := ⟨_, rfl⟩
            rw [ex] at hE HS hxl
            clear ex e0 e1 h0 h1 hsz ha hbb
            go_wp2_with fail
            refine (hE _).mono ?_
            rintro e w' ⟨rfl, rfl⟩
            clear hE
            repeat ((fail_if_success (with_reducible show wpList _ _ _ (⟨some 47, _, _, _, _, _⟩ :: _) _ _)); first | go_values | go_skip | go_guarded | go_step | go_upon | go_back | go_simp)
            with_reducible refine append_room rfl (.tmp 44) (.tmp 46) rfl w.heap.size n s.size wr.heap.size 5 _ (.int .u8 (x : Nat)) (hL.alloc _) ?s1 ?s2 ?s3 ?s4 ?s5 ?s6 ?_
            case s1 => simp
            case s2 => rfl
            case s3 => rfl
            case s4 => rfl
            case s5 => omega
            case s6 => rw [u8s_length, List.length_append, List.length_replicate, Hn.out]; omega
            intro w2 hL2 hgr2
            have hb2 : Below w.heap.size w w2 := (hb.alloc hb.size _).grown hgr2 (by have := hb.size; simp; omega) (fun j hj => by injection hj with hj; omega)
            rw [u8s_set, rep_set T n s.size _ Hn.out (by omega)] at hL2
            clear hgr2 hb hL
            go_frame
            go_wp2
            go_roundw
            case rel => exact ⟨k + 1, k + 3, n + 1, T ++ [x], by go_num, by go_num, rfl, by rw [List.length_append, Hn.out]; rfl, by omega, by omega, by omega, by rw [Nat.max_eq_right (by omega)]; exact HS.out, snoc_lt HT.out hxl, hL2, hb2⟩
            case measure => simp [intOf]; omega
          · have hE := fun w => escaped_no (s.extract (k + 1) s.size) (by rw [ByteArray.size_extract]; omega) (fun h1 hd => hok (by
              have h0 : 0 < (s.extract (k + 1) s.size).size := by omega
              have e0 : (s.extract (k + 1) s.size)[0].toNat = (numsOf s).getD (k + 1) 0 := by
                rw [← nums_at _ 0 h0, nums_from, List.getD_eq_getElem?_getD, List.getD_eq_getElem?_getD, List.getElem?_drop]
              have e1 : (s.extract (k + 1) s.size)[1].toNat = (numsOf s).getD (k + 2) 0 := by
                rw [← nums_at _ 1 h1, nums_from, List.getD_eq_getElem?_getD, List.getD_eq_getElem?_getD, List.getElem?_drop]
              rw [e0, e1] at hd
              rw [ByteArray.size_extract] at h1
              exact ⟨by rw [Hlen.out]; omega, hd⟩)) w
            have HS := Lib.hid (Pq.acc_bad HA'.out (by rw [Hlen.out]; exact hlt) H37.out hok)
            clear hok
            go_wp2_with fail
            refine (hE _).mono ?_
            rintro e w' ⟨rfl, rfl⟩
            clear hE
            go_wp2
            go_ret2
            exact UnEnd.no HS.out hb
        · have hd2 : ((s[k].toNat : Int) == 37) = false := by rw [beq_eq_false_iff_ne]; omega
          have HS := Lib.hid (Pq.acc_plain HA'.out (by rw [Hlen.out]; exact hlt) (by rw [hX.out]; exact h37))
          rw [hX.out] at HS
          have hx256 := s[k].toNat_lt
          clear h37
          by_cases h43 : s[k].toNat = 43 ∧ plus = true
          · have hd3 : ((s[k].toNat : Int) == 43) = true := by rw [beq_iff_eq]; omega
            obtain rfl : plus = true := h43.2
            rw [if_pos h43] at HS
            clear h43
            repeat ((fail_if_success (with_reducible show wpList _ _ _ (⟨some 60, _, _, _, _, _⟩ :: _) _ _)); first | go_values | go_skip | go_guarded | go_step | go_upon | go_back | go_simp)
            with_reducible refine append_room rfl (.tmp 58) (.tmp 59) rfl w.heap.size n s.size wr.heap.size 5 _ (.int .u8 ((32 : Nat) : Int)) (hL.alloc _) ?s1 ?s2 ?s3 ?s4 ?s5 ?s6 ?_
            case s1 => simp
            case s2 => rfl
            case s3 => rfl
            case s4 => rfl
            case s5 => omega
            case s6 => rw [u8s_length, List.length_append, List.length_replicate, Hn.out]; omega
            intro w2 hL2 hgr2
            have hb2 : Below w.heap.size w w2 := (hb.alloc hb.size _).grown hgr2 (by have := hb.size; simp; omega) (fun j hj => by injection hj with hj; omega)
            rw [u8s_set, rep_set T n s.size _ Hn.out (by omega)] at hL2
            clear hgr2 hb hL
            go_frame
            go_wp2
            go_roundw
            case rel => exact ⟨k + 1, nx, n + 1, T ++ [32], by go_num, rfl, rfl, by rw [List.length_append, Hn.out]; rfl, by omega, by omega, hnx, by rw [Nat.max_eq_left (by omega)]; exact HS.out, snoc_lt HT.out (by decide), hL2, hb2⟩
            case measure => simp [intOf]; omega
          · rw [if_neg h43] at HS
            have hp : ((s[k].toNat : Int) == 43) = false ∨ plus = false := by
              by_cases h : s[k].toNat = 43
              · exact .inr (by cases plus; rfl; exact absurd ⟨h, rfl⟩ h43)
              · exact .inl (by rw [beq_eq_false_iff_ne]; omega)
            clear h43
            rcases hp with hd3 | rfl
            · repeat ((fail_if_success (with_reducible show wpList _ _ _ (⟨some 24, _, _, _, _, _⟩ :: _) _ _)); first | go_values | go_skip | go_guarded | go_step | go_upon | go_back | go_simp)
              with_reducible refine append_room rfl (.tmp 19) (.tmp 23) rfl w.heap.size n s.size wr.heap.size 5 _ (.int .u8 (s[k].toNat : Nat)) (hL.alloc _) ?s1 ?s2 ?s3 ?s4 ?s5 ?s6 ?_
              case s1 => simp
              case s2 => rfl
              case s3 => rfl
              case s4 => rfl
              case s5 => omega
              case s6 => rw [u8s_length, List.length_append, List.length_replicate, Hn.out]; omega
              intro w2 hL2 hgr2
              have hb2 : Below w.heap.size w w2 := (hb.alloc hb.size _).grown hgr2 (by have := hb.size; simp; omega) (fun j hj => by injection hj with hj; omega)
              rw [u8s_set, rep_set T n s.size _ Hn.out (by omega)] at hL2
              clear hgr2 hb hL
              go_frame
              go_wp2
              go_roundw
              case rel => exact ⟨k + 1, nx, n + 1, T ++ [s[k].toNat], by go_num, rfl, rfl, by rw [List.length_append, Hn.out]; rfl, by omega, by omega, hnx, by rw [Nat.max_eq_left (by omega)]; exact HS.out, snoc_lt HT.out hx256, hL2, hb2⟩
              case measure => simp [intOf]; omega
            · cases hd3 : ((s[k].toNat : Int) == 43)
              all_goals
                repeat ((fail_if_success (with_reducible show wpList _ _ _ (⟨some 24, _, _, _, _, _⟩ :: _) _ _)); first | go_values | go_skip | go_guarded | go_step | go_upon | go_back | go_simp)
                with_reducible refine append_room rfl (.tmp 19) (.tmp 23) rfl w.heap.size n s.size wr.heap.size 5 _ (.int .u8 (s[k].toNat : Nat)) (hL.alloc _) ?s1 ?s2 ?s3 ?s4 ?s5 ?s6 ?_
                case s1 => simp
                case s2 => rfl
                case s3 => rfl
                case s4 => rfl
                case s5 => omega
                case s6 => rw [u8s_length, List.length_append, List.length_replicate, Hn.out]; omega
                intro w2 hL2 hgr2
                have hb2 : Below w.heap.size w w2 := (hb.alloc hb.size _).grown hgr2 (by have := hb.size; simp; omega) (fun j hj => by injection hj with hj; omega)
                rw [u8s_set, rep_set T n s.size _ Hn.out (by omega)] at hL2
                clear hgr2 hb hL
                go_frame
                go_wp2
                go_roundw
                case rel => exact ⟨k + 1, nx, n + 1, T ++ [s[k].toNat], by go_num, rfl, rfl, by rw [List.length_append, Hn.out]; rfl, by omega, by omega, hnx, by rw [Nat.max_eq_left (by omega)]; exact HS.out, snoc_lt HT.out hx256, hL2, hb2⟩
                case measure => simp [intOf]; omega
    · obtain rfl : k = s.size := by omega
      have hd : decide ((s.size : Int) < (s.size : Int)) = false := by simp
      have hconv := conv_str (arg_part (c := s.size) hL HT.out (rep_lt _) (by rw [Hn.out]; omega) (by omega))
      rw [Hn.out] at hconv
      clear hL
      go_wp2
      go_ret2
      exact UnEnd.yes (Pq.acc_end HA.out (by rw [Hlen.out]; omega)) hb
end Go.Proofs.YtejmkijnngkoaaaDoor
