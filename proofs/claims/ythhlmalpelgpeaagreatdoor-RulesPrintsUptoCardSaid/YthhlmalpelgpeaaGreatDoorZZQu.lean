/-
  The document's Print: quote.
-/
import Derived.Test.YthhlmalpelgpeaaGreatDoorZZPu
namespace Go.Proofs.YthhlmalpelgpeaaGreatDoor
open Go.RowKit

def escC (c : Nat) : List Nat := if c = 39 ∨ c = 92 then [92, c] else [c]
theorem quoted_esc (t : List Nat) : Zq.quoted t = 39 :: t.flatMap escC ++ [39] := rfl
theorem esc_len (t : List Nat) : t.length ≤ (t.flatMap escC).length ∧ (t.flatMap escC).length ≤ 2 * t.length := by
  induction t with
  | nil => simp
  | cons a r ih =>
    rw [List.flatMap_cons, List.length_append, List.length_cons]
    have : 1 ≤ (escC a).length ∧ (escC a).length ≤ 2 := by
      unfold escC
      split <;> simp
    omega
theorem esc_lt {t : List Nat} (h : ∀ x ∈ t, x < 256) : ∀ x ∈ t.flatMap escC, x < 256 := fun x hx => by
  obtain ⟨c, hc, hx⟩ := List.mem_flatMap.1 hx
  unfold escC at hx
  split at hx
  · simp at hx
    rcases hx with rfl | rfl
    · decide
    · exact h _ hc
  · simp at hx
    rw [hx]; exact h _ hc
theorem esc_step {S : List Nat} {k c : Nat} (h : S[k]? = some c) : (S.take (k + 1)).flatMap escC = (S.take k).flatMap escC ++ escC c := by
  obtain ⟨hk, e⟩ := List.getElem?_eq_some_iff.1 h
  rw [List.take_succ_eq_append_getElem hk, e, List.flatMap_append]
  simp
/-- How quote ends: the text between its marks, or one that is too long as that is. -/
def QuoteEnd (t : List Nat) (w : World) (e : Ending) (w' : World) : Prop := Below w.heap.size w w' ∧ ∃ Q, e = .returned (.string (strOf Q)) ∧ (∀ x ∈ Q, x < 256) ∧ (Q = Zq.quoted t ∨ (4096 < Q.length ∧ 4096 < (Zq.quoted t).length))
theorem quote_out {t : List Nat} {k : Nat} (ht : ∀ x ∈ t, x < 256) (hk : k = t.length ∨ (k = 5000 ∧ 5000 ≤ t.length)) : (∀ x ∈ 39 :: (t.take k).flatMap escC ++ [39], x < 256) ∧ (39 :: (t.take k).flatMap escC ++ [39] = Zq.quoted t ∨ (4096 < (39 :: (t.take k).flatMap escC ++ [39]).length ∧ 4096 < (Zq.quoted t).length)) := by
  refine ⟨fun x hx => ?_, ?_⟩
  · simp only [List.cons_append, List.mem_cons, List.mem_append, List.not_mem_nil, or_false] at hx
    rcases hx with rfl | hx | rfl
    · decide
    · exact esc_lt (fun y hy => ht y (List.mem_of_mem_take hy)) x hx
    · decide
  · rcases hk with rfl | ⟨rfl, h⟩
    · left
      rw [List.take_length, quoted_esc]
    · right
      have h1 := (esc_len (t.take 5000)).1
      have h2 := (esc_len t).1
      rw [List.length_take] at h1
      rw [quoted_esc]
      simp only [List.cons_append, List.length_cons, List.length_append, List.length_nil]
      omega
set_option maxHeartbeats 4000000 in
set_option maxRecDepth 100000 in
theorem refQuote_any (s : ByteArray) (w : World) :
    Calls Tryz.prog 43 #[.string s] w (QuoteEnd (numsOf s) w) := by
  have Hlen := Lib.hid (numsOf_length s)
  have HQO : Hid (∀ k, k = s.size ∨ (k = 5000 ∧ 5000 ≤ s.size) → (∀ x ∈ 39 :: ((numsOf s).take k).flatMap escC ++ [39], x < 256) ∧ (39 :: ((numsOf s).take k).flatMap escC ++ [39] = Zq.quoted (numsOf s) ∨ (4096 < (39 :: ((numsOf s).take k).flatMap escC ++ [39]).length ∧ 4096 < (Zq.quoted (numsOf s)).length))) := fun k hk => quote_out (numsOf_lt s) (by rw [numsOf_length]; exact hk)
  have hown0 : (w.alloc (.cells #[.int .u8 39] 5)).ownsRow w.heap.size 5 1 (.slice (some ⟨w.heap.size, 0, none⟩) 1 1) 1 (u8s [39]) := ⟨rfl, .inr ⟨w.heap.size, 1, _, rfl, Nat.le_refl _, heap_alloc_new w _, Nat.le_refl _, by decide, rfl, rfl⟩⟩
  have hb0 := box_below w (.cells #[.int .u8 39] 5)
  have HOWN := Lib.hid hown0
  have HB0 := Lib.hid hb0
  clear hown0 hb0
  go_enter Tryz.func43, Tryz.ntmps43
  go_wp2_with fail
  go_loopw [3, 4] (fun v i wr => ∃ (k : Nat) (T : List Nat), i = .int .i64 k ∧ k ≤ s.size ∧ k ≤ 5000 ∧ Hid (T = 39 :: ((numsOf s).take k).flatMap escC) ∧ T.length ≤ 1 + 2 * k ∧ wr.ownsRow w.heap.size 5 1 v T.length (u8s T) ∧ Below w.heap.size w wr) (fun _ i _ => s.size - (intOf i).toNat)
  case atStart => exact ⟨0, [39], rfl, Nat.zero_le _, by decide, Lib.hid rfl, by decide, HOWN.out, HB0.out⟩
  case round =>
    obtain ⟨k, T, rfl, hk, hk5, hT, hTl, hown, hb⟩ := hrel
    obtain ⟨A1, c1, rfl⟩ := own_slice hown
    obtain ⟨n, en⟩ : ∃ n, T.length = n := ⟨_, rfl⟩
    have HEN := Lib.hid en
    rw [en] at hTl hown ⊢
    clear en
    by_cases hgo : k < s.size ∧ k < 5000
    · obtain ⟨hlt, hlt5⟩ := hgo
      have d1 : decide ((k : Int) < 5000) = true := decide_eq_true (by omega)
      have hget : (numsOf s)[k]? = some s[k].toNat := by
        have h' : k < (numsOf s).length := by rw [Hlen.out]; exact hlt
        rw [← nums_at s k hlt, List.getD_eq_getElem?_getD, List.getElem?_eq_getElem h']
        rfl
      have HST := Lib.hid (esc_step hget)
      clear hget
      obtain ⟨ch, ech⟩ : ∃ ch, s[k].toNat = ch := ⟨_, rfl⟩
      rw [ech] at HST
      rcases Decidable.em (ch = 39) with h39 | h39
      · subst h39
        have HES : Hid (39 :: ((numsOf s).take (k + 1)).flatMap escC = (T ++ [92]) ++ [39]) := by
          unfold Hid
          rw [HST.out, hT.out, escC, if_pos (by decide)]
          simp
        repeat ((fail_if_success (with_reducible show wpList _ _ _ (⟨some 28, _, _, _, _, _⟩ :: _) _ _)); first | go_values | go_skip | go_guarded | go_step | go_upon | go_back | go_simp)
        with_reducible refine append_row rfl (.tmp 26) (.tmp 27) 31 5 (.int .u8 0) 1 1 rfl Tryz.underlying31 infoByte rfl (by decide) w.heap.size (.slice A1 n c1) n (u8s T) ⟨wr.heap.size, 0, none⟩ 1 1 (u8s [92]) (own_below hown (box_below _ _)) ?c1 ?c2 ?c3 ?c4 ?c5 ?c6 ?c7 ?c8 ?_
        case c1 => rfl
        case c2 => exact fun j u hj => new_cells wr _ _ j u hj
        case c3 => exact u8s_one _
        case c4 => rfl
        case c5 => rfl
        case c6 => omega
        case c7 => omega
        case c8 => exact Nat.le_trans hb.size (box_below wr _).size
        intro v5 w5 hown5 hgr
        have hb5 : Below w.heap.size w w5 := (below_onZ hb (box_below wr _)).grown hgr (Nat.le_trans hb.size (box_below wr _).size) (fun k e => (hown.lt k e).1)
        rw [← u8s_append] at hown5
        obtain ⟨A_w5, c5, rfl⟩ := own_slice hown5
        clear hgr
        go_frame
        have HB5 := Lib.hid hb5
        clear hown hb
        repeat ((fail_if_success (with_reducible show wpList _ _ _ (⟨some 34, _, _, _, _, _⟩ :: _) _ _)); first | go_values | go_skip | go_guarded | go_step | go_upon | go_back | go_simp)
        with_reducible refine append_row rfl (.tmp 29) (.tmp 33) 31 5 (.int .u8 0) 1 1 rfl Tryz.underlying31 infoByte rfl (by decide) w.heap.size (.slice A_w5 (n + 1) c5) (n + 1) (u8s (T ++ [92])) ⟨w5.heap.size, 0, none⟩ 1 1 (u8s [39]) (own_below hown5 (box_below _ _)) ?c1 ?c2 ?c3 ?c4 ?c5 ?c6 ?c7 ?c8 ?_
        case c1 => rfl
        case c2 => exact fun j u hj => new_cells w5 _ _ j u hj
        case c3 => exact u8s_one _
        case c4 => rfl
        case c5 => rfl
        case c6 => omega
        case c7 => omega
        case c8 => exact Nat.le_trans HB5.out.size (box_below w5 _).size
        intro v6 w6 hown6 hgr
        have hb6 : Below w.heap.size w w6 := (below_onZ HB5.out (box_below w5 _)).grown hgr (Nat.le_trans HB5.out.size (box_below w5 _).size) (fun k e => (hown5.lt k e).1)
        rw [← u8s_append] at hown6
        obtain ⟨A_w6, c6, rfl⟩ := own_slice hown6
        clear hgr
        go_frame
        have HQ : Hid (∃ (k' : Nat) (T' : List Nat), Value.int .i64 ((k + 1 : Nat) : Int) = .int .i64 k' ∧ k' ≤ s.size ∧ k' ≤ 5000 ∧ Hid (T' = 39 :: ((numsOf s).take k').flatMap escC) ∧ T'.length ≤ 1 + 2 * k' ∧ w6.ownsRow w.heap.size 5 1 (.slice A_w6 (n + 1 + 1) c6) T'.length (u8s T') ∧ Below w.heap.size w w6) := ⟨k + 1, (T ++ [92]) ++ [39], rfl, hlt, hlt5, Lib.hid HES.out.symm, by simp only [List.length_append, List.length_cons, List.length_nil, HEN.out]; omega, by rw [show List.length (α := Nat) ((T ++ [92]) ++ [39]) = n + 1 + 1 from by simp [HEN.out]]; exact hown6, hb6⟩
        clear hown5 hown6 hb5 hb6
        go_wp2
        go_roundw
        case rel => exact HQ.out
        case measure => simp [intOf]; omega
      rcases Decidable.em (ch = 92) with h92 | h92
      · subst h92
        have HES : Hid (39 :: ((numsOf s).take (k + 1)).flatMap escC = (T ++ [92]) ++ [92]) := by
          unfold Hid
          rw [HST.out, hT.out, escC, if_pos (by decide)]
          simp
        repeat ((fail_if_success (with_reducible show wpList _ _ _ (⟨some 28, _, _, _, _, _⟩ :: _) _ _)); first | go_values | go_skip | go_guarded | go_step | go_upon | go_back | go_simp)
        with_reducible refine append_row rfl (.tmp 26) (.tmp 27) 31 5 (.int .u8 0) 1 1 rfl Tryz.underlying31 infoByte rfl (by decide) w.heap.size (.slice A1 n c1) n (u8s T) ⟨wr.heap.size, 0, none⟩ 1 1 (u8s [92]) (own_below hown (box_below _ _)) ?c1 ?c2 ?c3 ?c4 ?c5 ?c6 ?c7 ?c8 ?_
        case c1 => rfl
        case c2 => exact fun j u hj => new_cells wr _ _ j u hj
        case c3 => exact u8s_one _
        case c4 => rfl
        case c5 => rfl
        case c6 => omega
        case c7 => omega
        case c8 => exact Nat.le_trans hb.size (box_below wr _).size
        intro v5 w5 hown5 hgr
        have hb5 : Below w.heap.size w w5 := (below_onZ hb (box_below wr _)).grown hgr (Nat.le_trans hb.size (box_below wr _).size) (fun k e => (hown.lt k e).1)
        rw [← u8s_append] at hown5
        obtain ⟨A_w5, c5, rfl⟩ := own_slice hown5
        clear hgr
        go_frame
        have HB5 := Lib.hid hb5
        clear hown hb
        repeat ((fail_if_success (with_reducible show wpList _ _ _ (⟨some 34, _, _, _, _, _⟩ :: _) _ _)); first | go_values | go_skip | go_guarded | go_step | go_upon | go_back | go_simp)
        with_reducible refine append_row rfl (.tmp 29) (.tmp 33) 31 5 (.int .u8 0) 1 1 rfl Tryz.underlying31 infoByte rfl (by decide) w.heap.size (.slice A_w5 (n + 1) c5) (n + 1) (u8s (T ++ [92])) ⟨w5.heap.size, 0, none⟩ 1 1 (u8s [92]) (own_below hown5 (box_below _ _)) ?c1 ?c2 ?c3 ?c4 ?c5 ?c6 ?c7 ?c8 ?_
        case c1 => rfl
        case c2 => exact fun j u hj => new_cells w5 _ _ j u hj
        case c3 => exact u8s_one _
        case c4 => rfl
        case c5 => rfl
        case c6 => omega
        case c7 => omega
        case c8 => exact Nat.le_trans HB5.out.size (box_below w5 _).size
        intro v6 w6 hown6 hgr
        have hb6 : Below w.heap.size w w6 := (below_onZ HB5.out (box_below w5 _)).grown hgr (Nat.le_trans HB5.out.size (box_below w5 _).size) (fun k e => (hown5.lt k e).1)
        rw [← u8s_append] at hown6
        obtain ⟨A_w6, c6, rfl⟩ := own_slice hown6
        clear hgr
        go_frame
        have HQ : Hid (∃ (k' : Nat) (T' : List Nat), Value.int .i64 ((k + 1 : Nat) : Int) = .int .i64 k' ∧ k' ≤ s.size ∧ k' ≤ 5000 ∧ Hid (T' = 39 :: ((numsOf s).take k').flatMap escC) ∧ T'.length ≤ 1 + 2 * k' ∧ w6.ownsRow w.heap.size 5 1 (.slice A_w6 (n + 1 + 1) c6) T'.length (u8s T') ∧ Below w.heap.size w w6) := ⟨k + 1, (T ++ [92]) ++ [92], rfl, hlt, hlt5, Lib.hid HES.out.symm, by simp only [List.length_append, List.length_cons, List.length_nil, HEN.out]; omega, by rw [show List.length (α := Nat) ((T ++ [92]) ++ [92]) = n + 1 + 1 from by simp [HEN.out]]; exact hown6, hb6⟩
        clear hown5 hown6 hb5 hb6
        go_wp2
        go_roundw
        case rel => exact HQ.out
        case measure => simp [intOf]; omega
      have g1 : ((ch : Int) == 39) = false := beq_false_of_ne (by omega)
      have g2 : ((ch : Int) == 92) = false := beq_false_of_ne (by omega)
      have g3 : decide (ch = 39) = false := decide_eq_false h39
      have g4 : decide (ch = 92) = false := decide_eq_false h92
      have HES : Hid (39 :: ((numsOf s).take (k + 1)).flatMap escC = T ++ [ch]) := by
        unfold Hid
        rw [HST.out, hT.out, escC, if_neg (by omega)]
        simp
      repeat ((fail_if_success (with_reducible show wpList _ _ _ (⟨some 34, _, _, _, _, _⟩ :: _) _ _)); first | go_values | go_skip | go_guarded | go_step | go_upon | go_back | go_simp)
      with_reducible refine append_row rfl (.tmp 29) (.tmp 33) 31 5 (.int .u8 0) 1 1 rfl Tryz.underlying31 infoByte rfl (by decide) w.heap.size (.slice A1 n c1) n (u8s T) ⟨wr.heap.size, 0, none⟩ 1 1 (u8s [ch]) (own_below hown (box_below _ _)) ?c1 ?c2 ?c3 ?c4 ?c5 ?c6 ?c7 ?c8 ?_
      case c1 => rfl
      case c2 => exact fun j u hj => new_cells wr _ _ j u hj
      case c3 => exact u8s_one _
      case c4 => rfl
      case c5 => rfl
      case c6 => omega
      case c7 => omega
      case c8 => exact Nat.le_trans hb.size (box_below wr _).size
      intro v6 w6 hown6 hgr
      have hb6 : Below w.heap.size w w6 := (below_onZ hb (box_below wr _)).grown hgr (Nat.le_trans hb.size (box_below wr _).size) (fun k e => (hown.lt k e).1)
      rw [← u8s_append] at hown6
      obtain ⟨A_w6, c6, rfl⟩ := own_slice hown6
      clear hgr
      go_frame
      have HQ : Hid (∃ (k' : Nat) (T' : List Nat), Value.int .i64 ((k + 1 : Nat) : Int) = .int .i64 k' ∧ k' ≤ s.size ∧ k' ≤ 5000 ∧ Hid (T' = 39 :: ((numsOf s).take k').flatMap escC) ∧ T'.length ≤ 1 + 2 * k' ∧ w6.ownsRow w.heap.size 5 1 (.slice A_w6 (n + 1) c6) T'.length (u8s T') ∧ Below w.heap.size w w6) := ⟨k + 1, T ++ [ch], rfl, hlt, hlt5, Lib.hid HES.out.symm, by simp only [List.length_append, List.length_cons, List.length_nil, HEN.out]; omega, by rw [show (T ++ [ch]).length = n + 1 from by simp [HEN.out]]; exact hown6, hb6⟩
      clear hown hown6 hb hb6
      go_wp2
      go_roundw
      case rel => exact HQ.out
      case measure => simp [intOf]; omega
    · have hstop : k = s.size ∨ (k = 5000 ∧ 5000 ≤ s.size) := by omega
      have hdd : (¬ k < s.size ∧ decide ((k : Int) < (s.size : Int)) = false) ∨ (k < s.size ∧ ¬ k < 5000 ∧ decide ((k : Int) < 5000) = false) := by
        by_cases h : k < s.size
        · exact .inr ⟨h, by omega, decide_eq_false (by omega)⟩
        · exact .inl ⟨h, decide_eq_false (by omega)⟩
      obtain ⟨hq1, hq2⟩ := HQO.out k hstop
      rw [← hT.out] at hq1 hq2
      have HQ1 := Lib.hid hq1
      have HQ2 := Lib.hid hq2
      clear hgo hstop hq1 hq2 HQO hT
      rcases hdd with ⟨d1, d2⟩ | ⟨d1, d2, d3⟩
      all_goals
        repeat ((fail_if_success (with_reducible show wpList _ _ _ (⟨some 37, _, _, _, _, _⟩ :: _) _ _)); first | go_values | go_skip | go_guarded | go_step | go_upon | go_back | go_simp)
        with_reducible refine append_row rfl (.tmp 35) (.tmp 36) 31 5 (.int .u8 0) 1 1 rfl Tryz.underlying31 infoByte rfl (by decide) w.heap.size (.slice A1 n c1) n (u8s T) ⟨wr.heap.size, 0, none⟩ 1 1 (u8s [39]) (own_below hown (box_below _ _)) ?c1 ?c2 ?c3 ?c4 ?c5 ?c6 ?c7 ?c8 ?_
        case c1 => rfl
        case c2 => exact fun j u hj => new_cells wr _ _ j u hj
        case c3 => exact u8s_one _
        case c4 => rfl
        case c5 => rfl
        case c6 => omega
        case c7 => omega
        case c8 => exact Nat.le_trans hb.size (box_below wr _).size
        intro v6 w6 hown6 hgr
        have hb6 : Below w.heap.size w w6 := (below_onZ hb (box_below wr _)).grown hgr (Nat.le_trans hb.size (box_below wr _).size) (fun k e => (hown.lt k e).1)
        rw [← u8s_append] at hown6
        obtain ⟨A_w6, c6, rfl⟩ := own_slice hown6
        clear hgr
        go_frame
        have harg := own_arg hown6 (by exact HQ1.out)
        have hconv := conv_str harg.2
        rw [harg.1] at hconv
        have HE : Hid (QuoteEnd (numsOf s) w (.returned (.string (strOf (T ++ [39])))) w6) := ⟨hb6, _, rfl, HQ1.out, HQ2.out⟩
        clear hown hown6 hb hb6 harg
        go_wp2
        go_ret
        exact HE.out
end Go.Proofs.YthhlmalpelgpeaaGreatDoor
