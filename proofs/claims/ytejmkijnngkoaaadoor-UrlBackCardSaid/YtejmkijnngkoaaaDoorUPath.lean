/-
  The contracts of pathSize and of the document's path.
-/
import Derived.Test.YtejmkijnngkoaaaDoorUPort
namespace Go.Proofs.YtejmkijnngkoaaaDoor
open Go.RowKit

theorem one_of (s : ByteArray) (k : Nat) (h : k < s.size) : numsOf (s.extract k (k + 1)) = [s[k].toNat] := by
  rw [nums_extract, ← nums_at s k h, List.drop_take, show k + 1 - k = 1 from by omega]
  rw [Pq.drop_at (numsOf s) (by rw [numsOf_length]; exact h)]
  rfl
theorem esc_drop (S : List Nat) (k : Nat) : esc (S.drop k) = true ↔ k + 2 < S.length ∧ S.getD k 0 = 37 ∧ Uq.up (S.getD (k + 1) 0) = true ∧ Uq.up (S.getD (k + 2) 0) = true := by
  have e : ∀ i, (S.drop k).getD i 0 = S.getD (k + i) 0 := fun i => by rw [List.getD_eq_getElem?_getD, List.getD_eq_getElem?_getD, List.getElem?_drop]
  unfold esc
  rw [e, e, e, List.length_drop]
  simp only [Bool.and_eq_true, decide_eq_true_eq, beq_iff_eq]
  constructor
  · rintro ⟨⟨⟨a, b⟩, c⟩, d⟩
    exact ⟨by omega, b, c, d⟩
  · rintro ⟨a, b, c, d⟩
    exact ⟨⟨⟨by omega, b⟩, c⟩, d⟩

/-- What pathSize answers. -/
def PathEnd (s : ByteArray) (w : World) (e : Ending) (w' : World) : Prop := (∃ k : Nat, e = .returned (.int .i64 k) ∧ k ≤ s.size ∧ (k < s.size ↔ Uq.pathRest (numsOf s) = false)) ∧ Below w.heap.size w w'
theorem PathEnd.stop {s : ByteArray} {w w' : World} {k : Nat} (hk : k < s.size) (h : Uq.pathRest (numsOf s) = false) (hb : Below w.heap.size w w') : PathEnd s w (.returned (.int .i64 k)) w' :=
  ⟨⟨k, rfl, by omega, ⟨fun _ => h, fun _ => hk⟩⟩, hb⟩
theorem PathEnd.whole {s : ByteArray} {w w' : World} (h : Uq.pathRest (numsOf s) = true) (hb : Below w.heap.size w w') : PathEnd s w (.returned (.int .i64 s.size)) w' :=
  ⟨⟨s.size, rfl, Nat.le_refl _, ⟨fun h => absurd h (Nat.lt_irrefl _), fun h' => by rw [h] at h'; cases h'⟩⟩, hb⟩

def PathRel (s : ByteArray) (w : World) (i : Value) (wr : World) : Prop := ∃ k : Nat, i = .int .i64 k ∧ k ≤ s.size ∧ Uq.pathRest (numsOf s) = Uq.pathRest ((numsOf s).drop k) ∧ Below w.heap.size w wr

set_option maxHeartbeats 2000000 in
set_option maxRecDepth 100000 in
theorem pathSize_any (s : ByteArray) (hs : s.size ≤ 4096) (w : World) :
    Calls Tryd.prog 24 #[.string s] w fun e w' => PathEnd s w e w' := by
  have Hlen := Lib.hid (numsOf_length s)
  go_enter Tryd.func24, Tryd.ntmps24
  go_wp2
  go_step3
  go_wp2
  go_step3
  go_wp2
  go_loopw [3] (fun i wr => PathRel s w i wr) (fun i _ => s.size - (intOf i).toNat)
  case atStart => exact ⟨0, rfl, Nat.zero_le _, by rw [List.drop_zero], Below.refl _ _⟩
  case round =>
    obtain ⟨k, rfl, hk, hR, hb⟩ := hrel
    have HR := Lib.hid hR
    clear hR
    by_cases hlt : k < s.size
    · have hX := Lib.hid (nums_at s k hlt)
      by_cases h47 : s[k].toNat = 47
      · have hd : ((s[k].toNat : Int) == 47) = true := by rw [beq_iff_eq]; omega
        have HN := Lib.hid (HR.out.trans (Uq.rest_yes (by rw [Hlen.out]; exact hlt) (.inl (by rw [hX.out]; exact h47))))
        clear h47
        go_wp2
        go_roundw
        case rel => exact ⟨k + 1, by go_num, by omega, HN.out, hb⟩
        case measure => simp [intOf]; omega
      · have hd : ((s[k].toNat : Int) == 47) = false := by rw [beq_eq_false_iff_ne]; omega
        have hP := fun w => urlPlain_any (s.extract k (k + 1)) s[k].toNat s[k].toNat_lt (one_of s k hlt) w
        have hE := fun w => escapeAhead_any (s.extract k s.size) (by rw [ByteArray.size_extract]; omega) w
        rw [nums_from] at hE
        have c1 : (0 : Int) ≤ ↑k := by omega
        have c2 : (↑k : Int) ≤ ↑s.size := by omega
        have c3 : (0 : Int) ≤ ↑k + 1 := by omega
        have c4 : (↑k + 1 : Int) ≤ ↑s.size := by omega
        have c5 : (↑k : Int) ≤ ↑k + 1 := by omega
        cases hpl : Pq.pl s[k].toNat with
        | true =>
          have HN := Lib.hid (HR.out.trans (Uq.rest_yes (by rw [Hlen.out]; exact hlt) (.inr (by rw [hX.out]; exact hpl))))
          rw [hpl] at hP
          clear h47 hpl hE
          go_wp2_with fail
          refine (hP _).mono ?_
          rintro e w1 ⟨rfl, hb1⟩
          have hb2 := hb.trans (hb1.mono hb.size)
          clear hP hb hb1
          go_wp2
          go_roundw
          case rel => exact ⟨k + 1, by go_num, by omega, HN.out, hb2⟩
          case measure => simp [intOf]; omega
        | false =>
          rw [hpl] at hP
          cases he : esc ((numsOf s).drop k) with
          | true =>
            obtain ⟨e1, e2, e3, e4⟩ := (esc_drop _ _).1 he
            have HN := Lib.hid (HR.out.trans (Uq.rest_esc e1 e2 e3 e4))
            rw [Hlen.out] at e1
            rw [he] at hE
            clear h47 hpl he e2 e3 e4
            go_wp2_with fail
            refine (hP _).mono ?_
            rintro e w1 ⟨rfl, hb1⟩
            have hb2 := hb.trans (hb1.mono hb.size)
            clear hP hb hb1
            go_wp2_with fail
            refine (hE _).mono ?_
            rintro e w2 ⟨rfl, rfl⟩
            clear hE
            go_wp2
            go_roundw
            case rel => exact ⟨k + 3, by go_num, by omega, HN.out, hb2⟩
            case measure => simp [intOf]; omega
          | false =>
            have HN : Hid (Uq.pathRest (numsOf s) = false) := by
              unfold Hid
              rw [HR.out]
              by_cases h37 : s[k].toNat = 37
              · refine Uq.rest_bad (by rw [Hlen.out]; exact hlt) (by rw [hX.out]; exact h37) fun h => ?_
                have := (esc_drop (numsOf s) k).2 ⟨h.1, by rw [hX.out]; exact h37, h.2.1, h.2.2⟩
                rw [he] at this
                cases this
              · exact Uq.rest_no (by rw [Hlen.out]; exact hlt) (by rw [hX.out]; exact h37) fun h => by
                  rw [hX.out] at h
                  rcases h with h | h
                  · exact h47 h
                  · rw [hpl] at h; cases h
            rw [he] at hE
            clear h47 hpl he
            go_wp2_with fail
            refine (hP _).mono ?_
            rintro e w1 ⟨rfl, hb1⟩
            have hb2 := hb.trans (hb1.mono hb.size)
            clear hP hb hb1
            go_wp2_with fail
            refine (hE _).mono ?_
            rintro e w2 ⟨rfl, rfl⟩
            clear hE
            go_wp2
            go_ret
            exact PathEnd.stop hlt HN.out hb2
    · obtain rfl : k = s.size := by omega
      have hdl : decide ((s.size : Int) < (s.size : Int)) = false := by simp
      have HN : Hid (Uq.pathRest (numsOf s) = true) := by
        unfold Hid
        rw [HR.out, List.drop_eq_nil_of_le (by rw [Hlen.out]; exact Nat.le_refl _), Uq.pathRest_nil]
      go_wp2
      go_ret
      exact PathEnd.whole HN.out hb

theorem path_head {S : List Nat} (h : S ≠ []) (h0 : S.getD 0 0 = 47) : Uq.pathOk S = Uq.pathRest S := by
  cases S with
  | nil => exact absurd rfl h
  | cons a r =>
    have : a = 47 := by simpa using h0
    subst this
    rfl
theorem path_not {S : List Nat} (h0 : S.getD 0 0 ≠ 47) : Uq.pathOk S = false := by
  cases S with
  | nil => rfl
  | cons a r =>
    have : a ≠ 47 := by simpa using h0
    unfold Uq.pathOk
    simp [this]

set_option maxHeartbeats 2000000 in
set_option maxRecDepth 100000 in
theorem refPath_any (s : ByteArray) (hs : s.size ≤ 4096) (w : World) :
    Calls Tryd.prog 26 #[.string s] w fun e w' => e = .returned (.bool (Uq.pathOk (numsOf s))) ∧ w = w' := by
  have Hlen := Lib.hid (numsOf_length s)
  by_cases h0 : numsOf s = []
  · have h1 : s.toList = [] := (empty_iff s).2 h0
    have HE : Hid (Uq.pathOk (numsOf s) = false) := by unfold Hid; rw [h0]; rfl
    clear h0
    go_enter Tryd.func26, Tryd.ntmps26
    go_wp2
    go_ret
    exact ⟨ret_bool (by rw [HE.out]), rfl⟩
  · have h1 : ¬ s.toList = [] := fun h => h0 ((empty_iff s).1 h)
    have h2 : s.toList.isEmpty = false := by rw [List.isEmpty_eq_false_iff]; exact h1
    have hp : 0 < s.size := by have := List.length_pos_iff.2 h0; rw [Hlen.out] at this; omega
    have X0 := Lib.hid (nums_at s 0 hp)
    by_cases ha : s[0].toNat = 47
    · have hda : ((s[0].toNat : Int) != 47) = false := by simp; omega
      have HP := Lib.hid (path_head h0 (by rw [X0.out]; exact ha))
      clear ha h0
      go_enter Tryd.func26, Tryd.ntmps26
      go_wp2
      clear hda h1 h2
      go_loop [3] (fun i => ∃ k : Nat, i = .int .i64 k ∧ k ≤ s.size ∧ Uq.pathRest (numsOf s) = Uq.pathRest ((numsOf s).drop k)) (fun i => s.size - (intOf i).toNat)
      case atStart => exact ⟨0, rfl, Nat.zero_le _, by rw [List.drop_zero]⟩
      case round =>
        obtain ⟨k, rfl, hk, hR⟩ := hrel
        have HR := Lib.hid hR
        clear hR
        by_cases hlt : k < s.size
        · have hX := Lib.hid (nums_at s k hlt)
          by_cases h37 : s[k].toNat = 37
          · have hd : ((s[k].toNat : Int) == 37) = true := by rw [beq_iff_eq]; omega
            have H37 : Hid ((numsOf s).getD k 0 = 37) := by unfold Hid; rw [hX.out]; exact h37
            clear h37
            by_cases hk2 : k + 2 < s.size
            · have hdk : decide ((s.size : Int) ≤ (k : Int) + 2) = false := decide_eq_false (by omega)
              have hk1 : k + 1 < s.size := by omega
              have X1 := Lib.hid (nums_at s (k + 1) hk1)
              have X2 := Lib.hid (nums_at s (k + 2) hk2)
              have hU1 := fun w => refUpper_any s[k + 1].toNat s[k + 1].toNat_lt w
              have hU2 := fun w => refUpper_any s[k + 2].toNat s[k + 2].toNat_lt w
              cases h1 : Uq.up s[k + 1].toNat with
              | true =>
                rw [h1] at hU1
                cases h2 : Uq.up s[k + 2].toNat with
                | true =>
                  rw [h2] at hU2
                  have HN := Lib.hid (HR.out.trans (Uq.rest_esc (by rw [Hlen.out]; exact hk2) H37.out (by rw [X1.out]; exact h1) (by rw [X2.out]; exact h2)))
                  clear h1 h2
                  go_wp2_with fail
                  refine (hU1 _).mono ?_
                  rintro e w1 ⟨rfl, rfl⟩
                  clear hU1
                  go_wp2_with fail
                  refine (hU2 _).mono ?_
                  rintro e w1 ⟨rfl, rfl⟩
                  clear hU2
                  go_wp2
                  go_round
                  case rel => exact ⟨k + 3, by go_num, by omega, HN.out⟩
                  case measure => simp [intOf]; omega
                | false =>
                  rw [h2] at hU2
                  have HN := Lib.hid (HP.out.trans (HR.out.trans (Uq.rest_bad (by rw [Hlen.out]; exact hlt) H37.out (fun h => by have := h.2.2; rw [X2.out, h2] at this; cases this))))
                  clear h1 h2
                  go_wp2_with fail
                  refine (hU1 _).mono ?_
                  rintro e w1 ⟨rfl, rfl⟩
                  clear hU1
                  go_wp2_with fail
                  refine (hU2 _).mono ?_
                  rintro e w1 ⟨rfl, rfl⟩
                  clear hU2
                  go_wp2
                  go_ret
                  exact ⟨ret_bool HN.out.symm, rfl⟩
              | false =>
                rw [h1] at hU1
                have HN := Lib.hid (HP.out.trans (HR.out.trans (Uq.rest_bad (by rw [Hlen.out]; exact hlt) H37.out (fun h => by have := h.2.1; rw [X1.out, h1] at this; cases this))))
                clear h1 hU2
                go_wp2_with fail
                refine (hU1 _).mono ?_
                rintro e w1 ⟨rfl, rfl⟩
                clear hU1
                go_wp2
                go_ret
                exact ⟨ret_bool HN.out.symm, rfl⟩
            · have hdk : decide ((s.size : Int) ≤ (k : Int) + 2) = true := decide_eq_true (by omega)
              have HN := Lib.hid (HP.out.trans (HR.out.trans (Uq.rest_bad (by rw [Hlen.out]; exact hlt) H37.out (fun h => hk2 (by have := h.1; rwa [Hlen.out] at this)))))
              go_wp2
              go_ret
              exact ⟨ret_bool HN.out.symm, rfl⟩
          · have hd : ((s[k].toNat : Int) == 37) = false := by rw [beq_eq_false_iff_ne]; omega
            by_cases h47 : s[k].toNat = 47
            · have hd2 : ((s[k].toNat : Int) != 47) = false := by simp; omega
              have HN := Lib.hid (HR.out.trans (Uq.rest_yes (by rw [Hlen.out]; exact hlt) (.inl (by rw [hX.out]; exact h47))))
              clear h37 h47
              go_wp2
              go_round
              case rel => exact ⟨k + 1, by go_num, by omega, HN.out⟩
              case measure => simp [intOf]; omega
            · have hd2 : ((s[k].toNat : Int) != 47) = true := by simp; omega
              have hPl := fun w => refPlain_any s[k].toNat s[k].toNat_lt w
              cases hpl : Pq.pl s[k].toNat with
              | true =>
                rw [hpl] at hPl
                have HN := Lib.hid (HR.out.trans (Uq.rest_yes (by rw [Hlen.out]; exact hlt) (.inr (by rw [hX.out]; exact hpl))))
                clear h37 h47 hpl
                go_wp2_with fail
                refine (hPl _).mono ?_
                rintro e w1 ⟨rfl, rfl⟩
                clear hPl
                go_wp2
                go_round
                case rel => exact ⟨k + 1, by go_num, by omega, HN.out⟩
                case measure => simp [intOf]; omega
              | false =>
                rw [hpl] at hPl
                have HN := Lib.hid (HP.out.trans (HR.out.trans (Uq.rest_no (by rw [Hlen.out]; exact hlt) (by rw [hX.out]; exact h37) fun h => by
                  rw [hX.out] at h
                  rcases h with h | h
                  · exact h47 h
                  · rw [hpl] at h; cases h)))
                clear h37 h47 hpl
                go_wp2_with fail
                refine (hPl _).mono ?_
                rintro e w1 ⟨rfl, rfl⟩
                clear hPl
                go_wp2
                go_ret
                exact ⟨ret_bool HN.out.symm, rfl⟩
        · obtain rfl : k = s.size := by omega
          have hdl : decide ((s.size : Int) < (s.size : Int)) = false := by simp
          have HN : Hid (Uq.pathOk (numsOf s) = true) := by
            unfold Hid
            rw [HP.out, HR.out, List.drop_eq_nil_of_le (by rw [Hlen.out]; exact Nat.le_refl _), Uq.pathRest_nil]
          go_wp2
          go_ret
          exact ⟨ret_bool HN.out.symm, rfl⟩
    · have hda : ((s[0].toNat : Int) != 47) = true := by simp; omega
      have HE := Lib.hid (path_not (S := numsOf s) (by rw [X0.out]; exact ha))
      clear ha h0
      go_enter Tryd.func26, Tryd.ntmps26
      go_wp2
      go_ret
      exact ⟨ret_bool HE.out.symm, rfl⟩
end Go.Proofs.YtejmkijnngkoaaaDoor
