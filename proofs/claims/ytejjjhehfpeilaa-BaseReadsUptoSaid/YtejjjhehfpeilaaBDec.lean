/-
  The contract of base.Decode.
-/
import Derived.Test.YtejjjhehfpeilaaBFill
import Derived.Test.YtejjjhehfpeilaaBJoin
namespace Go.Proofs.Ytejjjhehfpeilaa
open Go.RowKit

theorem nums_extract (s : ByteArray) (i j : Nat) : numsOf (s.extract i j) = ((numsOf s).take j).drop i := by
  unfold numsOf
  rw [ByteArray.data_extract, Array.toList_extract]
  simp only [List.extract, List.map_drop, List.map_take]
  rw [List.drop_take]

/-- What Decode answers. -/
def DecEnd (S : List Nat) (w : World) (e : Ending) (w' : World) : Prop :=
  (∃ (q : List Nat) (A : Option Addr) (c : Nat), B64.IsDec S (some q) ∧ e = .returned (.tuple #[.slice A q.length c, .bool true]) ∧ ArgIs w' A c q ∧ Below w.heap.size w w') ∨
  (B64.IsDec S none ∧ e = .returned (.tuple #[.slice none 0 0, .bool false]) ∧ Below w.heap.size w w')

/-- What holds at each round of Decode's loop. -/
def DecRel (S : List Nat) (w : World) (L : Nat) (s r : Value) (wr : World) : Prop :=
  ∃ (s' : ByteArray) (D : List Nat) (A : Option Addr) (R : Nat), s = .string s' ∧ r = .slice A R R ∧ D.length + R = L ∧ (0 < R → A = some ⟨w.heap.size, D.length, none⟩) ∧ B64.enc D ++ numsOf s' = S ∧ (∀ x ∈ D, x < 256) ∧
    (0 < s'.size → D.length % 3 = 0) ∧ s'.size % 4 ≠ 1 ∧ s'.size ≤ 281474976710656 ∧ R = B64.bi s'.size ∧ Lies wr w.heap.size 5 (u8s (D ++ List.replicate R 0)) ∧ Below w.heap.size w wr
def sizeV : Value → Nat
  | .string s => s.size
  | _ => 0

theorem rep_cut' (T X : List Nat) (R : Nat) : splice (T ++ List.replicate R 0) T.length X = (T ++ X) ++ List.replicate (R - X.length) 0 := by
  unfold splice
  rw [List.take_left, List.drop_length_add_append, List.drop_replicate, List.append_assoc]

set_option maxHeartbeats 1000000 in
set_option maxRecDepth 100000 in
theorem decode_any (s : ByteArray) (w : World) (hs : s.size ≤ 281474976710656) :
    Calls Try.prog 13 #[.string s] w fun e w' => DecEnd (numsOf s) w e w' := by
  have Hlen := Lib.hid (numsOf_length s)
  by_cases h1 : s.size % 4 = 1
  · have hd : (((s.size : Int) % 4) == 1) = true := by rw [beq_iff_eq]; omega
    clear h1
    go_enter Try.func13, Try.ntmps13
    go_wp2
    go_ret2
    refine .inr ⟨B64.not_of_length ?_, rfl, Below.refl _ _⟩
    rw [Hlen.out]
    rw [beq_iff_eq] at hd
    omega
  · have hd : (((s.size : Int) % 4) == 1) = false := by rw [beq_eq_false_iff_ne]; omega
    go_enter Try.func13, Try.ntmps13
    go_wp2_with fail
    refine (bytesIn_any s.size hs w).mono ?_
    rintro e w' ⟨rfl, rfl⟩
    have hLm : B64.bi s.size ≤ 281474976710656 := by unfold B64.bi; omega
    obtain ⟨L, eL⟩ : ∃ L, B64.bi s.size = L := ⟨_, rfl⟩
    rw [eL] at hLm ⊢
    have HL := Lib.hid eL
    clear eL hd
    repeat ((fail_if_success (with_reducible show wpList _ _ _ (⟨some 17, _, _, _, _, _⟩ :: _) _ _)); first | go_values | go_skip | go_guarded | go_step | go_upon | go_back | go_simp)
    with_reducible refine make_at rfl (.tmp 16) (.tmp 16) rfl L L ?s1 ?s2 (Nat.le_refl _) hLm ?_
    case s1 => rfl
    case s2 => rfl
    intro w1 hL1 hb1
    go_frame
    go_wp2_with fail
    go_loopw [0, 5] (fun v r wr => DecRel (numsOf s) w L v r wr) (fun v _ _ => sizeV v)
    case atStart => exact ⟨s, [], some ⟨w.heap.size, 0, none⟩, L, rfl, rfl, Nat.zero_add _, (fun _ => rfl), rfl, (fun x hx => by cases hx), (fun _ => rfl), h1, hs, HL.out.symm, hL1, hb1⟩
    case round =>
      obtain ⟨s', D, A, R, rfl, rfl, hDR, hA, he, hD, h3, h1', hs', hR, hL, hb⟩ := hrel
      clear hL1 hb1 h1
      by_cases h0 : 0 < s'.size
      · have hx4 : (s'.extract 0 (min 4 s'.size)).size ≤ 4 := by rw [ByteArray.size_extract]; omega
        have hJ := joinSigns_any (s'.extract 0 (min 4 s'.size)) hx4 wr
        have hex : numsOf (s'.extract 0 (min 4 s'.size)) = (numsOf s').take (min 4 s'.size) := by rw [nums_extract, List.drop_zero]
        rw [hex] at hJ
        have hBI := fun w => bytesIn_any (min 4 s'.size) (by omega) w
        have hm1 : 1 ≤ min 4 s'.size := by omega
        have hms : min 4 s'.size ≤ s'.size := Nat.min_le_right _ _
        have hbi1 : 1 ≤ B64.bi (min 4 s'.size) := by unfold B64.bi; omega
        have hbi3 : B64.bi (min 4 s'.size) ≤ 3 := by unfold B64.bi; omega
        have hbiR : B64.bi (min 4 s'.size) ≤ R := by rw [hR]; unfold B64.bi; omega
        obtain ⟨n, en⟩ : ∃ n, min 4 s'.size = n := ⟨_, rfl⟩
        rw [en] at hJ hBI hm1 hms hbi1 hbi3 hbiR
        have Hn := Lib.hid en
        have HR := Lib.hid hR
        have He := Lib.hid he
        have HDR := Lib.hid hDR
        clear en hex hx4 hR he hDR
        repeat ((fail_if_success (with_reducible show wpList _ _ _ (⟨some 24, _, _, _, _, _⟩ :: _) _ _)); first | go_values | go_skip | go_guarded | go_step | go_upon | go_back | go_simp)
        with_reducible refine min_at rfl 4 (.tmp 23) rfl s'.size ?s1 ?_
        case s1 => rfl
        rw [Hn.out]
        go_frame
        go_wp2_with fail
        refine hJ.mono ?_
        rintro e w' ⟨⟨v, rfl, hj⟩, rfl⟩
        rcases hj with ⟨hok, rfl⟩ | ⟨hok, rfl⟩
        · obtain rfl : A = some ⟨w.heap.size, D.length, none⟩ := hA (by omega)
          have hF := fun w' (h : Lies w' w.heap.size 5 (u8s (D ++ List.replicate R 0))) => fill_any (D ++ List.replicate R 0) w.heap.size D.length (B64.bi n) (B64.jsum ((numsOf s').take n)) w' h (fun x hx => by
            rcases List.mem_append.1 hx with hx | hx
            · exact hD x hx
            · rw [List.mem_replicate] at hx; omega) hbi3 (by rw [List.length_append, List.length_replicate]; omega)
          have hF := hF wr hL
          have hne : B64.bi n ≠ 0 := by omega
          go_wp2_with fail
          refine (hBI _).mono ?_
          rintro e w' ⟨rfl, rfl⟩
          obtain ⟨z, ez⟩ : ∃ z, B64.bi n = z := ⟨_, rfl⟩
          rw [ez] at hF hne hbi1 hbi3 hbiR ⊢
          have Hz := Lib.hid ez
          clear ez hBI hJ
          go_wp2_with fail
          refine hF.mono ?_
          rintro e w2 ⟨rfl, hL2, hgr2⟩
          have hb2 : Below w.heap.size w w2 := hb.grown hgr2 hb.size (fun k hk => by injection hk with hk; omega)
          clear hF hgr2 hb hL
          by_cases hβ : B64.jb (B64.fl z (B64.jsum ((numsOf s').take n))) = B64.jsum ((numsOf s').take n)
          · rw [decide_eq_true hβ]
            have HB := Lib.hid hβ
            have HF := Lib.hid (B64.fl_length z (B64.jsum ((numsOf s').take n)))
            rw [rep_cut' D _ R, HF.out] at hL2
            clear hβ
            repeat ((fail_if_success (with_reducible show wpList _ _ _ (⟨some 47, _, _, _, _, _⟩ :: _) _ _)); first | go_values | go_skip | go_guarded | go_step | go_upon | go_back | go_simp)
            with_reducible refine slice_from_at rfl (.tmp 45) (.tmp 46) rfl (some ⟨w.heap.size, D.length, none⟩) R R z ?s5 ?s6 hbiR ?_
            case s5 => rfl
            case s6 => rfl
            go_frame
            go_wp2
            go_roundw
            case rel =>
              have hsz : (s'.extract n s'.size).size = s'.size - n := by rw [ByteArray.size_extract]; omega
              have hDl : (D ++ B64.fl z (B64.jsum ((numsOf s').take n))).length = D.length + z := by rw [List.length_append, HF.out]
              have h3' := h3 h0
              have hmn := Hn.out
              have hzn := Hz.out
              refine ⟨s'.extract n s'.size, D ++ B64.fl z (B64.jsum ((numsOf s').take n)), cutAt (some ⟨w.heap.size, D.length, none⟩) R z, R - z, rfl, rfl, ?_, ?_, ?_, ?_, ?_, ?_, ?_, ?_, hL2, hb2⟩
              · rw [hDl]; have := HDR.out; omega
              · intro hp
                rw [hDl]
                simp only [cutAt, if_neg (show R ≠ z by omega), Option.map_some, Addr.add_lit]
              · rw [nums_extract, show (numsOf s').take s'.size = numsOf s' from List.take_of_length_le (by rw [numsOf_length]; exact Nat.le_refl _), ← Hz.out]
                rw [B64.dec_next h3' (by rw [numsOf_length]; exact h0) (by rw [numsOf_length]; exact h1') (by rw [numsOf_length]; exact hmn.symm) hok (by rw [Hz.out]; exact HB.out), He.out]
              · intro x hx
                rcases List.mem_append.1 hx with hx | hx
                · exact hD x hx
                · exact B64.fl_lt _ _ x hx
              · rw [hsz, hDl]
                intro hp
                unfold B64.bi at hzn
                omega
              · rw [hsz]; omega
              · rw [hsz]; omega
              · rw [hsz, HR.out]
                unfold B64.bi at hzn ⊢
                omega
            case measure => simp [sizeV, ByteArray.size_extract]; omega
          · rw [decide_eq_false hβ]
            go_wp2
            go_ret2
            refine .inr ⟨B64.dec_fails (n := n) (h3 h0) hD He.out (by rw [numsOf_length]; exact h0) (by rw [numsOf_length]; exact Hn.out.symm) (fun h => hβ (by rw [← Hz.out]; exact h.2)), rfl, hb2⟩
        · go_wp2_with fail
          refine (hBI _).mono ?_
          rintro e w' ⟨rfl, rfl⟩
          go_wp2
          go_ret2
          refine .inr ⟨B64.dec_fails (h3 h0) hD He.out (by rw [numsOf_length]; exact h0) (by rw [numsOf_length]; exact Hn.out.symm) (fun h => hok h.1), rfl, hb⟩
      · have hz0 : s'.size = 0 := by omega
        have hR0 : R = 0 := by rw [hR, hz0]; rfl
        subst hR0
        have hs0 : numsOf s' = [] := List.eq_nil_of_length_eq_zero (by rw [numsOf_length]; exact hz0)
        rw [hs0, List.append_nil] at he
        rw [List.replicate_zero, List.append_nil] at hL
        have He := Lib.hid he
        have HDR := Lib.hid hDR
        have HR := Lib.hid hR
        have hd : decide ((0 : Int) < (s'.size : Int)) = false := decide_eq_false (by omega)
        clear he hDR hR hs0
        go_wp2
        go_ret2
        have hDL : D.length = L := HDR.out
        refine .inl ⟨D, some ⟨w.heap.size, 0, none⟩, L, ⟨hD, He.out⟩, ?_, arg_lies (c := L) hL hD (Nat.le_of_eq hDL) (by omega), hb⟩
        rw [hDL]
        rfl
end Go.Proofs.Ytejjjhehfpeilaa
