/-
  QX8: JRValue JRParse, side by side.
-/
import Derived.Test.YthklgpflaghojaaGreatDoorQX7
import Derived.Test.YthklgpflaghojaaGreatDoorQX6
import Derived.Test.YthklgpflaghojaaGreatDoorQX4
import Derived.Test.YthklgpflaghojaaGreatDoorQK

/-
  The document's value, at every depth.
-/
namespace Go.Proofs.YthklgpflaghojaaGreatDoor
open Go.RowKit

/-- What a reading function hands on. -/
theorem GotEnd.pass {S : List Nat} {i p : Nat} {res : Jq.R Jq.J} {w W0 w1 : World} {e : Ending} (h : GotEnd S p res W0 e w1) (hb0 : Below w.heap.size w W0) (hG : w.heap.size < W0.heap.size) (hip : i ≤ p) :
    ∃ k b m t A1 n1 c1 A2 n2 c2 at_ er, e = .returned (gotV k b m t (.slice A1 n1 c1) (.slice A2 n2 c2) at_ er) ∧ Below W0.heap.size W0 w1 ∧ ∀ a0 a1 a2 a3 a4 a5 a6 a7, GotEnd S i res w (.returned (gotV k b m t (.slice A1 n1 c1) (.slice A2 n2 c2) at_ er)) (put8 w1 w.heap.size a0 a1 a2 a3 a4 a5 a6 a7) := by
  rcases h.cases with ⟨x, r, A1, c1, A2, c2, j, hr, he, hJ, hd, hj, hpj, hb⟩ | ⟨n, hr, hn, ⟨k, b, m, t, A1, n1, c1, A2, n2, c2, at_, he⟩, hb⟩
  · refine ⟨_, _, _, _, _, _, _, _, _, _, _, _, he, hb, fun a0 a1 a2 a3 a4 a5 a6 a7 => ?_⟩
    exact got_ok hr hJ hG hd hj (Nat.le_trans hip hpj) (below_more hb0 hb)
  · refine ⟨_, _, _, _, _, _, _, _, _, _, _, _, he, hb, fun a0 a1 a2 a3 a4 a5 a6 a7 => ?_⟩
    exact got_err hr hn (below_more hb0 hb)

def rlists (n : Nat) (l : List Nat) : Jq.R Jq.J := match n with
  | 0 => .error 55
  | m + 1 => Jq.listOf (Jq.value m) l
def robjects (n : Nat) (l : List Nat) : Jq.R Jq.J := match n with
  | 0 => .error 55
  | m + 1 => Jq.objectOf (Jq.value m) l
theorem value_at {n : Nat} {S : List Nat} {i c : Nat} (hc : S.getD (past S i) 0 = c) :
    (c = 110 → Jq.value n (S.drop i) = Jq.word Jq.wNull Jq.nullJ (S.drop (past S i))) ∧ (c = 116 → Jq.value n (S.drop i) = Jq.word Jq.wTrue (Jq.boolJ true) (S.drop (past S i))) ∧ (c = 102 → Jq.value n (S.drop i) = Jq.word Jq.wFalse (Jq.boolJ false) (S.drop (past S i))) ∧
    (c = 34 → Jq.value n (S.drop i) = (Jq.text (S.drop (past S i + 1))).map fun q => (Jq.textJ q.1, q.2)) ∧ ((c = 45 ∨ Jq.dig c = true) → Jq.value n (S.drop i) = Jq.number (S.drop (past S i))) ∧
    (c = 91 → Jq.value n (S.drop i) = rlists n (S.drop (past S i + 1))) ∧ (c = 123 → Jq.value n (S.drop i) = robjects n (S.drop (past S i + 1))) ∧
    (¬ (c = 110 ∨ c = 116 ∨ c = 102 ∨ c = 34 ∨ c = 45 ∨ Jq.dig c = true ∨ c = 91 ∨ c = 123) → Jq.value n (S.drop i) = .error 51) := by
  obtain ⟨p, ep⟩ : ∃ p, past S i = p := ⟨_, rfl⟩
  have hv : Jq.value n (S.drop i) = (match S.drop p with
      | [] => .error 51
      | c :: r => if c = 91 then rlists n r else if c = 123 then robjects n r else Jq.scalar c (c :: r)) := by
    rw [Jq.value.eq_def]
    simp only [skip_drop, ep]
    cases S.drop p with
    | nil => rfl
    | cons c r =>
      simp only
      cases n <;> rfl
  rw [ep] at hc ⊢
  have hd : ∀ x, c = x → x ≠ 0 → S.drop p = x :: S.drop (p + 1) := fun x h1 h2 => (drop_of (by rw [hc]; exact h1) h2).2
  have dg : Jq.dig 91 = false ∧ Jq.dig 123 = false ∧ Jq.dig 110 = false ∧ Jq.dig 116 = false ∧ Jq.dig 102 = false ∧ Jq.dig 34 = false := by decide
  refine ⟨fun h => ?_, fun h => ?_, fun h => ?_, fun h => ?_, fun h => ?_, fun h => ?_, fun h => ?_, fun h => ?_⟩
  · rw [hv, hd _ h (by decide)]; rfl
  · rw [hv, hd _ h (by decide)]; rfl
  · rw [hv, hd _ h (by decide)]; rfl
  · rw [hv, hd _ h (by decide)]; rfl
  · have h48 : c ≠ 0 ∧ c ≠ 91 ∧ c ≠ 123 ∧ c ≠ 110 ∧ c ≠ 116 ∧ c ≠ 102 ∧ c ≠ 34 := by
      rcases h with h | h
      · omega
      · have := (Jq.dig_iff c).1 h; omega
    rw [hv, hd c rfl h48.1]
    simp only
    rw [if_neg h48.2.1, if_neg h48.2.2.1, Jq.scalar, if_neg h48.2.2.2.1, if_neg h48.2.2.2.2.1, if_neg h48.2.2.2.2.2.1, if_neg h48.2.2.2.2.2.2, if_pos h]
  · rw [hv, hd _ h (by decide)]; rfl
  · rw [hv, hd _ h (by decide)]; rfl
  · rw [hv]
    cases e : S.drop p with
    | nil => rfl
    | cons x r =>
      obtain rfl := head_of hc e
      simp only [not_or] at h
      obtain ⟨h1, h2, h3, h4, h5, h6, h7, h8⟩ := h
      simp only
      rw [if_neg h7, if_neg h8, Jq.scalar, if_neg h1, if_neg h2, if_neg h3, if_neg h4, if_neg (fun h => h.elim h5 h6)]

set_option maxHeartbeats 1000000 in
set_option maxRecDepth 100000 in
theorem refList_zero (s : ByteArray) (i : Nat) (hi : i < s.size) (w : World) (RES : Jq.R Jq.J) (hR : RES = .error 55) :
    Calls Tryz.prog 107 #[.string s, .int .i64 i, .int .i64 16] w (GotEnd (numsOf s) i RES w) := by
  have HE : Hid (∀ o o', GotEnd (numsOf s) i RES w (.returned (errV 55)) ((w.alloc o).alloc o')) := fun o o' => GotEnd.err (n := 55) hR (by decide) (((Below.refl _ _).alloc (Nat.le_refl _) o).alloc (by simp) o')
  have hx : ((s[i].toNat : Int) == 123) = true ∨ ((s[i].toNat : Int) == 123) = false := by
    cases ((s[i].toNat : Int) == 123)
    · exact .inr rfl
    · exact .inl rfl
  clear hR
  rcases hx with hx | hx
  all_goals
    go_enter Tryz.func107, Tryz.ntmps107
    go_wp2
    refine bodyPost_ret (v := errV 55) ?_ rfl ?_
    · (simp [results, Tryz.results107, go_sem] <;> rfl)
    · exact HE.out _ _

/-- That lists are read where so many levels are left. -/
def RListOk (n : Nat) : Prop := ∀ (s : ByteArray) (i : Nat) (w : World), i < s.size → s.size ≤ 4096 →
  ((numsOf s).getD i 0 = 91 → Calls Tryz.prog 107 #[.string s, .int .i64 i, .int .i64 ((16 - n : Nat) : Int)] w (GotEnd (numsOf s) i (rlists n ((numsOf s).drop (i + 1))) w)) ∧
  ((numsOf s).getD i 0 = 123 → Calls Tryz.prog 107 #[.string s, .int .i64 i, .int .i64 ((16 - n : Nat) : Int)] w (GotEnd (numsOf s) i (robjects n ((numsOf s).drop (i + 1))) w))
theorem rlist_zero : RListOk 0 := fun s i w hi _ => ⟨fun _ => refList_zero s i hi w _ rfl, fun _ => refList_zero s i hi w _ rfl⟩
theorem rlist_succ (n : Nat) (hn : n + 1 ≤ 16) (hV : RValueOk n) : RListOk (n + 1) := fun s i w hi hs => ⟨fun hb => refList_step n hn hV s i hi hs w hb, fun hb => refObject_step n hn hV s i hi hs w hb⟩

set_option maxHeartbeats 8000000 in
set_option maxRecDepth 100000 in
theorem rvalue_step (n : Nat) (_hn : n ≤ 16) (hL : RListOk n) : RValueOk n := by
  intro s i w hi hs
  obtain ⟨RES, eRES⟩ : ∃ RES, Jq.value n ((numsOf s).drop i) = RES := ⟨_, rfl⟩
  rw [eRES]
  obtain ⟨D, eD⟩ : ∃ D : Int, ((16 - n : Nat) : Int) = D := ⟨_, rfl⟩
  rw [eD]
  have Hlen := Lib.hid (numsOf_length s)
  obtain ⟨W0, eW0⟩ : ∃ W0, W0 = w.alloc (.cells zero8.toArray 117) := ⟨_, rfl⟩
  have hb0 : Below w.heap.size w W0 := by rw [eW0]; exact (Below.refl _ _).alloc (Nat.le_refl _) _
  have hl0 : Lies W0 w.heap.size 117 zero8 := by rw [eW0]; exact Lies.new_ rfl
  have hB := blanks_any s i hi (by omega) W0
  obtain ⟨p, ep⟩ : ∃ p, past (numsOf s) i = p := ⟨_, rfl⟩
  obtain ⟨hip, hps⟩ : i ≤ p ∧ p ≤ s.size := by
    rw [← ep]
    exact ⟨past_ge (by rw [Hlen.out]; exact hi), by rw [← Hlen.out]; exact past_le _ _⟩
  obtain ⟨c, ec⟩ : ∃ c, (numsOf s).getD p 0 = c := ⟨_, rfl⟩
  have hva := value_at (n := n) (S := numsOf s) (i := i) (c := c) (by rw [ep]; exact ec)
  rw [ep] at hva hB
  rw [eRES] at hva
  have hA := at_any s p W0
  have hc256 : c < 256 := by rw [← ec]; exact nums_lt s p
  have HD := Lib.hid (digit_any c hc256 W0)
  rw [ec] at hA
  have EC := Lib.hid ec
  have HVA := Lib.hid hva
  have HW0 := Lib.hid eW0
  have HB0 := Lib.hid hb0
  have HL0 := Lib.hid hl0
  have HLI : Hid (p < s.size → ((numsOf s).getD p 0 = 91 → Calls Tryz.prog 107 #[.string s, .int .i64 p, .int .i64 D] W0 (GotEnd (numsOf s) p (rlists n ((numsOf s).drop (p + 1))) W0)) ∧ ((numsOf s).getD p 0 = 123 → Calls Tryz.prog 107 #[.string s, .int .i64 p, .int .i64 D] W0 (GotEnd (numsOf s) p (robjects n ((numsOf s).drop (p + 1))) W0))) := fun h => by
    have := hL s p W0 h hs
    rw [eD] at this
    exact this
  rw [eW0] at hB
  clear eRES eD ep ec hva eW0 hb0 hl0 hL
  go_enter Tryz.func84, Tryz.ntmps84
  go_wp2_with fail
  refine hB.mono ?_
  rintro e w1 ⟨rfl, rfl⟩
  rw [← HW0.out]
  clear hB
  by_cases h110 : c = 110
  · have d110 : ((c : Int) == 110) = true := by rw [h110]; rfl
    have hC := refWord_any s { data := #[110, 117, 108, 108] } p hps hs (by decide) 0 (by decide) false W0
    have HQ : Hid (Jq.word (numsOf { data := #[110, 117, 108, 108] }) (.mk 0 false 0 [] [] []) ((numsOf s).drop p) = RES) := (HVA.out.1 h110).symm
    rw [HQ.out] at hC
    have HP : Hid (∀ e w1, GotEnd (numsOf s) p RES W0 e w1 → ∃ k b m t A1 n1 c1 A2 n2 c2 at_ er, e = .returned (gotV k b m t (.slice A1 n1 c1) (.slice A2 n2 c2) at_ er) ∧ Below W0.heap.size W0 w1 ∧ ∀ a0 a1 a2 a3 a4 a5 a6 a7, GotEnd (numsOf s) i RES w (.returned (gotV k b m t (.slice A1 n1 c1) (.slice A2 n2 c2) at_ er)) (put8 w1 w.heap.size a0 a1 a2 a3 a4 a5 a6 a7)) := fun e w1 h => h.pass HB0.out HL0.out.lt hip
    clear HVA HD HQ h110
    go_wp2_with fail
    refine hA.mono ?_
    rintro e w1 ⟨rfl, rfl⟩
    clear hA
    go_wp2_with fail
    refine hC.mono ?_
    intro e w1 hh
    clear hC
    obtain ⟨k0, b0, m0, t0, X1, n1, y1, X2, n2, y2, at0, er, rfl, hb1, hE⟩ := HP.out _ _ hh
    have hl1 := HL0.out.below hb1 HL0.out.lt
    have HE := Lib.hid (hE (.int .i64 k0) (.bool b0) (.int .i64 m0) (.string t0) (.slice X1 n1 y1) (.slice X2 n2 y2) (.int .i64 at0) (.int .i64 er))
    have HZ := Lib.hid (put8_lies (a := .int .i64 k0) (b := .bool b0) (c := .int .i64 m0) (d := .string t0) (e := .slice X1 n1 y1) (f := .slice X2 n2 y2) (h := .int .i64 at0) (k := .int .i64 er) hl1)
    obtain ⟨⟨z0, z1, z2, z3, z4, z5, z6, z7⟩, f0, f1, f2, f3, f4, f5, f6, f7⟩ := hl1.eight
    clear hh hE hl1 hb1
    go_wp2
    refine bodyPost_ret (v := gotV k0 b0 m0 t0 (.slice X1 n1 y1) (.slice X2 n2 y2) at0 er) ?_ rfl ?_
    · have hz := HZ.out
      unfold put8 at hz
      generalize World.setCell (World.setCell (World.setCell (World.setCell (World.setCell (World.setCell (World.setCell (World.setCell w1 _ _) _ _) _ _) _ _) _ _) _ _) _ _) _ _ = w9 at hz ⊢
      obtain ⟨⟨z0, z1, z2, z3, z4, z5, z6, z7⟩, _⟩ := hz.eight
      simp [results, Tryz.results84, go_sem, z0, z1, z2, z3, z4, z5, z6, z7] <;> rfl
    · exact HE.out

  by_cases h116 : c = 116
  · have d110 : ((c : Int) == 110) = false := by rw [beq_eq_false_iff_ne]; omega
    have d116 : ((c : Int) == 116) = true := by rw [h116]; rfl
    have hC := refWord_any s { data := #[116, 114, 117, 101] } p hps hs (by decide) 1 (by decide) true W0
    have HQ : Hid (Jq.word (numsOf { data := #[116, 114, 117, 101] }) (.mk 1 true 0 [] [] []) ((numsOf s).drop p) = RES) := (HVA.out.2.1 h116).symm
    rw [HQ.out] at hC
    have HP : Hid (∀ e w1, GotEnd (numsOf s) p RES W0 e w1 → ∃ k b m t A1 n1 c1 A2 n2 c2 at_ er, e = .returned (gotV k b m t (.slice A1 n1 c1) (.slice A2 n2 c2) at_ er) ∧ Below W0.heap.size W0 w1 ∧ ∀ a0 a1 a2 a3 a4 a5 a6 a7, GotEnd (numsOf s) i RES w (.returned (gotV k b m t (.slice A1 n1 c1) (.slice A2 n2 c2) at_ er)) (put8 w1 w.heap.size a0 a1 a2 a3 a4 a5 a6 a7)) := fun e w1 h => h.pass HB0.out HL0.out.lt hip
    clear HVA HD HQ h116
    go_wp2_with fail
    refine hA.mono ?_
    rintro e w1 ⟨rfl, rfl⟩
    clear hA
    go_wp2_with fail
    refine hC.mono ?_
    intro e w1 hh
    clear hC
    obtain ⟨k0, b0, m0, t0, X1, n1, y1, X2, n2, y2, at0, er, rfl, hb1, hE⟩ := HP.out _ _ hh
    have hl1 := HL0.out.below hb1 HL0.out.lt
    have HE := Lib.hid (hE (.int .i64 k0) (.bool b0) (.int .i64 m0) (.string t0) (.slice X1 n1 y1) (.slice X2 n2 y2) (.int .i64 at0) (.int .i64 er))
    have HZ := Lib.hid (put8_lies (a := .int .i64 k0) (b := .bool b0) (c := .int .i64 m0) (d := .string t0) (e := .slice X1 n1 y1) (f := .slice X2 n2 y2) (h := .int .i64 at0) (k := .int .i64 er) hl1)
    obtain ⟨⟨z0, z1, z2, z3, z4, z5, z6, z7⟩, f0, f1, f2, f3, f4, f5, f6, f7⟩ := hl1.eight
    clear hh hE hl1 hb1
    go_wp2
    refine bodyPost_ret (v := gotV k0 b0 m0 t0 (.slice X1 n1 y1) (.slice X2 n2 y2) at0 er) ?_ rfl ?_
    · have hz := HZ.out
      unfold put8 at hz
      generalize World.setCell (World.setCell (World.setCell (World.setCell (World.setCell (World.setCell (World.setCell (World.setCell w1 _ _) _ _) _ _) _ _) _ _) _ _) _ _) _ _ = w9 at hz ⊢
      obtain ⟨⟨z0, z1, z2, z3, z4, z5, z6, z7⟩, _⟩ := hz.eight
      simp [results, Tryz.results84, go_sem, z0, z1, z2, z3, z4, z5, z6, z7] <;> rfl
    · exact HE.out

  by_cases h102 : c = 102
  · have d110 : ((c : Int) == 110) = false := by rw [beq_eq_false_iff_ne]; omega
    have d116 : ((c : Int) == 116) = false := by rw [beq_eq_false_iff_ne]; omega
    have d102 : ((c : Int) == 102) = true := by rw [h102]; rfl
    have hC := refWord_any s { data := #[102, 97, 108, 115, 101] } p hps hs (by decide) 1 (by decide) false W0
    have HQ : Hid (Jq.word (numsOf { data := #[102, 97, 108, 115, 101] }) (.mk 1 false 0 [] [] []) ((numsOf s).drop p) = RES) := (HVA.out.2.2.1 h102).symm
    rw [HQ.out] at hC
    have HP : Hid (∀ e w1, GotEnd (numsOf s) p RES W0 e w1 → ∃ k b m t A1 n1 c1 A2 n2 c2 at_ er, e = .returned (gotV k b m t (.slice A1 n1 c1) (.slice A2 n2 c2) at_ er) ∧ Below W0.heap.size W0 w1 ∧ ∀ a0 a1 a2 a3 a4 a5 a6 a7, GotEnd (numsOf s) i RES w (.returned (gotV k b m t (.slice A1 n1 c1) (.slice A2 n2 c2) at_ er)) (put8 w1 w.heap.size a0 a1 a2 a3 a4 a5 a6 a7)) := fun e w1 h => h.pass HB0.out HL0.out.lt hip
    clear HVA HD HQ h102
    go_wp2_with fail
    refine hA.mono ?_
    rintro e w1 ⟨rfl, rfl⟩
    clear hA
    go_wp2_with fail
    refine hC.mono ?_
    intro e w1 hh
    clear hC
    obtain ⟨k0, b0, m0, t0, X1, n1, y1, X2, n2, y2, at0, er, rfl, hb1, hE⟩ := HP.out _ _ hh
    have hl1 := HL0.out.below hb1 HL0.out.lt
    have HE := Lib.hid (hE (.int .i64 k0) (.bool b0) (.int .i64 m0) (.string t0) (.slice X1 n1 y1) (.slice X2 n2 y2) (.int .i64 at0) (.int .i64 er))
    have HZ := Lib.hid (put8_lies (a := .int .i64 k0) (b := .bool b0) (c := .int .i64 m0) (d := .string t0) (e := .slice X1 n1 y1) (f := .slice X2 n2 y2) (h := .int .i64 at0) (k := .int .i64 er) hl1)
    obtain ⟨⟨z0, z1, z2, z3, z4, z5, z6, z7⟩, f0, f1, f2, f3, f4, f5, f6, f7⟩ := hl1.eight
    clear hh hE hl1 hb1
    go_wp2
    refine bodyPost_ret (v := gotV k0 b0 m0 t0 (.slice X1 n1 y1) (.slice X2 n2 y2) at0 er) ?_ rfl ?_
    · have hz := HZ.out
      unfold put8 at hz
      generalize World.setCell (World.setCell (World.setCell (World.setCell (World.setCell (World.setCell (World.setCell (World.setCell w1 _ _) _ _) _ _) _ _) _ _) _ _) _ _) _ _ = w9 at hz ⊢
      obtain ⟨⟨z0, z1, z2, z3, z4, z5, z6, z7⟩, _⟩ := hz.eight
      simp [results, Tryz.results84, go_sem, z0, z1, z2, z3, z4, z5, z6, z7] <;> rfl
    · exact HE.out

  by_cases h34 : c = 34
  · have hlt : p < s.size := by
      rw [← Hlen.out]
      exact lt_of_get EC.out (by omega)
    have d110 : ((c : Int) == 110) = false := by rw [beq_eq_false_iff_ne]; omega
    have d116 : ((c : Int) == 116) = false := by rw [beq_eq_false_iff_ne]; omega
    have d102 : ((c : Int) == 102) = false := by rw [beq_eq_false_iff_ne]; omega
    have d34 : ((c : Int) == 34) = true := by rw [h34]; rfl
    have hC := readText_any s p hlt hs W0
    rw [← HVA.out.2.2.2.1 h34] at hC
    have HP : Hid (∀ e w1, GotEnd (numsOf s) p RES W0 e w1 → ∃ k b m t A1 n1 c1 A2 n2 c2 at_ er, e = .returned (gotV k b m t (.slice A1 n1 c1) (.slice A2 n2 c2) at_ er) ∧ Below W0.heap.size W0 w1 ∧ ∀ a0 a1 a2 a3 a4 a5 a6 a7, GotEnd (numsOf s) i RES w (.returned (gotV k b m t (.slice A1 n1 c1) (.slice A2 n2 c2) at_ er)) (put8 w1 w.heap.size a0 a1 a2 a3 a4 a5 a6 a7)) := fun e w1 h => h.pass HB0.out HL0.out.lt hip
    clear HVA HD h34
    go_wp2_with fail
    refine hA.mono ?_
    rintro e w1 ⟨rfl, rfl⟩
    clear hA
    go_wp2_with fail
    refine hC.mono ?_
    intro e w1 hh
    clear hC
    obtain ⟨k0, b0, m0, t0, X1, n1, y1, X2, n2, y2, at0, er, rfl, hb1, hE⟩ := HP.out _ _ hh
    have hl1 := HL0.out.below hb1 HL0.out.lt
    have HE := Lib.hid (hE (.int .i64 k0) (.bool b0) (.int .i64 m0) (.string t0) (.slice X1 n1 y1) (.slice X2 n2 y2) (.int .i64 at0) (.int .i64 er))
    have HZ := Lib.hid (put8_lies (a := .int .i64 k0) (b := .bool b0) (c := .int .i64 m0) (d := .string t0) (e := .slice X1 n1 y1) (f := .slice X2 n2 y2) (h := .int .i64 at0) (k := .int .i64 er) hl1)
    obtain ⟨⟨z0, z1, z2, z3, z4, z5, z6, z7⟩, f0, f1, f2, f3, f4, f5, f6, f7⟩ := hl1.eight
    clear hh hE hl1 hb1
    go_wp2
    refine bodyPost_ret (v := gotV k0 b0 m0 t0 (.slice X1 n1 y1) (.slice X2 n2 y2) at0 er) ?_ rfl ?_
    · have hz := HZ.out
      unfold put8 at hz
      generalize World.setCell (World.setCell (World.setCell (World.setCell (World.setCell (World.setCell (World.setCell (World.setCell w1 _ _) _ _) _ _) _ _) _ _) _ _) _ _) _ _ = w9 at hz ⊢
      obtain ⟨⟨z0, z1, z2, z3, z4, z5, z6, z7⟩, _⟩ := hz.eight
      simp [results, Tryz.results84, go_sem, z0, z1, z2, z3, z4, z5, z6, z7] <;> rfl
    · exact HE.out

  by_cases h45 : c = 45
  · have hlt : p < s.size := by
      rw [← Hlen.out]
      exact lt_of_get EC.out (by omega)
    have d110 : ((c : Int) == 110) = false := by rw [beq_eq_false_iff_ne]; omega
    have d116 : ((c : Int) == 116) = false := by rw [beq_eq_false_iff_ne]; omega
    have d102 : ((c : Int) == 102) = false := by rw [beq_eq_false_iff_ne]; omega
    have d34 : ((c : Int) == 34) = false := by rw [beq_eq_false_iff_ne]; omega
    have d45 : ((c : Int) == 45) = true := by rw [h45]; rfl
    have hC := refNumber_any s p hlt hs W0
    rw [← HVA.out.2.2.2.2.1 (.inl h45)] at hC
    have HP : Hid (∀ e w1, GotEnd (numsOf s) p RES W0 e w1 → ∃ k b m t A1 n1 c1 A2 n2 c2 at_ er, e = .returned (gotV k b m t (.slice A1 n1 c1) (.slice A2 n2 c2) at_ er) ∧ Below W0.heap.size W0 w1 ∧ ∀ a0 a1 a2 a3 a4 a5 a6 a7, GotEnd (numsOf s) i RES w (.returned (gotV k b m t (.slice A1 n1 c1) (.slice A2 n2 c2) at_ er)) (put8 w1 w.heap.size a0 a1 a2 a3 a4 a5 a6 a7)) := fun e w1 h => h.pass HB0.out HL0.out.lt hip
    clear HVA HD h45
    go_wp2_with fail
    refine hA.mono ?_
    rintro e w1 ⟨rfl, rfl⟩
    clear hA
    go_wp2_with fail
    refine hC.mono ?_
    intro e w1 hh
    clear hC
    obtain ⟨k0, b0, m0, t0, X1, n1, y1, X2, n2, y2, at0, er, rfl, hb1, hE⟩ := HP.out _ _ hh
    have hl1 := HL0.out.below hb1 HL0.out.lt
    have HE := Lib.hid (hE (.int .i64 k0) (.bool b0) (.int .i64 m0) (.string t0) (.slice X1 n1 y1) (.slice X2 n2 y2) (.int .i64 at0) (.int .i64 er))
    have HZ := Lib.hid (put8_lies (a := .int .i64 k0) (b := .bool b0) (c := .int .i64 m0) (d := .string t0) (e := .slice X1 n1 y1) (f := .slice X2 n2 y2) (h := .int .i64 at0) (k := .int .i64 er) hl1)
    obtain ⟨⟨z0, z1, z2, z3, z4, z5, z6, z7⟩, f0, f1, f2, f3, f4, f5, f6, f7⟩ := hl1.eight
    clear hh hE hl1 hb1
    go_wp2
    refine bodyPost_ret (v := gotV k0 b0 m0 t0 (.slice X1 n1 y1) (.slice X2 n2 y2) at0 er) ?_ rfl ?_
    · have hz := HZ.out
      unfold put8 at hz
      generalize World.setCell (World.setCell (World.setCell (World.setCell (World.setCell (World.setCell (World.setCell (World.setCell w1 _ _) _ _) _ _) _ _) _ _) _ _) _ _) _ _ = w9 at hz ⊢
      obtain ⟨⟨z0, z1, z2, z3, z4, z5, z6, z7⟩, _⟩ := hz.eight
      simp [results, Tryz.results84, go_sem, z0, z1, z2, z3, z4, z5, z6, z7] <;> rfl
    · exact HE.out

  have hD := HD.out
  cases hdg : Jq.dig c with
  | true =>
    rw [hdg] at hD
    have hlt : p < s.size := by
      rw [← Hlen.out]
      refine lt_of_get EC.out ?_
      have := (Jq.dig_iff c).1 hdg
      omega
    have d110 : ((c : Int) == 110) = false := by rw [beq_eq_false_iff_ne]; omega
    have d116 : ((c : Int) == 116) = false := by rw [beq_eq_false_iff_ne]; omega
    have d102 : ((c : Int) == 102) = false := by rw [beq_eq_false_iff_ne]; omega
    have d34 : ((c : Int) == 34) = false := by rw [beq_eq_false_iff_ne]; omega
    have d45 : ((c : Int) == 45) = false := by rw [beq_eq_false_iff_ne]; omega
    have hC := refNumber_any s p hlt hs W0
    rw [← HVA.out.2.2.2.2.1 (.inr hdg)] at hC
    have HP : Hid (∀ e w1, GotEnd (numsOf s) p RES W0 e w1 → ∃ k b m t A1 n1 c1 A2 n2 c2 at_ er, e = .returned (gotV k b m t (.slice A1 n1 c1) (.slice A2 n2 c2) at_ er) ∧ Below W0.heap.size W0 w1 ∧ ∀ a0 a1 a2 a3 a4 a5 a6 a7, GotEnd (numsOf s) i RES w (.returned (gotV k b m t (.slice A1 n1 c1) (.slice A2 n2 c2) at_ er)) (put8 w1 w.heap.size a0 a1 a2 a3 a4 a5 a6 a7)) := fun e w1 h => h.pass HB0.out HL0.out.lt hip
    clear HVA HD hdg
    go_wp2_with fail
    refine hA.mono ?_
    rintro e w1 ⟨rfl, rfl⟩
    clear hA
    go_wp2_with fail
    refine hD.mono ?_
    rintro e w1 ⟨rfl, rfl⟩
    clear hD
    go_wp2_with fail
    refine hC.mono ?_
    intro e w1 hh
    clear hC
    obtain ⟨k0, b0, m0, t0, X1, n1, y1, X2, n2, y2, at0, er, rfl, hb1, hE⟩ := HP.out _ _ hh
    have hl1 := HL0.out.below hb1 HL0.out.lt
    have HE := Lib.hid (hE (.int .i64 k0) (.bool b0) (.int .i64 m0) (.string t0) (.slice X1 n1 y1) (.slice X2 n2 y2) (.int .i64 at0) (.int .i64 er))
    have HZ := Lib.hid (put8_lies (a := .int .i64 k0) (b := .bool b0) (c := .int .i64 m0) (d := .string t0) (e := .slice X1 n1 y1) (f := .slice X2 n2 y2) (h := .int .i64 at0) (k := .int .i64 er) hl1)
    obtain ⟨⟨z0, z1, z2, z3, z4, z5, z6, z7⟩, f0, f1, f2, f3, f4, f5, f6, f7⟩ := hl1.eight
    clear hh hE hl1 hb1
    go_wp2
    refine bodyPost_ret (v := gotV k0 b0 m0 t0 (.slice X1 n1 y1) (.slice X2 n2 y2) at0 er) ?_ rfl ?_
    · have hz := HZ.out
      unfold put8 at hz
      generalize World.setCell (World.setCell (World.setCell (World.setCell (World.setCell (World.setCell (World.setCell (World.setCell w1 _ _) _ _) _ _) _ _) _ _) _ _) _ _) _ _ = w9 at hz ⊢
      obtain ⟨⟨z0, z1, z2, z3, z4, z5, z6, z7⟩, _⟩ := hz.eight
      simp [results, Tryz.results84, go_sem, z0, z1, z2, z3, z4, z5, z6, z7] <;> rfl
    · exact HE.out

  | false =>
    rw [hdg] at hD
    by_cases h91 : c = 91
    · have hlt : p < s.size := by
        rw [← Hlen.out]
        exact lt_of_get EC.out (by omega)
      have d110 : ((c : Int) == 110) = false := by rw [beq_eq_false_iff_ne]; omega
      have d116 : ((c : Int) == 116) = false := by rw [beq_eq_false_iff_ne]; omega
      have d102 : ((c : Int) == 102) = false := by rw [beq_eq_false_iff_ne]; omega
      have d34 : ((c : Int) == 34) = false := by rw [beq_eq_false_iff_ne]; omega
      have d45 : ((c : Int) == 45) = false := by rw [beq_eq_false_iff_ne]; omega
      have d91 : ((c : Int) == 91) = true := by rw [h91]; rfl
      have hC := (HLI.out hlt).1 (by rw [EC.out]; exact h91)
      rw [← HVA.out.2.2.2.2.2.1 h91] at hC
      have HP : Hid (∀ e w1, GotEnd (numsOf s) p RES W0 e w1 → ∃ k b m t A1 n1 c1 A2 n2 c2 at_ er, e = .returned (gotV k b m t (.slice A1 n1 c1) (.slice A2 n2 c2) at_ er) ∧ Below W0.heap.size W0 w1 ∧ ∀ a0 a1 a2 a3 a4 a5 a6 a7, GotEnd (numsOf s) i RES w (.returned (gotV k b m t (.slice A1 n1 c1) (.slice A2 n2 c2) at_ er)) (put8 w1 w.heap.size a0 a1 a2 a3 a4 a5 a6 a7)) := fun e w1 h => h.pass HB0.out HL0.out.lt hip
      clear HVA HD h91
      go_wp2_with fail
      refine hA.mono ?_
      rintro e w1 ⟨rfl, rfl⟩
      clear hA
      go_wp2_with fail
      refine hD.mono ?_
      rintro e w1 ⟨rfl, rfl⟩
      clear hD
      go_wp2_with fail
      refine hC.mono ?_
      intro e w1 hh
      clear hC
      obtain ⟨k0, b0, m0, t0, X1, n1, y1, X2, n2, y2, at0, er, rfl, hb1, hE⟩ := HP.out _ _ hh
      have hl1 := HL0.out.below hb1 HL0.out.lt
      have HE := Lib.hid (hE (.int .i64 k0) (.bool b0) (.int .i64 m0) (.string t0) (.slice X1 n1 y1) (.slice X2 n2 y2) (.int .i64 at0) (.int .i64 er))
      have HZ := Lib.hid (put8_lies (a := .int .i64 k0) (b := .bool b0) (c := .int .i64 m0) (d := .string t0) (e := .slice X1 n1 y1) (f := .slice X2 n2 y2) (h := .int .i64 at0) (k := .int .i64 er) hl1)
      obtain ⟨⟨z0, z1, z2, z3, z4, z5, z6, z7⟩, f0, f1, f2, f3, f4, f5, f6, f7⟩ := hl1.eight
      clear hh hE hl1 hb1
      go_wp2
      refine bodyPost_ret (v := gotV k0 b0 m0 t0 (.slice X1 n1 y1) (.slice X2 n2 y2) at0 er) ?_ rfl ?_
      · have hz := HZ.out
        unfold put8 at hz
        generalize World.setCell (World.setCell (World.setCell (World.setCell (World.setCell (World.setCell (World.setCell (World.setCell w1 _ _) _ _) _ _) _ _) _ _) _ _) _ _) _ _ = w9 at hz ⊢
        obtain ⟨⟨z0, z1, z2, z3, z4, z5, z6, z7⟩, _⟩ := hz.eight
        simp [results, Tryz.results84, go_sem, z0, z1, z2, z3, z4, z5, z6, z7] <;> rfl
      · exact HE.out

    by_cases h123 : c = 123
    · have hlt : p < s.size := by
        rw [← Hlen.out]
        exact lt_of_get EC.out (by omega)
      have d110 : ((c : Int) == 110) = false := by rw [beq_eq_false_iff_ne]; omega
      have d116 : ((c : Int) == 116) = false := by rw [beq_eq_false_iff_ne]; omega
      have d102 : ((c : Int) == 102) = false := by rw [beq_eq_false_iff_ne]; omega
      have d34 : ((c : Int) == 34) = false := by rw [beq_eq_false_iff_ne]; omega
      have d45 : ((c : Int) == 45) = false := by rw [beq_eq_false_iff_ne]; omega
      have d91 : ((c : Int) == 91) = false := by rw [beq_eq_false_iff_ne]; omega
      have d123 : ((c : Int) == 123) = true := by rw [h123]; rfl
      have hC := (HLI.out hlt).2 (by rw [EC.out]; exact h123)
      rw [← HVA.out.2.2.2.2.2.2.1 h123] at hC
      have HP : Hid (∀ e w1, GotEnd (numsOf s) p RES W0 e w1 → ∃ k b m t A1 n1 c1 A2 n2 c2 at_ er, e = .returned (gotV k b m t (.slice A1 n1 c1) (.slice A2 n2 c2) at_ er) ∧ Below W0.heap.size W0 w1 ∧ ∀ a0 a1 a2 a3 a4 a5 a6 a7, GotEnd (numsOf s) i RES w (.returned (gotV k b m t (.slice A1 n1 c1) (.slice A2 n2 c2) at_ er)) (put8 w1 w.heap.size a0 a1 a2 a3 a4 a5 a6 a7)) := fun e w1 h => h.pass HB0.out HL0.out.lt hip
      clear HVA HD h123
      go_wp2_with fail
      refine hA.mono ?_
      rintro e w1 ⟨rfl, rfl⟩
      clear hA
      go_wp2_with fail
      refine hD.mono ?_
      rintro e w1 ⟨rfl, rfl⟩
      clear hD
      go_wp2_with fail
      refine hC.mono ?_
      intro e w1 hh
      clear hC
      obtain ⟨k0, b0, m0, t0, X1, n1, y1, X2, n2, y2, at0, er, rfl, hb1, hE⟩ := HP.out _ _ hh
      have hl1 := HL0.out.below hb1 HL0.out.lt
      have HE := Lib.hid (hE (.int .i64 k0) (.bool b0) (.int .i64 m0) (.string t0) (.slice X1 n1 y1) (.slice X2 n2 y2) (.int .i64 at0) (.int .i64 er))
      have HZ := Lib.hid (put8_lies (a := .int .i64 k0) (b := .bool b0) (c := .int .i64 m0) (d := .string t0) (e := .slice X1 n1 y1) (f := .slice X2 n2 y2) (h := .int .i64 at0) (k := .int .i64 er) hl1)
      obtain ⟨⟨z0, z1, z2, z3, z4, z5, z6, z7⟩, f0, f1, f2, f3, f4, f5, f6, f7⟩ := hl1.eight
      clear hh hE hl1 hb1
      go_wp2
      refine bodyPost_ret (v := gotV k0 b0 m0 t0 (.slice X1 n1 y1) (.slice X2 n2 y2) at0 er) ?_ rfl ?_
      · have hz := HZ.out
        unfold put8 at hz
        generalize World.setCell (World.setCell (World.setCell (World.setCell (World.setCell (World.setCell (World.setCell (World.setCell w1 _ _) _ _) _ _) _ _) _ _) _ _) _ _) _ _ = w9 at hz ⊢
        obtain ⟨⟨z0, z1, z2, z3, z4, z5, z6, z7⟩, _⟩ := hz.eight
        simp [results, Tryz.results84, go_sem, z0, z1, z2, z3, z4, z5, z6, z7] <;> rfl
      · exact HE.out

    have HNO := Lib.hid (HVA.out.2.2.2.2.2.2.2 (by
      rintro (h | h | h | h | h | h | h | h)
      · exact h110 h
      · exact h116 h
      · exact h102 h
      · exact h34 h
      · exact h45 h
      · rw [hdg] at h; cases h
      · exact h91 h
      · exact h123 h))
    have d110 : ((c : Int) == 110) = false := by rw [beq_eq_false_iff_ne]; omega
    have d116 : ((c : Int) == 116) = false := by rw [beq_eq_false_iff_ne]; omega
    have d102 : ((c : Int) == 102) = false := by rw [beq_eq_false_iff_ne]; omega
    have d34 : ((c : Int) == 34) = false := by rw [beq_eq_false_iff_ne]; omega
    have d45 : ((c : Int) == 45) = false := by rw [beq_eq_false_iff_ne]; omega
    have d91 : ((c : Int) == 91) = false := by rw [beq_eq_false_iff_ne]; omega
    have d123 : ((c : Int) == 123) = false := by rw [beq_eq_false_iff_ne]; omega
    have HE := Lib.hid (got_no (S := numsOf s) (i := i) (m := 51) (n := 51) HNO.out rfl (by decide) HB0.out)
    have HZ := Lib.hid (put8_lies (a := .int .i64 0) (b := .bool false) (c := .int .i64 0) (d := .string { data := #[] }) (e := nilS) (f := nilS) (h := .int .i64 0) (k := .int .i64 51) HL0.out)
    obtain ⟨⟨z0, z1, z2, z3, z4, z5, z6, z7⟩, f0, f1, f2, f3, f4, f5, f6, f7⟩ := HL0.out.eight
    clear HVA HD h110 h116 h102 h34 h45 h91 h123 hdg
    go_wp2_with fail
    refine hA.mono ?_
    rintro e w1 ⟨rfl, rfl⟩
    clear hA
    go_wp2_with fail
    refine hD.mono ?_
    rintro e w1 ⟨rfl, rfl⟩
    clear hD
    go_wp2
    refine bodyPost_ret (v := errV 51) ?_ rfl ?_
    · have hz := HZ.out
      unfold put8 at hz
      generalize World.setCell (World.setCell (World.setCell (World.setCell (World.setCell (World.setCell (World.setCell (World.setCell W0 _ _) _ _) _ _) _ _) _ _) _ _) _ _) _ _ = w9 at hz ⊢
      obtain ⟨⟨z0, z1, z2, z3, z4, z5, z6, z7⟩, _⟩ := hz.eight
      simp [results, Tryz.results84, go_sem, z0, z1, z2, z3, z4, z5, z6, z7] <;> rfl
    · exact HE.out

theorem rvalue_all : ∀ n, n ≤ 16 → RValueOk n
  | 0, h => rvalue_step 0 h rlist_zero
  | n + 1, h => rvalue_step (n + 1) h (rlist_succ n h (rvalue_all n (by omega)))
end Go.Proofs.YthklgpflaghojaaGreatDoor

/-
  The document's Parse.
-/
namespace Go.Proofs.YthklgpflaghojaaGreatDoor
open Go.RowKit

theorem parse_at {S : List Nat} (h : S.length ≤ 4096) : (∀ m, Jq.value 16 (S.drop 0) = .error m → Jq.parse S = .error m) ∧ (∀ x j, Jq.value 16 (S.drop 0) = .ok (x, S.drop j) → j ≤ S.length → (past S j < S.length → Jq.parse S = .error 51) ∧ (¬ past S j < S.length → Jq.parse S = .ok x)) := by
  rw [List.drop_zero]
  refine ⟨fun m hm => ?_, fun x j hx hj => ?_⟩
  · unfold Jq.parse
    rw [if_neg (by omega), hm]
  · have e : Jq.parse S = if Jq.skip (S.drop j) = [] then .ok x else .error 51 := by
      unfold Jq.parse
      rw [if_neg (by omega), hx]
    have hle := past_le S j
    rw [e, skip_drop]
    refine ⟨fun h => if_neg fun e => ?_, fun h => if_pos (List.drop_eq_nil_of_le (by omega))⟩
    have := congrArg List.length e
    rw [List.length_drop, List.length_nil] at this
    omega

set_option maxHeartbeats 2000000 in
set_option maxRecDepth 100000 in
theorem refParse_any (s : ByteArray) (w : World) : Calls Tryz.prog 62 #[.string s] w (ParseEndJ (numsOf s) w) := by
  have Hlen := Lib.hid (numsOf_length s)
  by_cases hs : s.size ≤ 4096
  rotate_left
  · have hd : decide ((4096 : Int) < (s.size : Int)) = true := decide_eq_true (by omega)
    have hp : Jq.parse (numsOf s) = .error 50 := by unfold Jq.parse; rw [if_pos (by rw [Hlen.out]; omega)]
    have HE : Hid (∀ o, ParseEndJ (numsOf s) w (.returned (.tuple #[jv 0 false 0 ByteArray.empty nilS nilS, .int .i64 50])) (w.alloc o)) := fun o => ⟨(Below.refl _ _).alloc (Nat.le_refl _) o, by rw [hp]; exact ⟨rfl, by decide⟩⟩
    clear hp hs
    go_enter Tryz.func62, Tryz.ntmps62
    go_wp2
    exact bodyPost_ret (by simp [results, Tryz.results62, go_sem]; rfl) rfl (HE.out _)
  have hd : decide ((4096 : Int) < (s.size : Int)) = false := decide_eq_false (by omega)
  obtain ⟨W0, eW0⟩ : ∃ W0, W0 = w.alloc (.cells zero6.toArray 26) := ⟨_, rfl⟩
  have hb0 : Below w.heap.size w W0 := by rw [eW0]; exact (Below.refl _ _).alloc (Nat.le_refl _) _
  have hl0 : Lies W0 w.heap.size 26 zero6 := by rw [eW0]; exact Lies.new_ rfl
  have hV := rvalue_all 16 (Nat.le_refl _) s 0 W0 (Nat.zero_le _) hs
  rw [show ((16 - 16 : Nat) : Int) = 0 from rfl, eW0] at hV
  obtain ⟨hErr, hOk⟩ := parse_at (S := numsOf s) (by rw [Hlen.out]; exact hs)
  have HERR := Lib.hid hErr
  have HOK := Lib.hid hOk
  have HW0 := Lib.hid eW0
  have HB0 := Lib.hid hb0
  have HL0 := Lib.hid hl0
  clear hErr hOk eW0 hb0 hl0
  go_enter Tryz.func62, Tryz.ntmps62
  go_wp2_with fail
  refine hV.mono ?_
  intro e w1 hh
  rw [← HW0.out] at hh
  clear hV
  rcases GotEnd.cases hh with ⟨x, r, X1, y1, X2, y2, j, he, rfl, hJ, hr, hj, hqj, hb1⟩ | ⟨m, he, hm, ⟨k0, b0, m0, t0, X1, n1, y1, X2, n2, y2, at0, rfl⟩, hb1⟩
  · have HB1 := Lib.hid hb1
    have HJ := Lib.hid hJ
    have hne : w.heap.size < w1.heap.size := (HL0.out.below hb1 HL0.out.lt).lt
    have hjs : j ≤ s.size := by rw [← Hlen.out]; exact hj
    subst hr
    have HO := Lib.hid (HOK.out x j he hj)
    clear hh he hJ hj hqj hb1
    repeat ((fail_if_success (with_reducible show wpList _ _ _ (⟨some 12, _, _, _, _, _⟩ :: _) _ _)); first | go_values | go_skip | go_guarded | go_step | go_upon | go_back | go_simp)
    generalize hW1 : World.alloc w1 _ = W1
    have hbW : Below W0.heap.size W0 W1 := by rw [← hW1]; exact below_alloc HB1.out _
    have hb1W : Below w1.heap.size w1 W1 := by rw [← hW1]; exact below_alloc (Below.refl _ _) _
    have hXs : Lies W1 w1.heap.size 117 [.int .i64 x.kind, .bool x.bool, .int .i64 x.int, .string (strOf x.text), .slice X1 x.names.length y1, .slice X2 x.list.length y2, .int .i64 j, .int .i64 0] := by rw [← hW1]; exact Lies.new_ rfl
    have hl1 := HL0.out.below hbW HL0.out.lt
    have hbw := below_more HB0.out hbW
    obtain ⟨⟨x0, x1, x2, x3, x4, x5, x6, x7⟩, _⟩ := hXs.eight
    obtain ⟨⟨u0, u1, u2, u3, u4, u5⟩, g0, g1, g2, g3, g4, g5⟩ := hl1.six

    have HJ1 := Lib.hid (HJ.out.on hb1W)
    have HBW := Lib.hid hbw
    have HL1 := Lib.hid hl1
    have hBl := blanks_any s j hjs (by omega) W1
    obtain ⟨p, ep⟩ : ∃ p, past (numsOf s) j = p := ⟨_, rfl⟩
    rw [ep] at hBl HO
    rw [Hlen.out] at HO
    clear hW1 hbW hb1W hXs hl1 hbw ep HB1 HJ
    by_cases hps : p < s.size
    · have hdp : decide ((p : Int) < (s.size : Int)) = true := decide_eq_true (by omega)
      have HE : Hid (ParseEndJ (numsOf s) w (.returned (.tuple #[jv 0 false 0 ByteArray.empty nilS nilS, .int .i64 51])) (put6 W1 w.heap.size (.int .i64 0) (.bool false) (.int .i64 0) (.string { data := #[] }) nilS nilS)) := ⟨gb_down (B := w.heap.size) (gb_trans (gb_below (r := some w.heap.size) (HBW.out)) gb_put6) (Nat.le_refl _) (Nat.le_refl _), by rw [HO.out.1 hps]; exact ⟨rfl, by decide⟩⟩
      have HZ := Lib.hid (HL1.out.put6 (a := .int .i64 0) (b := .bool false) (c := .int .i64 0) (d := .string { data := #[] }) (e := nilS) (f := nilS))
      go_wp2_with fail
      refine hBl.mono ?_
      rintro e w7 ⟨rfl, rfl⟩
      clear hBl
      go_wp2
      refine bodyPost_ret (v := .tuple #[jv 0 false 0 ByteArray.empty nilS nilS, .int .i64 51]) ?_ rfl ?_
      · have hz := HZ.out
        unfold put6 at hz
        generalize World.setCell (World.setCell (World.setCell (World.setCell (World.setCell (World.setCell W1 _ _) _ _) _ _) _ _) _ _) _ _ = w9 at hz ⊢
        obtain ⟨⟨z0, z1, z2, z3, z4, z5⟩, _⟩ := hz.six
        simp [results, Tryz.results62, go_sem, z0, z1, z2, z3, z4, z5] <;> rfl
      · exact HE.out
    · have hdp : decide ((p : Int) < (s.size : Int)) = false := decide_eq_false (by omega)
      have HE : Hid (ParseEndJ (numsOf s) w (.returned (.tuple #[jv x.kind x.bool x.int (strOf x.text) (.slice X1 x.names.length y1) (.slice X2 x.list.length y2), .int .i64 0])) (put6 W1 w.heap.size (.int .i64 x.kind) (.bool x.bool) (.int .i64 x.int) (.string (strOf x.text)) (.slice X1 x.names.length y1) (.slice X2 x.list.length y2))) := ⟨gb_down (B := w.heap.size) (gb_trans (gb_below (r := some w.heap.size) (HBW.out)) gb_put6) (Nat.le_refl _) (Nat.le_refl _), by
        rw [HO.out.2 hps]
        exact ⟨_, rfl, (HJ1.out.put6 HL0.out.lt).from (Nat.le_of_lt HL0.out.lt)⟩⟩
      have HZ := Lib.hid (HL1.out.put6 (a := .int .i64 x.kind) (b := .bool x.bool) (c := .int .i64 x.int) (d := .string (strOf x.text)) (e := .slice X1 x.names.length y1) (f := .slice X2 x.list.length y2))
      go_wp2_with fail
      refine hBl.mono ?_
      rintro e w7 ⟨rfl, rfl⟩
      clear hBl
      go_wp2
      refine bodyPost_ret (v := .tuple #[jv x.kind x.bool x.int (strOf x.text) (.slice X1 x.names.length y1) (.slice X2 x.list.length y2), .int .i64 0]) ?_ rfl ?_
      · have hz := HZ.out
        unfold put6 at hz
        generalize World.setCell (World.setCell (World.setCell (World.setCell (World.setCell (World.setCell W1 _ _) _ _) _ _) _ _) _ _) _ _ = w9 at hz ⊢
        obtain ⟨⟨z0, z1, z2, z3, z4, z5⟩, _⟩ := hz.six
        simp [results, Tryz.results62, go_sem, z0, z1, z2, z3, z4, z5] <;> rfl
      · exact HE.out
  · have HB1 := Lib.hid hb1
    have hne : w.heap.size < w1.heap.size := (HL0.out.below hb1 HL0.out.lt).lt
    have hdm : ((m : Int) != 0) = true := by rw [bne_iff_ne]; omega
    have HP := Lib.hid (HERR.out m he)
    have HM := Lib.hid hm
    clear hh he hb1 hm
    repeat ((fail_if_success (with_reducible show wpList _ _ _ (⟨some 12, _, _, _, _, _⟩ :: _) _ _)); first | go_values | go_skip | go_guarded | go_step | go_upon | go_back | go_simp)
    generalize hW1 : World.alloc w1 _ = W1
    have hbW : Below W0.heap.size W0 W1 := by rw [← hW1]; exact below_alloc HB1.out _
    have hb1W : Below w1.heap.size w1 W1 := by rw [← hW1]; exact below_alloc (Below.refl _ _) _
    have hXs : Lies W1 w1.heap.size 117 [.int .i64 k0, .bool b0, .int .i64 m0, .string t0, .slice X1 n1 y1, .slice X2 n2 y2, .int .i64 at0, .int .i64 m] := by rw [← hW1]; exact Lies.new_ rfl
    have hl1 := HL0.out.below hbW HL0.out.lt
    have hbw := below_more HB0.out hbW
    obtain ⟨⟨x0, x1, x2, x3, x4, x5, x6, x7⟩, _⟩ := hXs.eight
    obtain ⟨⟨u0, u1, u2, u3, u4, u5⟩, g0, g1, g2, g3, g4, g5⟩ := hl1.six

    have HBW := Lib.hid hbw
    have HL1 := Lib.hid hl1
    clear hW1 hbW hb1W hXs hl1 hbw HB1
    have HE : Hid (ParseEndJ (numsOf s) w (.returned (.tuple #[jv 0 false 0 ByteArray.empty nilS nilS, .int .i64 m])) (put6 W1 w.heap.size (.int .i64 0) (.bool false) (.int .i64 0) (.string { data := #[] }) nilS nilS).drew) := ⟨(gb_down (B := w.heap.size) (gb_trans (gb_below (r := some w.heap.size) (HBW.out)) gb_put6) (Nat.le_refl _) (Nat.le_refl _)).drew, by rw [HP.out]; exact ⟨rfl, HM.out⟩⟩
    have HZ : Hid (Lies (put6 W1 w.heap.size (.int .i64 0) (.bool false) (.int .i64 0) (.string { data := #[] }) nilS nilS).drew w.heap.size 26 [.int .i64 0, .bool false, .int .i64 0, .string { data := #[] }, nilS, nilS]) := (HL1.out.put6).drew
    go_upto_region 5 with (fail)
    go_region_law (fail)
    all_goals
      go_wp2
      refine bodyPost_ret (v := .tuple #[jv 0 false 0 ByteArray.empty nilS nilS, .int .i64 m]) ?_ rfl ?_
      · have hz := HZ.out
        unfold put6 at hz
        generalize World.drew _ = w9 at hz ⊢
        obtain ⟨⟨z0, z1, z2, z3, z4, z5⟩, _⟩ := hz.six
        simp [results, Tryz.results62, go_sem, z0, z1, z2, z3, z4, z5] <;> rfl
      · exact HE.out
end Go.Proofs.YthklgpflaghojaaGreatDoor
