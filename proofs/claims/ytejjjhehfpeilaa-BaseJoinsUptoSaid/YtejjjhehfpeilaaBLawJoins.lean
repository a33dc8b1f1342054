/-
  The walk of the law BaseJoins.
-/
import Derived.Test.YtejjjhehfpeilaaBOwn
namespace Go.Proofs.Ytejjjhehfpeilaa
open Go.RowKit

theorem slice_to_at {ops : Array Oper} {rest : List Oper} {o : Oper} {a : Act} {Q : Exit → Act → World → Prop} {w : World} (hgd : o.guard = none) (x y : Operand) (ho : o.op = .slice 22 x none (some y) none) (A : Option Addr) (l c n : Nat) (hx : a.eval x = .slice A l c) (hy : a.eval y = .int .i64 n) (hn : n ≤ c)
    (h : wpList Try.prog ops Q rest (a.put o.dst (.slice A n c)) w) : wpList Try.prog ops Q (o :: rest) a w := by
  refine wpList_plain hgd fun K hK => ?_
  have hr := run_slice_h (P := Try.prog) w 22 A l c Try.underlying22 .i64 n (by omega) (by omega)
  have hz := Try.sizeOf5
  have he : Try.prog.elem 22 = 5 := by kernel_rfl
  have e : (if c = 0 then A else A.map (·.add (0 * 1))) = A := by
    split
    · rfl
    · cases A with
      | none => rfl
      | some x => simp [Addr.add_zero']
  rw [he] at hr
  simp only [hz, Result.andThen, sliced, Int.toNat_natCast, e, Nat.sub_zero] at hr
  unfold Oper.wp
  rw [execOp, ho]
  simp [hx, hy, run_sliceAt_slice (P := Try.prog) w 22 _ _ _ _ Try.underlying22, hr, Result.andThen]
  exact hK _ _ h
theorem ArgIs.part {w : World} {A : Option Addr} {c : Nat} {q : List Nat} (h : ArgIs w A c q) (n : Nat) : ArgIs w A c (q.take n) :=
  ⟨Nat.le_trans (by rw [List.length_take]; omega) h.1, h.2.1, fun x hx => h.2.2.1 x (List.mem_of_mem_take hx), fun hp => by
    rw [List.length_take] at hp
    obtain ⟨b, off, rfl, hb, hby⟩ := h.2.2.2 (by omega)
    exact ⟨b, off, rfl, hb, hby.take n⟩⟩

set_option maxHeartbeats 1000000 in
set_option maxRecDepth 100000 in
theorem lawJoins (p q : List Nat) (A A' : Option Addr) (c c' : Nat) (w : World) (hp : ArgIs w A c p) (hq : ArgIs w A' c' q) (hnp : p.length ≤ 1048576) (hnq : q.length ≤ 1048576) :
    Calls Try.prog 8 #[.slice A p.length c, .slice A' q.length c'] w fun e w' => e = .returned (.bool true) ∧ Below w.heap.size w w' := by
  have hp' := hp.part (p.length / 3 * 3)
  have hlp : (p.take (p.length / 3 * 3)).length = p.length / 3 * 3 := by rw [List.length_take]; omega
  have hj := B64.enc_join (p.take (p.length / 3 * 3)) q (by rw [hlp]; omega)
  have hlc := hp.1
  obtain ⟨P, eP⟩ : ∃ P, p.take (p.length / 3 * 3) = P := ⟨_, rfl⟩
  rw [eP] at hp' hlp hj
  obtain ⟨l, el⟩ : ∃ l, p.length = l := ⟨_, rfl⟩
  rw [el] at hlp hnp hlc ⊢
  obtain ⟨m, em⟩ : ∃ m, q.length = m := ⟨_, rfl⟩
  rw [em] at hnq ⊢
  have Hm := Lib.hid em
  have HP := Lib.hid hlp
  clear eP el hp em hlp
  have hempty : (w.alloc (.cells #[] 5)).ownsRow w.heap.size 5 1 (.slice (some ⟨w.heap.size, 0, none⟩) 0 0) 0 [] := ⟨rfl, .inr ⟨w.heap.size, 0, #[], rfl, Nat.le_refl _, heap_alloc_new _ _, Nat.le_refl _, by decide, rfl, rfl⟩⟩
  go_enter Try.func8, Try.ntmps8
  repeat ((fail_if_success (with_reducible show wpList _ _ _ (⟨some 11, _, _, _, _, _⟩ :: _) _ _)); first | go_values | go_skip | go_guarded | go_step | go_upon | go_back | go_simp)
  with_reducible refine slice_to_at rfl (.tmp 6) (.tmp 10) rfl A l c (l / 3 * 3) ?s1 ?s2 (by omega) ?_
  case s1 => rfl
  case s2 => rfl
  go_frame
  have hk : l / 3 * 3 ≤ 1048576 := by omega
  obtain ⟨k, ek⟩ : ∃ k, l / 3 * 3 = k := ⟨_, rfl⟩
  rw [ek] at HP hk ⊢
  clear ek
  repeat ((fail_if_success (with_reducible show wpList _ _ _ (⟨some 14, _, _, _, _, _⟩ :: _) _ _)); first | go_values | go_skip | go_guarded | go_step | go_upon | go_back | go_simp)
  with_reducible refine append_arg rfl (.tmp 12) (.tmp 13) rfl w.heap.size (.slice (some ⟨w.heap.size, 0, none⟩) 0 0) 0 [] A c P hempty (hp'.alloc _) ?s3 ?s4 ?s5 ?s6 ?_
  case s3 => rfl
  case s4 => rw [HP.out]; rfl
  case s5 => rw [HP.out]; omega
  case s6 => simp
  intro v1 w1 hown1 hgr1
  rw [List.nil_append, Nat.zero_add, HP.out] at hown1
  have hb1 : Below w.heap.size w w1 := ((Below.refl _ _).alloc (Nat.le_refl _) _).grown hgr1 (by simp) (own_ge hempty)
  clear hempty hgr1
  go_frame
  repeat ((fail_if_success (with_reducible show wpList _ _ _ (⟨some 16, _, _, _, _, _⟩ :: _) _ _)); first | go_values | go_skip | go_guarded | go_step | go_upon | go_back | go_simp)
  with_reducible refine append_arg rfl (.tmp 14) (.tmp 15) rfl w.heap.size v1 k _ A' c' q hown1 (hq.below hb1 (Nat.le_refl _)) ?s7 ?s8 ?s9 ?s10 ?_
  case s7 => rfl
  case s8 => rw [Hm.out]; rfl
  case s9 => rw [Hm.out]; omega
  case s10 => exact hb1.size
  intro v2 w2 hown2 hgr2
  rw [← u8s_append, Hm.out] at hown2
  have hb2 : Below w.heap.size w w2 := hb1.grown hgr2 hb1.size (own_ge hown1)
  have hall : ∀ x ∈ P ++ q, x < 256 := fun x hx => by
    rcases List.mem_append.1 hx with hx | hx
    · exact hp'.2.2.1 x hx
    · exact hq.2.2.1 x hx
  obtain ⟨A2, c2, rfl⟩ := own_slice hown2
  obtain ⟨hl2, ha2⟩ := own_arg hown2 hall
  have hp2 := hp'.below hb2 (Nat.le_refl _)
  have hq2 := hq.below hb2 (Nat.le_refl _)
  clear hgr2 hown1 hb1 hown2 hp' hq
  go_frame
  go_wp2_with fail
  refine (alive_any w2).mono ?_
  rintro e w3 ⟨rfl, hb3⟩
  have hp3 := hp2.below hb3 (Nat.le_refl _)
  have hq3 := hq2.below hb3 (Nat.le_refl _)
  have ha3 := ha2.below hb3 (Nat.le_refl _)
  have hb03 : Below w.heap.size w w3 := hb2.trans (hb3.mono hb2.size)
  clear hp2 hq2 ha2 hb3 hb2
  have E1 := encode_any P A c w3 hp3 (by rw [HP.out]; omega)
  rw [HP.out] at E1
  go_wp2_with fail
  refine E1.mono ?_
  rintro e w4 ⟨rfl, hb4⟩
  have hq4 := hq3.below hb4 (Nat.le_refl _)
  have ha4 := ha3.below hb4 (Nat.le_refl _)
  have hb04 : Below w.heap.size w w4 := hb03.trans (hb4.mono hb03.size)
  clear hp3 hq3 ha3 hb4 hb03 E1
  have E2 := encode_any q A' c' w4 hq4 (by rw [Hm.out]; omega)
  rw [Hm.out] at E2
  go_wp2_with fail
  refine E2.mono ?_
  rintro e w5 ⟨rfl, hb5⟩
  have ha5 := ha4.below hb5 (Nat.le_refl _)
  have hb05 : Below w.heap.size w w5 := hb04.trans (hb5.mono hb04.size)
  clear hq4 ha4 hb5 hb04 E2
  have E3 := encode_any (P ++ q) A2 c2 w5 ha5 (by rw [hl2]; omega)
  rw [hl2] at E3
  have hadd := strOf_append (B64.enc P) (B64.enc q)
  rw [← hj] at hadd
  have HA := Lib.hid hadd
  have hsum : ¬ 9223372036854775807 < (strOf (B64.enc P)).size + (strOf (B64.enc q)).size := by
    rw [strOf_size, strOf_size, B64.enc_length, B64.enc_length, HP.out, Hm.out]
    unfold B64.sf
    omega
  clear hadd hj hl2
  go_wp2_with fail
  refine E3.mono ?_
  rintro e w6 ⟨rfl, hb6⟩
  have hb06 : Below w.heap.size w w6 := hb05.trans (hb6.mono hb05.size)
  rw [HA.out]
  have hse : ((strOf (B64.enc (P ++ q))).toList == (strOf (B64.enc (P ++ q))).toList) = true := by simp
  clear hb05 hb6 ha5 E3 hsum
  go_wp2
  go_ret
  exact ⟨rfl, hb06⟩
end Go.Proofs.Ytejjjhehfpeilaa
