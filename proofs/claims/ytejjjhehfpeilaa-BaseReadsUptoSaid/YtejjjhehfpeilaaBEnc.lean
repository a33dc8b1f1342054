/-
  The contract of base.Encode.
-/
import Derived.Test.YtejjjhehfpeilaaBApp
namespace Go.Proofs.Ytejjjhehfpeilaa
open Go.RowKit

/-- Where a slice begins that is cut at n. -/
def cutAt (A : Option Addr) (c n : Nat) : Option Addr := if c = n then A else A.map (·.add n)
theorem ArgIs.cut {w : World} {A : Option Addr} {c : Nat} {q : List Nat} (h : ArgIs w A c q) (n : Nat) (hn : n ≤ q.length) : ArgIs w (cutAt A c n) (c - n) (q.drop n) := by
  refine ⟨by rw [List.length_drop]; have := h.1; omega, by have := h.2.1; omega, fun x hx => h.2.2.1 x (List.mem_of_mem_drop hx), fun hp => ?_⟩
  rw [List.length_drop] at hp
  obtain ⟨b, off, rfl, hb, hby⟩ := h.2.2.2 (by omega)
  have hne : c ≠ n := by have := h.1; omega
  refine ⟨b, off + n, ?_, hb, hby.cut n⟩
  simp only [cutAt, if_neg hne, Option.map_some, Addr.add_lit]
theorem ArgIs.head {w : World} {A : Option Addr} {c : Nat} {q : List Nat} (h : ArgIs w A c q) (n : Nat) (hn : n ≤ q.length) : ArgIs w A n (q.take n) :=
  ⟨by rw [List.length_take]; omega, by have := h.1; have := h.2.1; omega, fun x hx => h.2.2.1 x (List.mem_of_mem_take hx), fun hp => by
    rw [List.length_take] at hp
    obtain ⟨b, off, rfl, hb, hby⟩ := h.2.2.2 (by omega)
    exact ⟨b, off, rfl, hb, hby.take n⟩⟩

section
variable {ops : Array Oper} {rest : List Oper} {o : Oper} {a : Act} {Q : Exit → Act → World → Prop} {w : World}
theorem slice_from_at (hgd : o.guard = none) (x y : Operand) (ho : o.op = .slice 22 x (some y) none none) (A : Option Addr) (l c n : Nat) (hx : a.eval x = .slice A l c) (hy : a.eval y = .int .i64 n) (hn : n ≤ l)
    (h : wpList Try.prog ops Q rest (a.put o.dst (.slice (cutAt A c n) (l - n) (c - n))) w) : wpList Try.prog ops Q (o :: rest) a w := by
  refine wpList_plain hgd fun K hK => ?_
  have hr := run_slice_l (P := Try.prog) w 22 A l c Try.underlying22 .i64 n (by omega) (by omega)
  have hz := Try.sizeOf5
  have he : Try.prog.elem 22 = 5 := by kernel_rfl
  rw [he] at hr
  simp only [hz, Result.andThen, sliced, Int.toNat_natCast, Nat.mul_one] at hr
  unfold Oper.wp
  rw [execOp, ho]
  simp [hx, hy, run_sliceAt_slice (P := Try.prog) w 22 _ _ _ _ Try.underlying22, hr, Result.andThen]
  exact hK _ _ h
theorem slice_head_at (hgd : o.guard = none) (x y z : Operand) (ho : o.op = .slice 22 x none (some y) (some z)) (A : Option Addr) (l c n : Nat) (hx : a.eval x = .slice A l c) (hy : a.eval y = .int .i64 n) (hz : a.eval z = .int .i64 n) (hn : n ≤ c)
    (h : wpList Try.prog ops Q rest (a.put o.dst (.slice A n n)) w) : wpList Try.prog ops Q (o :: rest) a w := by
  refine wpList_plain hgd fun K hK => ?_
  have hr := run_slice_hm (P := Try.prog) w 22 A l c Try.underlying22 .i64 .i64 n n (by omega) (Int.le_refl _) (by omega)
  have hz' := Try.sizeOf5
  have he : Try.prog.elem 22 = 5 := by kernel_rfl
  have e : (if n = 0 then A else A.map (·.add (0 * 1))) = A := by
    split
    · rfl
    · cases A with
      | none => rfl
      | some x => simp [Addr.add_zero']
  rw [he] at hr
  simp only [hz', Result.andThen, sliced, Int.toNat_natCast, e, Nat.sub_zero] at hr
  unfold Oper.wp
  rw [execOp, ho]
  simp [hx, hy, hz, run_sliceAt_slice (P := Try.prog) w 22 _ _ _ _ Try.underlying22, hr, Result.andThen]
  exact hK _ _ h
theorem min_at (hgd : o.guard = none) (m : Nat) (x : Operand) (ho : o.op = .call { callee := .builtin .min, args := #[.const (.int .i64 (m : Int)), x], argTypes := #[3, 3] }) (l : Nat) (hx : a.eval x = .int .i64 l)
    (h : wpList Try.prog ops Q rest (a.put o.dst (.int .i64 (min m l : Nat))) w) : wpList Try.prog ops Q (o :: rest) a w := by
  refine wpList_plain hgd fun K hK => ?_
  have hr := run_min_int2 (P := Try.prog) w #[3, 3] o.type .i64 .i64 m l
  have hc : a.eval (.const (.int .i64 (m : Int))) = .int .i64 m := rfl
  have e : (if (l : Int) < (m : Int) then (l : Int) else (m : Int)) = ((min m l : Nat) : Int) := by split <;> omega
  rw [e] at hr
  unfold Oper.wp
  simp [execOp, ho, resolve, invoke, builtin, hc, hx, hr, Result.andThen]
  exact hK _ _ h
theorem made_u8 (n : Nat) : madeCells (Value.cells (.int .u8 0)) n = (u8s (List.replicate n 0)).toArray := by
  apply Array.ext'
  apply List.ext_getElem
  · simp [madeCells, u8s, Value.cells]
  · intro i h1 h2
    simp [madeCells, u8s, Value.cells, Nat.mod_one]
theorem make_at (hgd : o.guard = none) (x y : Operand) (ho : o.op = .makeSlice 22 x y) (l c : Nat) (hx : a.eval x = .int .i64 l) (hy : a.eval y = .int .i64 c) (hlc : l ≤ c) (hc : c ≤ 281474976710656)
    (h : ∀ w', Lies w' w.heap.size 5 (u8s (List.replicate c 0)) → Below w.heap.size w w' → wpList Try.prog ops Q rest (a.put o.dst (.slice (some ⟨w.heap.size, 0, none⟩) l c)) w') : wpList Try.prog ops Q (o :: rest) a w := by
  refine wpList_plain hgd fun K hK => ?_
  obtain ⟨i0, hi, hz0, hz1, hz2⟩ := info_parts info5b
  have hr := run_make (P := Try.prog) w 22 5 i0 (.int .u8 0) Try.underlying22 hi hz0 .i64 .i64 l c (by omega) (by omega) (by rw [hz2]; omega) (by omega)
  simp only [Int.toNat_natCast, hz1, Nat.mul_one, made_u8] at hr
  unfold Oper.wp
  rw [execOp, ho]
  simp [hx, hy, hr, Result.andThen]
  exact hK _ _ (h _ (Lies.made w _ _) ((Below.refl _ _).alloc (Nat.le_refl _) _))
end

theorem rep_cut (T X : List Nat) (cap : Nat) : splice (T ++ List.replicate (cap - T.length) 0) T.length X = (T ++ X) ++ List.replicate (cap - (T ++ X).length) 0 := by
  unfold splice
  rw [List.take_left, List.drop_length_add_append, List.drop_replicate, List.append_assoc, List.length_append, Nat.sub_sub]

/-- A slice value's length. -/
def lenV : Value → Nat
  | .slice _ n _ => n
  | _ => 0
/-- What holds at each round of Encode's loop. -/
def EncRel (q : List Nat) (w : World) (cap : Nat) (b t : Value) (wr : World) : Prop :=
  ∃ (q' T : List Nat) (A' : Option Addr) (c' l' n' : Nat), b = .slice A' l' c' ∧ q'.length = l' ∧ t = .slice (some ⟨w.heap.size, 0, none⟩) n' cap ∧ T.length = n' ∧ ArgIs w A' c' q' ∧ T ++ B64.enc q' = B64.enc q ∧
    Lies wr w.heap.size 5 (u8s (T ++ List.replicate (cap - n') 0)) ∧ Below w.heap.size w wr

set_option maxHeartbeats 1000000 in
set_option maxRecDepth 100000 in
theorem encode_any (q : List Nat) (A : Option Addr) (c : Nat) (w : World) (hq : ArgIs w A c q) (hn : q.length ≤ 211106232532992) :
    Calls Try.prog 11 #[.slice A q.length c] w fun e w' => e = .returned (.string (strOf (B64.enc q))) ∧ Below w.heap.size w w' := by
  have hS := signsFor_any q.length (by omega) w
  have Hcap := Lib.hid (B64.enc_length q)
  have hcm : B64.sf q.length ≤ 281474976710656 := by unfold B64.sf; omega
  obtain ⟨cap, ecap⟩ : ∃ cap, B64.sf q.length = cap := ⟨_, rfl⟩
  rw [ecap] at hS Hcap hcm
  obtain ⟨l, el⟩ : ∃ l, q.length = l := ⟨_, rfl⟩
  have Hl := Lib.hid el
  rw [el] at hS hn ⊢
  clear ecap el
  go_enter Try.func11, Try.ntmps11
  go_wp2_with fail
  refine hS.mono ?_
  rintro e w' ⟨rfl, rfl⟩
  clear hS
  repeat ((fail_if_success (with_reducible show wpList _ _ _ (⟨some 8, _, _, _, _, _⟩ :: _) _ _)); first | go_values | go_skip | go_guarded | go_step | go_upon | go_back | go_simp)
  with_reducible refine make_at rfl (.const (.int .i64 0)) (.tmp 7) rfl 0 cap ?s1 ?s2 (Nat.zero_le _) hcm ?_
  case s1 => rfl
  case s2 => rfl
  intro w1 hL1 hb1
  go_frame
  go_wp2_with fail
  go_loopw [0, 3] (fun b t wr => EncRel q w cap b t wr) (fun b _ _ => lenV b)
  case atStart => exact ⟨q, [], A, c, l, 0, rfl, Hl.out, rfl, rfl, hq, rfl, by simpa using hL1, hb1⟩
  case round =>
    obtain ⟨q', T, A', c', l', n', rfl, hl', rfl, hn', hq', he, hL, hb⟩ := hrel
    have Hl' := Lib.hid hl'
    have Hn' := Lib.hid hn'
    have He := Lib.hid he
    clear hl' hn' he hL1 hb1 hq
    have hlen : n' + B64.sf l' = cap := by
      have := congrArg List.length He.out
      rw [List.length_append, B64.enc_length, Hn'.out, Hl'.out, Hcap.out] at this
      exact this
    have hle : l' ≤ c' := by have := hq'.1; rw [Hl'.out] at this; exact this
    have hlm : l' ≤ 281474976710656 := by unfold B64.sf at hlen; omega
    by_cases h0 : 0 < l'
    · have HS := Lib.hid (B64.enc_step q' (by rw [Hl'.out]; exact h0))
      rw [Hl'.out] at HS
      have hA := ((hq'.head (min 3 l') (by rw [Hl'.out]; omega)).below hb (Nat.le_refl _))
      have hsf : B64.sf (min 3 l') ≤ B64.sf l' := by unfold B64.sf; omega
      have hg3 : (q'.take (min 3 l')).length = min 3 l' := by rw [List.length_take, Hl'.out]; omega
      have hC : (T ++ List.replicate (cap - n') 0).length = cap := by rw [List.length_append, List.length_replicate, Hn'.out]; omega
      have hap := appendSigns_any (T ++ List.replicate (cap - n') 0) (q'.take (min 3 l')) w.heap.size n' cap A' (min 3 l') wr hL hA (by rw [hg3]; omega) hC (by rw [hg3]; omega)
      rw [hg3] at hap
      have hcut := hq'.cut (min 3 l') (by rw [Hl'.out]; omega)
      have hspl := rep_cut T (B64.sg (q'.take (min 3 l'))) cap
      rw [Hn'.out] at hspl
      rw [hspl] at hap
      have HsgL := Lib.hid (B64.sg_length (q'.take (min 3 l')))
      rw [hg3] at HsgL
      have hml : min 3 l' ≤ l' := Nat.min_le_right _ _
      have hm1 : 1 ≤ min 3 l' := by omega
      have HQ : Hid ((q'.drop (min 3 l')).length = l' - min 3 l') := by unfold Hid; rw [List.length_drop, Hl'.out]
      obtain ⟨m, em⟩ : ∃ m, min 3 l' = m := ⟨_, rfl⟩
      rw [em] at HS hap hcut HsgL hml hm1 HQ hsf
      have Hm := Lib.hid em
      clear em hspl hC hg3 hA hq' hL
      repeat ((fail_if_success (with_reducible show wpList _ _ _ (⟨some 14, _, _, _, _, _⟩ :: _) _ _)); first | go_values | go_skip | go_guarded | go_step | go_upon | go_back | go_simp)
      with_reducible refine min_at rfl 3 (.tmp 13) rfl l' ?s1 ?_
      case s1 => rfl
      rw [Hm.out]
      go_frame
      repeat ((fail_if_success (with_reducible show wpList _ _ _ (⟨some 19, _, _, _, _, _⟩ :: _) _ _)); first | go_values | go_skip | go_guarded | go_step | go_upon | go_back | go_simp)
      with_reducible refine slice_head_at rfl (.tmp 16) (.tmp 17) (.tmp 18) rfl A' l' c' m ?s2 ?s3 ?s4 (by omega) ?_
      case s2 => rfl
      case s3 => rfl
      case s4 => rfl
      go_frame
      go_wp2_with fail
      refine hap.mono ?_
      rintro e w2 ⟨rfl, hL2, hgr2⟩
      have hb2 : Below w.heap.size w w2 := hb.grown hgr2 hb.size (fun k hk => by injection hk with hk; omega)
      clear hap hgr2 hb
      repeat ((fail_if_success (with_reducible show wpList _ _ _ (⟨some 23, _, _, _, _, _⟩ :: _) _ _)); first | go_values | go_skip | go_guarded | go_step | go_upon | go_back | go_simp)
      with_reducible refine slice_from_at rfl (.tmp 21) (.tmp 22) rfl A' l' c' m ?s5 ?s6 hml ?_
      case s5 => rfl
      case s6 => rfl
      go_frame
      go_wp2
      go_roundw
      case rel =>
        refine ⟨q'.drop m, T ++ B64.sg (q'.take m), cutAt A' c' m, c' - m, l' - m, n' + B64.sf m, rfl, HQ.out, rfl, ?_, hcut, ?_, ?_, hb2⟩
        · rw [List.length_append, Hn'.out, HsgL.out]
        · rw [List.append_assoc, ← HS.out, He.out]
        · have e : (T ++ B64.sg (q'.take m)).length = n' + B64.sf m := by rw [List.length_append, Hn'.out, HsgL.out]
          rw [e] at hL2
          exact hL2
      case measure => simp [lenV]; omega
    · obtain rfl : l' = 0 := by omega
      have hq0 : q' = [] := List.eq_nil_of_length_eq_zero Hl'.out
      have hn0 : cap - n' = 0 := by rw [← hlen]; simp [B64.sf]
      have hT : T = B64.enc q := by rw [← He.out, hq0]; simp [B64.enc]
      rw [hn0, hT] at hL
      have hcap : n' = cap := by rw [← hlen]; simp [B64.sf]
      subst hcap
      have hlen' := Lib.hid Hcap.out
      have hconv : (convert 22 9 (.slice (some ⟨w.heap.size, 0, none⟩) n' n')).run Try.prog wr = .ok (.string (strOf (B64.enc q))) wr := by
        have h := conv_any (arg_lies (c := n') (by simpa using hL) (B64.enc_lt q) (by rw [Hcap.out]; exact Nat.le_refl _) (by omega)) 22 5 9 Try.underlying22 Try.underlying5 Try.underlying9
        rw [Hcap.out] at h
        exact h
      clear hT hn0 hq0 hlen hlen' hL hq'
      go_wp2
      go_ret
      exact ⟨rfl, hb⟩
end Go.Proofs.Ytejjjhehfpeilaa
