/-
  The contracts of slices.Grow and slices.Concat over pairs.
-/
import Derived.Test.YtejmkijnngkoaaaDoorUParse
import Derived.Lib.AppendZeros
import Derived.Deep.LoopGhost
namespace Go.Proofs.YtejmkijnngkoaaaDoor
open Go.RowKit

/-- append of pairs, wherever they lie, onto a row of the call's own. -/
theorem run_append_pairs {w : World} {base n : Nat} {v : Value} {xs : List Value} {A : Option Addr} {c : Nat} {L : List (List Nat × List Nat)} (ty : TypeId) (hown : w.ownsRow base 34 2 v n xs) (hA : Row w A (pcells L))
    (hb : n + L.length ≤ 4194304) (hbase : base ≤ w.heap.size) :
    ∃ v' w', (Builtin.append_ #[22, 22] ty #[v, .slice A L.length c]).run Tryd.prog w = .ok v' w' ∧ w'.ownsRow base 34 2 v' (n + L.length) (xs ++ pcells L) ∧ w.grownBy w' v.ownBlock := by
  obtain ⟨i0, hi, hz0, hz1, hz2⟩ := info_parts infoPair
  have main : ∀ a : Addr, A = some a → (∀ j u, (pcells L)[j]? = some u → w.cell? (a.add j) = some u) →
      ∃ v' w', (Builtin.append_ #[22, 22] ty #[v, .slice A L.length c]).run Tryd.prog w = .ok v' w' ∧ w'.ownsRow base 34 2 v' (n + L.length) (xs ++ pcells L) ∧ w.grownBy w' v.ownBlock := by
    rintro a rfl ha
    obtain ⟨v', w', h1, h2, h3, _⟩ := run_append_own (P := Tryd.prog) w base 22 ty 34 i0 (.agg #[.string ByteArray.empty, .string ByteArray.empty]) 2 32 Tryd.underlying22 hi hz0 hz1 hz2 rfl (by decide) v n xs hown a L.length c (pcells L) (pcells_length L) ha (pcells_one L) (by unfold maxLen; omega) (by omega) hbase
    exact ⟨v', w', h1, h2, h3⟩
  rcases Nat.eq_zero_or_pos L.length with h0 | h0
  · obtain rfl : L = [] := List.eq_nil_of_length_eq_zero h0
    cases A with
    | some a => exact main a rfl (fun j u hj => by simp [pcells] at hj)
    | none =>
      refine ⟨v, w, ?_, by simpa [pcells] using hown, World.grownBy.refl w _⟩
      rcases hown.2 with ⟨rfl, rfl⟩ | ⟨g, cap, cur, rfl, _, _, hnc, _⟩
      · simp [Builtin.append_, run_underlying Tryd.underlying22, sizeOf, typeInfo, hi, Builtin.lenOf, Builtin.firstCells]
      · simp [Builtin.append_, run_underlying Tryd.underlying22, sizeOf, typeInfo, hi, Builtin.lenOf, Builtin.firstCells, hnc, storeCells]
  · obtain ⟨b, off, rfl, _, hc⟩ := hA (by rw [pcells_length]; omega)
    exact main _ rfl (fun j u hj => by rw [Addr.add_lit]; exact hc j u hj)
theorem append_pairs {ops : Array Oper} {rest : List Oper} {o : Oper} {a : Act} {Q : Exit → Act → World → Prop} {w : World} (hgd : o.guard = none) (s x : Operand)
    (ho : o.op = .call { callee := .builtin .append, args := #[s, x], argTypes := #[22, 22] })
    (base : Nat) (v : Value) (n m : Nat) (xs : List Value) (A : Option Addr) (c : Nat) (L : List (List Nat × List Nat)) (hm : L.length = m) (hown : w.ownsRow base 34 2 v n xs) (hA : Row w A (pcells L))
    (hs : a.eval s = v) (hx : a.eval x = .slice A m c) (hb : n + m ≤ 4194304) (hbase : base ≤ w.heap.size)
    (h : ∀ v' w', w'.ownsRow base 34 2 v' (n + m) (xs ++ pcells L) → w.grownBy w' v.ownBlock → wpList Tryd.prog ops Q rest (a.put o.dst v') w') : wpList Tryd.prog ops Q (o :: rest) a w := by
  subst hm
  refine wpList_plain hgd fun K hK => ?_
  obtain ⟨v', w', hrun, h2, h3⟩ := run_append_pairs (c := c) o.type hown hA hb hbase
  unfold Oper.wp
  simp [execOp, ho, resolve, invoke, builtin, hs, hx, hrun, Result.andThen]
  exact hK _ _ (h v' w' h2 h3)

set_option maxHeartbeats 1000000 in
set_option maxRecDepth 100000 in
theorem grow_any (n : Nat) (hn : n ≤ 4194304) (w : World) :
    Calls Tryd.prog 50 #[.slice none 0 0, .int .i64 n] w fun e w' => ∃ v, e = .returned v ∧ w'.ownsRow w.heap.size 34 2 v 0 [] ∧ Below w.heap.size w w' := by
  by_cases h0 : n = 0
  · subst h0
    go_enter Tryd.func50, Tryd.ntmps50
    go_wp2
    go_ret
    exact ⟨_, rfl, World.ownsRow_nil _ _ _ _, Below.refl _ _⟩
  · have hpos : 0 < n := Nat.pos_of_ne_zero h0
    obtain ⟨i0, hi, hz0, hz1, hz2⟩ := info_parts infoPair
    have hr := fun ty => Lib.run_append_nil_zeros (P := Tryd.prog) w 22 3 ty 34 i0 (.agg #[.string ByteArray.empty, .string ByteArray.empty]) .i64 .i64 Tryd.underlying22 Tryd.underlying3 hi hz0 n hpos (by rw [hz1]; decide) (by omega) (by rw [hz2]; omega)
    have hge := grownCap_ge w n 0 34
    have hcm := grownCap_le_maxLen w n 0 34 (by unfold maxLen; omega)
    have hsz : (Builtin.zeroCells (Value.cells (.agg #[.string ByteArray.empty, .string ByteArray.empty])) n ++ Builtin.zeroCells (Value.cells (.agg #[.string ByteArray.empty, .string ByteArray.empty])) (grownCap w n 0 34 - n)).size = grownCap w n 0 34 * 2 := by
      rw [Array.size_append, size_zeroCells, size_zeroCells]
      have e : (Value.cells (.agg #[.string ByteArray.empty, .string ByteArray.empty])).size = 2 := rfl
      rw [e]; omega
    obtain ⟨cs, ecs⟩ : ∃ cs, Builtin.zeroCells (Value.cells (.agg #[.string ByteArray.empty, .string ByteArray.empty])) n ++ Builtin.zeroCells (Value.cells (.agg #[.string ByteArray.empty, .string ByteArray.empty])) (grownCap w n 0 34 - n) = cs := ⟨_, rfl⟩
    obtain ⟨cap, ecap⟩ : ∃ cap, grownCap w n 0 34 = cap := ⟨_, rfl⟩
    rw [ecs, ecap] at hsz
    simp only [ecs] at hr
    simp only [ecap] at hr
    rw [ecap] at hge hcm
    have HO : Hid ((w.drew.alloc (.cells cs 34)).ownsRow w.heap.size 34 2 (.slice (some ⟨w.heap.size, 0, none⟩) 0 cap) 0 []) := ⟨rfl, .inr ⟨w.heap.size, cap, cs, rfl, Nat.le_refl _, heap_alloc_new w.drew _, Nat.zero_le _, hcm, hsz, by simp⟩⟩
    have HB : Hid (Below w.heap.size w (w.drew.alloc (.cells cs 34))) := ⟨rfl, rfl, rfl, by simp, fun k hk => heap_alloc_old w.drew _ hk⟩
    have HR := Lib.hid (hr 22)
    unfold maxLen at hcm
    clear ecs ecap hsz hr hi hz0 hz1 hz2 h0
    have c1 : (0 : Int) ≤ (cap : Int) := by omega
    go_enter Tryd.func50, Tryd.ntmps50
    repeat ((fail_if_success (with_reducible show wpList _ _ _ (⟨some 22, _, _, _, _, _⟩ :: _) _ _)); first | go_values | go_skip | go_guarded | go_step | go_upon | go_back | go_simp)
    with_reducible refine Lib.wpList_append_run _ rfl (.tmp 20) (.tmp 21) 22 3 rfl _ _ ?s1 ?s2 _ _ HR.out ?_
    case s1 => rfl
    case s2 => rfl
    go_frame
    go_wp2
    go_ret
    exact ⟨_, rfl, HO.out, HB.out⟩
/-- What holds at each round of Concat's second loop. -/
def ConcatRel (L M : List (List Nat × List Nat)) (n m : Nat) (w : World) (v i : Value) (wr : World) : Prop :=
  Below w.heap.size w wr ∧ ((i = .int .i64 0 ∧ wr.ownsRow w.heap.size 34 2 v 0 []) ∨ (i = .int .i64 1 ∧ wr.ownsRow w.heap.size 34 2 v n (pcells L)) ∨ (i = .int .i64 2 ∧ wr.ownsRow w.heap.size 34 2 v (n + m) (pcells L ++ pcells M)))
def SizeRel (n m : Nat) (v i : Value) : Prop := (v = .int .i64 0 ∧ i = .int .i64 0) ∨ (v = .int .i64 n ∧ i = .int .i64 1) ∨ (v = .int .i64 ((n : Int) + m) ∧ i = .int .i64 2)

set_option maxHeartbeats 2000000 in
set_option maxRecDepth 100000 in
theorem concat_any (L M : List (List Nat × List Nat)) (A B : Option Addr) (n m c d g : Nat) (t : TypeId) (w : World) (hn : L.length = n) (hm : M.length = m) (hA : Row w A (pcells L)) (hB : Row w B (pcells M)) (hnm : n + m ≤ 4194304)
    (hg : Lies w g t [.slice A n c, .slice B m d]) :
    Calls Tryd.prog 30 #[.slice (some ⟨g, 0, none⟩) 2 2] w fun e w' => ∃ A' c', e = .returned (.slice A' (n + m) c') ∧ Row w' A' (pcells (L ++ M)) ∧ Below w.heap.size w w' ∧ Fresh w A' := by
  have Hn := Lib.hid hn
  have Hm := Lib.hid hm
  clear hn hm
  have g0 := hg.cell 0
  have g1 := hg.cell 1
  go_enter Tryd.func30, Tryd.ntmps30
  go_wp2_with fail
  go_loop [3, 11] (fun v i => SizeRel n m v i) (fun _ i => 2 - (intOf i).toNat)
  case atStart => exact .inl ⟨rfl, rfl⟩
  case round =>
    rcases hrel with ⟨rfl, rfl⟩ | ⟨rfl, rfl⟩ | ⟨rfl, rfl⟩
    · go_wp2
      go_round
      case rel => exact .inr (.inl ⟨by simp, rfl⟩)
      case measure => simp [intOf]
    · go_wp2
      go_round
      case rel => exact .inr (.inr ⟨by simp, rfl⟩)
      case measure => simp [intOf]
    · have hGr := grow_any (n + m) (by omega) w
      have ec : ((n + m : Nat) : Int) = (n : Int) + (m : Int) := by omega
      rw [ec] at hGr
      clear ec
      go_wp2_with fail
      refine hGr.mono ?_
      rintro e w1 ⟨v1, rfl, hown1, hb1⟩
      clear hGr
      go_wp2_with fail
      go_loopw [6, 27] (fun v i wr => ConcatRel L M n m w v i wr) (fun _ i _ => 2 - (intOf i).toNat)
      case atStart => exact ⟨hb1, .inl ⟨rfl, hown1⟩⟩
      case round =>
        clear hown1 hb1
        obtain ⟨hb, hrel⟩ := hrel
        obtain ⟨g0, g1, _, _⟩ := keep2 hg hb
        have hbs := hb.size
        rcases hrel with ⟨rfl, hown⟩ | ⟨rfl, hown⟩ | ⟨rfl, hown⟩
        · repeat ((fail_if_success (with_reducible show wpList _ _ _ (⟨some 33, _, _, _, _, _⟩ :: _) _ _)); first | go_values | go_skip | go_guarded | go_step | go_upon | go_back | go_simp)
          with_reducible refine append_pairs rfl (.tmp 31) (.tmp 32) rfl w.heap.size _ 0 n [] A c L ?s0 hown (hA.below hb (Nat.le_refl _)) ?s1 ?s2 ?s3 hbs ?_
          case s0 => exact Hn.out
          case s1 => rfl
          case s2 => rfl
          case s3 => omega
          intro v2 w2 hown2 hgr2
          have hb2 : Below w.heap.size w w2 := hb.grown hgr2 hbs (own_ge hown)
          rw [Nat.zero_add, List.nil_append] at hown2
          clear hgr2 hown hb g0 g1
          go_frame
          go_wp2
          go_roundw
          case rel => exact ⟨hb2, .inr (.inl ⟨rfl, hown2⟩)⟩
          case measure => simp [intOf]
        · repeat ((fail_if_success (with_reducible show wpList _ _ _ (⟨some 33, _, _, _, _, _⟩ :: _) _ _)); first | go_values | go_skip | go_guarded | go_step | go_upon | go_back | go_simp)
          with_reducible refine append_pairs rfl (.tmp 31) (.tmp 32) rfl w.heap.size _ n m _ B d M ?t0 hown (hB.below hb (Nat.le_refl _)) ?t1 ?t2 ?t3 hbs ?_
          case t0 => exact Hm.out
          case t1 => rfl
          case t2 => rfl
          case t3 => omega
          intro v2 w2 hown2 hgr2
          have hb2 : Below w.heap.size w w2 := hb.grown hgr2 hbs (own_ge hown)
          clear hgr2 hown hb g0 g1
          go_frame
          go_wp2
          go_roundw
          case rel => exact ⟨hb2, .inr (.inr ⟨rfl, hown2⟩)⟩
          case measure => simp [intOf]
        · obtain ⟨A2, c2, rfl⟩ := own_slice hown
          have hrow := Row.own hown
          have hfr : Fresh w A2 := fresh_own hown
          rw [← pcells_append] at hrow
          clear hown g0 g1
          go_wp2
          go_ret
          exact ⟨A2, c2, rfl, hrow, hb, hfr⟩
end Go.Proofs.YtejmkijnngkoaaaDoor
