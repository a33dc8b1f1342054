/-
  The contract of the document's own Padded.
-/
import Derived.Test.YtkfhfokeoieajaaDoorRef
import Derived.Test.YtkfhfokeoieajaaDoorAlive
import Derived.Laws.AppendOwnNone
namespace Go.Proofs.YtkfhfokeoieajaaDoor
open Go.RowKit

theorem u8s_snoc (l : List Nat) (x : Nat) : u8s l ++ [.int .u8 (x : Int)] = u8s (l ++ [x]) := by simp [u8s]
theorem own_u8_ge {w : World} {base : Nat} {e : TypeId} {size n : Nat} {v : Value} {xs : List Value} (h : w.ownsRow base e size v n xs) : ∀ b, v.ownBlock = some b → base ≤ b := by
  rcases h.2 with ⟨rfl, _⟩ | ⟨g, cap, cur, rfl, hg, _⟩
  · intro b hb; simp [Value.ownBlock] at hb
  · intro b hb; simp [Value.ownBlock] at hb; omega

/-- append of bytes that came in, whatever their address, onto a row of the call's own. -/
theorem run_append_arg {w : World} {base n : Nat} {v : Value} {xs : List Value} {A : Option Addr} {c : Nat} {q : List Nat} (ty : TypeId) (hown : w.ownsRow base 5 1 v n xs) (hq : ArgIs w A c q)
    (hb : n + q.length ≤ 140737488355328) (hbase : base ≤ w.heap.size) :
    ∃ v' w', (Builtin.append_ #[22, 22] ty #[v, .slice A q.length c]).run Tryd.prog w = .ok v' w' ∧ w'.ownsRow base 5 1 v' (n + q.length) (xs ++ u8s q) ∧ w.grownBy w' v.ownBlock := by
  obtain ⟨i0, hi, hz0, hz1, hz2⟩ := info_parts info5b
  have h63 : n + q.length ≤ maxLen := by unfold maxLen; omega
  have main : ∀ a : Addr, A = some a → (∀ j u, (u8s q)[j]? = some u → w.cell? (a.add j) = some u) →
      ∃ v' w', (Builtin.append_ #[22, 22] ty #[v, .slice A q.length c]).run Tryd.prog w = .ok v' w' ∧ w'.ownsRow base 5 1 v' (n + q.length) (xs ++ u8s q) ∧ w.grownBy w' v.ownBlock := by
    rintro a rfl ha
    obtain ⟨v', w', h1, h2, h3, _⟩ := run_append_own (P := Tryd.prog) w base 22 ty 5 i0 (.int .u8 0) 1 1 Tryd.underlying22 hi hz0 hz1 hz2 rfl (by decide) v n xs hown a q.length c (u8s q) (by rw [u8s_length]; omega) ha (u8s_one q) h63 (by omega) hbase
    exact ⟨v', w', h1, h2, h3⟩
  rcases Nat.eq_zero_or_pos q.length with h0 | h0
  · obtain rfl : q = [] := List.eq_nil_of_length_eq_zero h0
    cases A with
    | some a => exact main a rfl (fun j u hj => by simp [u8s] at hj)
    | none =>
      refine ⟨v, w, ?_, by simpa [u8s] using hown, World.grownBy.refl w _⟩
      rcases hown.2 with ⟨rfl, rfl⟩ | ⟨g, cap, cur, rfl, _, _, hnc, _⟩
      · simp [Builtin.append_, run_underlying Tryd.underlying22, sizeOf, typeInfo, hi, Builtin.lenOf, Builtin.firstCells]
      · simp [Builtin.append_, run_underlying Tryd.underlying22, sizeOf, typeInfo, hi, Builtin.lenOf, Builtin.firstCells, hnc, storeCells]
  · obtain ⟨b, off, rfl, _, hby⟩ := hq.2.2.2 h0
    exact main _ rfl (fun j u hj => src_at hby hj)
theorem append_arg {ops : Array Oper} {rest : List Oper} {o : Oper} {a : Act} {Q : Exit → Act → World → Prop} {w : World} (hgd : o.guard = none) (s x : Operand)
    (ho : o.op = .call { callee := .builtin .append, args := #[s, x], argTypes := #[22, 22] })
    (base : Nat) (v : Value) (n : Nat) (xs : List Value) (A : Option Addr) (c : Nat) (q : List Nat) (hown : w.ownsRow base 5 1 v n xs) (hq : ArgIs w A c q)
    (hs : a.eval s = v) (hx : a.eval x = .slice A q.length c) (hb : n + q.length ≤ 140737488355328) (hbase : base ≤ w.heap.size)
    (h : ∀ v' w', w'.ownsRow base 5 1 v' (n + q.length) (xs ++ u8s q) → w.grownBy w' v.ownBlock → wpList Tryd.prog ops Q rest (a.put o.dst v') w') : wpList Tryd.prog ops Q (o :: rest) a w := by
  refine wpList_plain hgd fun K hK => ?_
  obtain ⟨v', w', hrun, h2, h3⟩ := run_append_arg o.type hown hq hb hbase
  unfold Oper.wp
  simp [execOp, ho, resolve, invoke, builtin, hs, hx, hrun, Result.andThen]
  exact hK _ _ (h v' w' h2 h3)
/-- A row of the call's own, as bytes that came in. -/
theorem own_arg {w : World} {base : Nat} {A : Option Addr} {n c : Nat} {q : List Nat} (h : w.ownsRow base 5 1 (.slice A n c) n (u8s q)) (hq : ∀ x ∈ q, x < 256) : q.length = n ∧ ArgIs w A c q := by
  have hl : q.length = n := by have := h.1; rw [u8s_length] at this; omega
  refine ⟨hl, ?_⟩
  rcases h.2 with ⟨e, h0⟩ | ⟨g, cap, cur, e, hb, hh, hc, hm, hs, ht⟩
  · have hc0 : c = 0 := by simpa using congrArg (fun v => match v with | Value.slice _ _ k => k | _ => 0) e
    exact ⟨by omega, by omega, hq, fun hp => by omega⟩
  · have hc0 : c = cap := by simpa using congrArg (fun v => match v with | Value.slice _ _ k => k | _ => 0) e
    have hA : A = some ⟨g, 0, none⟩ := by simpa using congrArg (fun v => match v with | Value.slice a _ _ => a | _ => none) e
    subst hc0 hA
    unfold maxLen at hm
    refine ⟨by omega, by omega, hq, fun hp => ⟨g, 0, rfl, ?_, fun j x hj => ⟨hq x (List.mem_of_getElem? hj), ?_⟩⟩⟩
    · rcases Nat.lt_or_ge g w.heap.size with hlt | hge
      · exact hlt
      · rw [Array.getElem?_eq_none hge] at hh; cases hh
    · have hj' : j < n := by have := (List.getElem?_eq_some_iff.1 hj).1; omega
      rw [Nat.zero_add, cell_of_row w g j cur _ _ hh]
      have e2 : cur.toList[j]? = (u8s q)[j]? := by rw [← ht, List.getElem?_take, if_pos (by omega)]
      rw [← Array.getElem?_toList, e2]
      simp [u8s, hj]

theorem own_form {w : World} {base : Nat} {e : TypeId} {size n : Nat} {v : Value} {xs : List Value} (h : w.ownsRow base e size v n xs) (hn : 0 < n) : ∃ g cap, v = .slice (some ⟨g, 0, none⟩) n cap := by
  rcases h.2 with ⟨_, h0⟩ | ⟨g, cap, cur, rfl, _⟩
  · omega
  · exact ⟨g, cap, rfl⟩
theorem zeros_test (l k : Nat) (_hk : k ≤ Sha.zeros l) : (k = Sha.zeros l → (l + 1 + k) % 64 = 56) ∧ (k < Sha.zeros l → (l + 1 + k) % 64 ≠ 56) := by
  unfold Sha.zeros at *
  constructor <;> intro h <;> omega

theorem zeros_lt (n : Nat) : Sha.zeros n < 64 := Nat.mod_lt _ (by decide)

set_option maxHeartbeats 2000000 in
set_option maxRecDepth 100000 in
theorem padded_any (q : List Nat) (A : Option Addr) (c : Nat) (w : World) (hq : ArgIs w A c q) (hn : q.length ≤ 140737488354000) :
    Calls Tryd.prog 19 #[.slice A q.length c] w fun e w' => ∃ v, e = .returned v ∧ w'.ownsRow w.heap.size 5 1 v (Sha.padded q).length (u8s (Sha.padded q)) ∧ Below w.heap.size w w' := by
  obtain ⟨i0, hi, hz0, hz1, hz2⟩ := info_parts info5b
  obtain ⟨l, hl⟩ : ∃ l, q.length = l := ⟨_, rfl⟩
  rw [hl] at hn ⊢
  have Hl := Lib.hid hl
  clear hl
  have hempty : (w.alloc (.cells #[] 5)).ownsRow w.heap.size 5 1 (.slice (some ⟨w.heap.size, 0, none⟩) 0 0) 0 [] := ⟨rfl, .inr ⟨w.heap.size, 0, #[], rfl, Nat.le_refl _, heap_alloc_new _ _, Nat.le_refl _, by decide, rfl, rfl⟩⟩
  go_enter Tryd.func19, Tryd.ntmps19
  repeat ((fail_if_success (with_reducible show wpList _ _ _ (⟨some 8, _, _, _, _, _⟩ :: _) _ _)); first | go_values | go_skip | go_guarded | go_step | go_upon | go_back | go_simp)
  with_reducible refine append_arg rfl (.tmp 6) (.tmp 7) rfl w.heap.size (.slice (some ⟨w.heap.size, 0, none⟩) 0 0) 0 [] A c q hempty (hq.alloc _) ?s1 ?s2 ?s3 ?s4 ?_
  case s1 => rfl
  case s2 => rw [Hl.out]; rfl
  case s3 => rw [Hl.out]; omega
  case s4 => simp
  intro v1 w1 hown1 hgr1
  rw [List.nil_append, Nat.zero_add, Hl.out] at hown1
  have hb1 : Below w.heap.size w w1 := ((Below.refl _ _).alloc (Nat.le_refl _) _).grown hgr1 (by simp) (own_u8_ge hempty)
  clear hempty hgr1
  go_frame
  go_upto_region 2 with (fail)
  repeat ((fail_if_success (with_reducible show wpList _ _ _ (⟨some 11, _, _, _, _, _⟩ :: _) _ _)); first | go_values | go_skip | go_guarded | go_step | go_upon | go_back | go_simp)
  with_reducible refine append_arg rfl (.tmp 9) (.tmp 10) rfl w.heap.size v1 l _ (some ⟨w1.heap.size, 0, none⟩) 1 [128] (hown1.alloc _) (arg_new rfl 5 (0, 0) [128] 1 (by decide) (by decide) (by decide)) ?s1 ?s2 ?s3 ?s4 ?_
  case s1 => rfl
  case s2 => rfl
  case s3 => simp; omega
  case s4 => have := hb1.size; simp; omega
  intro v2 w2 hown2 hgr2
  have hb2 : Below w.heap.size w w2 := (hb1.alloc hb1.size _).grown hgr2 (by have := hb1.size; simp; omega) (own_u8_ge hown1)
  rw [← u8s_append] at hown2
  obtain ⟨g, cap, rfl⟩ := own_form hown2 (by simp)
  clear hgr2 hown1 hb1
  go_frame
  go_wp2_with fail
  go_loopw [3] (fun v wr => ∃ k N g cap : Nat, k ≤ Sha.zeros l ∧ N = l + 1 + k ∧ v = .slice (some ⟨g, 0, none⟩) N cap ∧ wr.ownsRow w.heap.size 5 1 (.slice (some ⟨g, 0, none⟩) N cap) N (u8s (q ++ [128] ++ List.replicate k 0)) ∧ Below w.heap.size w wr)
    (fun v _ => Sha.zeros l + l + 1 - lenV v)
  case atStart => exact ⟨0, l + 1, g, cap, Nat.zero_le _, rfl, rfl, by simpa using hown2, hb2⟩
  case round =>
    clear hown2 hb2
    obtain ⟨k, N, g, cap, hk, hN, rfl, hown, hbel⟩ := hrel
    have HN := Lib.hid hN
    have hz := zeros_test l k hk
    rw [← hN] at hz
    have hN2 : N ≤ 140737488354065 := by have : Sha.zeros l < 64 := Nat.mod_lt _ (by decide); omega
    clear hN
    by_cases hlt : k < Sha.zeros l
    · have hd : (((N : Int) % 64) != 56) = true := by rw [bne_iff_ne]; have := hz.2 hlt; omega
      clear hz
      go_upto_region 4 with (fail)
      repeat ((fail_if_success (with_reducible show wpList _ _ _ (⟨some 18, _, _, _, _, _⟩ :: _) _ _)); first | go_values | go_skip | go_guarded | go_step | go_upon | go_back | go_simp)
      with_reducible refine append_arg rfl (.tmp 16) (.tmp 17) rfl w.heap.size (.slice (some ⟨g, 0, none⟩) N cap) N _ (some ⟨wr.heap.size, 0, none⟩) 1 [0] (hown.alloc _) (arg_new rfl 5 (0, 0) [0] 1 (by decide) (by decide) (by decide)) ?s1 ?s2 ?s3 ?s4 ?_
      case s1 => rfl
      case s2 => rfl
      case s3 => simp; omega
      case s4 => have := hbel.size; simp; omega
      intro v2 w2 hown2 hgr2
      have hb2 : Below w.heap.size w w2 := (hbel.alloc hbel.size _).grown hgr2 (by have := hbel.size; simp; omega) (own_u8_ge hown)
      rw [← u8s_append, List.append_assoc, ← List.replicate_succ'] at hown2
      obtain ⟨g2, cap2, rfl⟩ := own_form hown2 (by simp)
      clear hgr2 hown hbel hd
      go_frame
      go_wp2
      go_roundw
      case rel => exact ⟨k + 1, N + 1, g2, cap2, by omega, by have := HN.out; omega, rfl, hown2, hb2⟩
      case measure => simp [lenV]; have := HN.out; omega
    · have hd : (((N : Int) % 64) != 56) = false := by rw [bne_eq_false_iff_eq]; have := hz.1 (by omega); omega
      have HM : Hid (N = l + 1 + Sha.zeros l) := by have := HN.out; unfold Hid; omega
      have hkz : k = Sha.zeros l := by omega
      rw [hkz] at hown
      clear hz hlt hk hkz HN
      obtain ⟨M, rfl⟩ : ∃ M, M = N := ⟨_, rfl⟩
      obtain ⟨wo, rfl⟩ : ∃ wo : World, wo = wr := ⟨_, rfl⟩
      have hl8 : (l : Int) * 8 < 18446744073709551616 := by omega
      go_wp2_with fail
      clear hd
      go_loopw [3, 5] (fun v i wr => ∃ j g cap : Nat, j ≤ 8 ∧ i = .int .i64 (7 - (j : Int)) ∧ v = .slice (some ⟨g, 0, none⟩) (M + j) cap ∧ wr.ownsRow w.heap.size 5 1 (.slice (some ⟨g, 0, none⟩) (M + j) cap) (M + j) (u8s (q ++ [128] ++ List.replicate (Sha.zeros l) 0 ++ (Sha.be (8 * l) 8).take j)) ∧ Below w.heap.size w wr)
        (fun _ i _ => (intOf i + 1).toNat)
      case atStart => exact ⟨0, g, cap, Nat.zero_le _, rfl, rfl, by simpa using hown, hbel⟩
      case round =>
        clear hown hbel
        obtain ⟨j, g, cap, hj, rfl, rfl, hown, hbel⟩ := hrel
        obtain rfl | rfl | rfl | rfl | rfl | rfl | rfl | rfl | rfl : j = 0 ∨ j = 1 ∨ j = 2 ∨ j = 3 ∨ j = 4 ∨ j = 5 ∨ j = 6 ∨ j = 7 ∨ j = 8 := by omega
        · rw [show ((7 : Int) - ((0 : Nat) : Int)) = 7 from rfl]
          have hd : decide ((0 : Int) ≤ 7) = true := by decide
          obtain ⟨x, hx⟩ : ∃ x : Nat, 8 * l / 72057594037927936 % 256 = x := ⟨_, rfl⟩
          have hx256 : x < 256 := by omega
          have hxi : (l : Int) * 8 / 72057594037927936 = (x : Int) := by omega
          have Hx : Hid ((Sha.be (8 * l) 8).take 1 = (Sha.be (8 * l) 8).take 0 ++ [x]) := by
            unfold Hid; rw [← hx, Sha.be8, Sha.be4, Sha.be4]; simp [Nat.div_div_eq_div_mul]
          clear hx
          go_upto_region 9 with (fail)
          repeat ((fail_if_success (with_reducible show wpList _ _ _ (⟨some 35, _, _, _, _, _⟩ :: _) _ _)); first | go_values | go_skip | go_guarded | go_step | go_upon | go_back | go_simp)
          (try simp only [hxi])
          with_reducible refine append_arg rfl (.tmp 27) (.tmp 34) rfl w.heap.size (.slice (some ⟨g, 0, none⟩) (M + 0) cap) (M + 0) _ (some ⟨wr.heap.size, 0, none⟩) 1 [x] (hown.alloc _) (arg_new rfl 5 (0, 0) [x] 1 (by simpa using hx256) (by simp) (by decide)) ?s1 ?s2 ?s3 ?s4 ?_
          case s1 => rfl
          case s2 => rfl
          case s3 => simp; omega
          case s4 => have := hbel.size; simp; omega
          intro v2 w2 hown2 hgr2
          have hb2 : Below w.heap.size w w2 := (hbel.alloc hbel.size _).grown hgr2 (by have := hbel.size; simp; omega) (own_u8_ge hown)
          rw [← u8s_append, List.append_assoc, ← Hx.out] at hown2
          obtain ⟨g2, cap2, rfl⟩ := own_form hown2 (by simp)
          clear hgr2 hown hbel Hx hxi
          go_frame
          go_wp2
          go_roundw
          case rel => exact ⟨1, g2, cap2, by omega, rfl, rfl, hown2, hb2⟩
          case measure => simp [intOf]
        · rw [show ((7 : Int) - ((1 : Nat) : Int)) = 6 from rfl]
          have hd : decide ((0 : Int) ≤ 6) = true := by decide
          obtain ⟨x, hx⟩ : ∃ x : Nat, 8 * l / 281474976710656 % 256 = x := ⟨_, rfl⟩
          have hx256 : x < 256 := by omega
          have hxi : (l : Int) * 8 / 281474976710656 = (x : Int) := by omega
          have Hx : Hid ((Sha.be (8 * l) 8).take 2 = (Sha.be (8 * l) 8).take 1 ++ [x]) := by
            unfold Hid; rw [← hx, Sha.be8, Sha.be4, Sha.be4]; simp [Nat.div_div_eq_div_mul]
          clear hx
          go_upto_region 9 with (fail)
          repeat ((fail_if_success (with_reducible show wpList _ _ _ (⟨some 35, _, _, _, _, _⟩ :: _) _ _)); first | go_values | go_skip | go_guarded | go_step | go_upon | go_back | go_simp)
          (try simp only [hxi])
          with_reducible refine append_arg rfl (.tmp 27) (.tmp 34) rfl w.heap.size (.slice (some ⟨g, 0, none⟩) (M + 1) cap) (M + 1) _ (some ⟨wr.heap.size, 0, none⟩) 1 [x] (hown.alloc _) (arg_new rfl 5 (0, 0) [x] 1 (by simpa using hx256) (by simp) (by decide)) ?s1 ?s2 ?s3 ?s4 ?_
          case s1 => rfl
          case s2 => rfl
          case s3 => simp; omega
          case s4 => have := hbel.size; simp; omega
          intro v2 w2 hown2 hgr2
          have hb2 : Below w.heap.size w w2 := (hbel.alloc hbel.size _).grown hgr2 (by have := hbel.size; simp; omega) (own_u8_ge hown)
          rw [← u8s_append, List.append_assoc, ← Hx.out] at hown2
          obtain ⟨g2, cap2, rfl⟩ := own_form hown2 (by simp)
          clear hgr2 hown hbel Hx hxi
          go_frame
          go_wp2
          go_roundw
          case rel => exact ⟨2, g2, cap2, by omega, rfl, rfl, hown2, hb2⟩
          case measure => simp [intOf]
        · rw [show ((7 : Int) - ((2 : Nat) : Int)) = 5 from rfl]
          have hd : decide ((0 : Int) ≤ 5) = true := by decide
          obtain ⟨x, hx⟩ : ∃ x : Nat, 8 * l / 1099511627776 % 256 = x := ⟨_, rfl⟩
          have hx256 : x < 256 := by omega
          have hxi : (l : Int) * 8 / 1099511627776 % 256 = (x : Int) := by omega
          have Hx : Hid ((Sha.be (8 * l) 8).take 3 = (Sha.be (8 * l) 8).take 2 ++ [x]) := by
            unfold Hid; rw [← hx, Sha.be8, Sha.be4, Sha.be4]; simp [Nat.div_div_eq_div_mul]
          clear hx
          go_upto_region 9 with (fail)
          repeat ((fail_if_success (with_reducible show wpList _ _ _ (⟨some 35, _, _, _, _, _⟩ :: _) _ _)); first | go_values | go_skip | go_guarded | go_step | go_upon | go_back | go_simp)
          (try simp only [hxi])
          with_reducible refine append_arg rfl (.tmp 27) (.tmp 34) rfl w.heap.size (.slice (some ⟨g, 0, none⟩) (M + 2) cap) (M + 2) _ (some ⟨wr.heap.size, 0, none⟩) 1 [x] (hown.alloc _) (arg_new rfl 5 (0, 0) [x] 1 (by simpa using hx256) (by simp) (by decide)) ?s1 ?s2 ?s3 ?s4 ?_
          case s1 => rfl
          case s2 => rfl
          case s3 => simp; omega
          case s4 => have := hbel.size; simp; omega
          intro v2 w2 hown2 hgr2
          have hb2 : Below w.heap.size w w2 := (hbel.alloc hbel.size _).grown hgr2 (by have := hbel.size; simp; omega) (own_u8_ge hown)
          rw [← u8s_append, List.append_assoc, ← Hx.out] at hown2
          obtain ⟨g2, cap2, rfl⟩ := own_form hown2 (by simp)
          clear hgr2 hown hbel Hx hxi
          go_frame
          go_wp2
          go_roundw
          case rel => exact ⟨3, g2, cap2, by omega, rfl, rfl, hown2, hb2⟩
          case measure => simp [intOf]
        · rw [show ((7 : Int) - ((3 : Nat) : Int)) = 4 from rfl]
          have hd : decide ((0 : Int) ≤ 4) = true := by decide
          obtain ⟨x, hx⟩ : ∃ x : Nat, 8 * l / 4294967296 % 256 = x := ⟨_, rfl⟩
          have hx256 : x < 256 := by omega
          have hxi : (l : Int) * 8 / 4294967296 % 256 = (x : Int) := by omega
          have Hx : Hid ((Sha.be (8 * l) 8).take 4 = (Sha.be (8 * l) 8).take 3 ++ [x]) := by
            unfold Hid; rw [← hx, Sha.be8, Sha.be4, Sha.be4]; simp [Nat.div_div_eq_div_mul]
          clear hx
          go_upto_region 9 with (fail)
          repeat ((fail_if_success (with_reducible show wpList _ _ _ (⟨some 35, _, _, _, _, _⟩ :: _) _ _)); first | go_values | go_skip | go_guarded | go_step | go_upon | go_back | go_simp)
          (try simp only [hxi])
          with_reducible refine append_arg rfl (.tmp 27) (.tmp 34) rfl w.heap.size (.slice (some ⟨g, 0, none⟩) (M + 3) cap) (M + 3) _ (some ⟨wr.heap.size, 0, none⟩) 1 [x] (hown.alloc _) (arg_new rfl 5 (0, 0) [x] 1 (by simpa using hx256) (by simp) (by decide)) ?s1 ?s2 ?s3 ?s4 ?_
          case s1 => rfl
          case s2 => rfl
          case s3 => simp; omega
          case s4 => have := hbel.size; simp; omega
          intro v2 w2 hown2 hgr2
          have hb2 : Below w.heap.size w w2 := (hbel.alloc hbel.size _).grown hgr2 (by have := hbel.size; simp; omega) (own_u8_ge hown)
          rw [← u8s_append, List.append_assoc, ← Hx.out] at hown2
          obtain ⟨g2, cap2, rfl⟩ := own_form hown2 (by simp)
          clear hgr2 hown hbel Hx hxi
          go_frame
          go_wp2
          go_roundw
          case rel => exact ⟨4, g2, cap2, by omega, rfl, rfl, hown2, hb2⟩
          case measure => simp [intOf]
        · rw [show ((7 : Int) - ((4 : Nat) : Int)) = 3 from rfl]
          have hd : decide ((0 : Int) ≤ 3) = true := by decide
          obtain ⟨x, hx⟩ : ∃ x : Nat, 8 * l / 16777216 % 256 = x := ⟨_, rfl⟩
          have hx256 : x < 256 := by omega
          have hxi : (l : Int) * 8 / 16777216 % 256 = (x : Int) := by omega
          have Hx : Hid ((Sha.be (8 * l) 8).take 5 = (Sha.be (8 * l) 8).take 4 ++ [x]) := by
            unfold Hid; rw [← hx, Sha.be8, Sha.be4, Sha.be4]; simp [Nat.div_div_eq_div_mul]
          clear hx
          go_upto_region 9 with (fail)
          repeat ((fail_if_success (with_reducible show wpList _ _ _ (⟨some 35, _, _, _, _, _⟩ :: _) _ _)); first | go_values | go_skip | go_guarded | go_step | go_upon | go_back | go_simp)
          (try simp only [hxi])
          with_reducible refine append_arg rfl (.tmp 27) (.tmp 34) rfl w.heap.size (.slice (some ⟨g, 0, none⟩) (M + 4) cap) (M + 4) _ (some ⟨wr.heap.size, 0, none⟩) 1 [x] (hown.alloc _) (arg_new rfl 5 (0, 0) [x] 1 (by simpa using hx256) (by simp) (by decide)) ?s1 ?s2 ?s3 ?s4 ?_
          case s1 => rfl
          case s2 => rfl
          case s3 => simp; omega
          case s4 => have := hbel.size; simp; omega
          intro v2 w2 hown2 hgr2
          have hb2 : Below w.heap.size w w2 := (hbel.alloc hbel.size _).grown hgr2 (by have := hbel.size; simp; omega) (own_u8_ge hown)
          rw [← u8s_append, List.append_assoc, ← Hx.out] at hown2
          obtain ⟨g2, cap2, rfl⟩ := own_form hown2 (by simp)
          clear hgr2 hown hbel Hx hxi
          go_frame
          go_wp2
          go_roundw
          case rel => exact ⟨5, g2, cap2, by omega, rfl, rfl, hown2, hb2⟩
          case measure => simp [intOf]
        · rw [show ((7 : Int) - ((5 : Nat) : Int)) = 2 from rfl]
          have hd : decide ((0 : Int) ≤ 2) = true := by decide
          obtain ⟨x, hx⟩ : ∃ x : Nat, 8 * l / 65536 % 256 = x := ⟨_, rfl⟩
          have hx256 : x < 256 := by omega
          have hxi : (l : Int) * 8 / 65536 % 256 = (x : Int) := by omega
          have Hx : Hid ((Sha.be (8 * l) 8).take 6 = (Sha.be (8 * l) 8).take 5 ++ [x]) := by
            unfold Hid; rw [← hx, Sha.be8, Sha.be4, Sha.be4]; simp [Nat.div_div_eq_div_mul]
          clear hx
          go_upto_region 9 with (fail)
          repeat ((fail_if_success (with_reducible show wpList _ _ _ (⟨some 35, _, _, _, _, _⟩ :: _) _ _)); first | go_values | go_skip | go_guarded | go_step | go_upon | go_back | go_simp)
          (try simp only [hxi])
          with_reducible refine append_arg rfl (.tmp 27) (.tmp 34) rfl w.heap.size (.slice (some ⟨g, 0, none⟩) (M + 5) cap) (M + 5) _ (some ⟨wr.heap.size, 0, none⟩) 1 [x] (hown.alloc _) (arg_new rfl 5 (0, 0) [x] 1 (by simpa using hx256) (by simp) (by decide)) ?s1 ?s2 ?s3 ?s4 ?_
          case s1 => rfl
          case s2 => rfl
          case s3 => simp; omega
          case s4 => have := hbel.size; simp; omega
          intro v2 w2 hown2 hgr2
          have hb2 : Below w.heap.size w w2 := (hbel.alloc hbel.size _).grown hgr2 (by have := hbel.size; simp; omega) (own_u8_ge hown)
          rw [← u8s_append, List.append_assoc, ← Hx.out] at hown2
          obtain ⟨g2, cap2, rfl⟩ := own_form hown2 (by simp)
          clear hgr2 hown hbel Hx hxi
          go_frame
          go_wp2
          go_roundw
          case rel => exact ⟨6, g2, cap2, by omega, rfl, rfl, hown2, hb2⟩
          case measure => simp [intOf]
        · rw [show ((7 : Int) - ((6 : Nat) : Int)) = 1 from rfl]
          have hd : decide ((0 : Int) ≤ 1) = true := by decide
          obtain ⟨x, hx⟩ : ∃ x : Nat, 8 * l / 256 % 256 = x := ⟨_, rfl⟩
          have hx256 : x < 256 := by omega
          have hxi : (l : Int) * 8 / 256 % 256 = (x : Int) := by omega
          have Hx : Hid ((Sha.be (8 * l) 8).take 7 = (Sha.be (8 * l) 8).take 6 ++ [x]) := by
            unfold Hid; rw [← hx, Sha.be8, Sha.be4, Sha.be4]; simp [Nat.div_div_eq_div_mul]
          clear hx
          go_upto_region 9 with (fail)
          repeat ((fail_if_success (with_reducible show wpList _ _ _ (⟨some 35, _, _, _, _, _⟩ :: _) _ _)); first | go_values | go_skip | go_guarded | go_step | go_upon | go_back | go_simp)
          (try simp only [hxi])
          with_reducible refine append_arg rfl (.tmp 27) (.tmp 34) rfl w.heap.size (.slice (some ⟨g, 0, none⟩) (M + 6) cap) (M + 6) _ (some ⟨wr.heap.size, 0, none⟩) 1 [x] (hown.alloc _) (arg_new rfl 5 (0, 0) [x] 1 (by simpa using hx256) (by simp) (by decide)) ?s1 ?s2 ?s3 ?s4 ?_
          case s1 => rfl
          case s2 => rfl
          case s3 => simp; omega
          case s4 => have := hbel.size; simp; omega
          intro v2 w2 hown2 hgr2
          have hb2 : Below w.heap.size w w2 := (hbel.alloc hbel.size _).grown hgr2 (by have := hbel.size; simp; omega) (own_u8_ge hown)
          rw [← u8s_append, List.append_assoc, ← Hx.out] at hown2
          obtain ⟨g2, cap2, rfl⟩ := own_form hown2 (by simp)
          clear hgr2 hown hbel Hx hxi
          go_frame
          go_wp2
          go_roundw
          case rel => exact ⟨7, g2, cap2, by omega, rfl, rfl, hown2, hb2⟩
          case measure => simp [intOf]
        · rw [show ((7 : Int) - ((7 : Nat) : Int)) = 0 from rfl]
          have hd : decide ((0 : Int) ≤ 0) = true := by decide
          obtain ⟨x, hx⟩ : ∃ x : Nat, 8 * l / 1 % 256 = x := ⟨_, rfl⟩
          have hx256 : x < 256 := by omega
          have hxi : (l : Int) * 8 % 256 = (x : Int) := by omega
          have Hx : Hid ((Sha.be (8 * l) 8).take 8 = (Sha.be (8 * l) 8).take 7 ++ [x]) := by
            unfold Hid; rw [← hx, Sha.be8, Sha.be4, Sha.be4]; simp [Nat.div_div_eq_div_mul]
          clear hx
          go_upto_region 9 with (fail)
          repeat ((fail_if_success (with_reducible show wpList _ _ _ (⟨some 35, _, _, _, _, _⟩ :: _) _ _)); first | go_values | go_skip | go_guarded | go_step | go_upon | go_back | go_simp)
          (try simp only [hxi])
          with_reducible refine append_arg rfl (.tmp 27) (.tmp 34) rfl w.heap.size (.slice (some ⟨g, 0, none⟩) (M + 7) cap) (M + 7) _ (some ⟨wr.heap.size, 0, none⟩) 1 [x] (hown.alloc _) (arg_new rfl 5 (0, 0) [x] 1 (by simpa using hx256) (by simp) (by decide)) ?s1 ?s2 ?s3 ?s4 ?_
          case s1 => rfl
          case s2 => rfl
          case s3 => simp; omega
          case s4 => have := hbel.size; simp; omega
          intro v2 w2 hown2 hgr2
          have hb2 : Below w.heap.size w w2 := (hbel.alloc hbel.size _).grown hgr2 (by have := hbel.size; simp; omega) (own_u8_ge hown)
          rw [← u8s_append, List.append_assoc, ← Hx.out] at hown2
          obtain ⟨g2, cap2, rfl⟩ := own_form hown2 (by simp)
          clear hgr2 hown hbel Hx hxi
          go_frame
          go_wp2
          go_roundw
          case rel => exact ⟨8, g2, cap2, by omega, rfl, rfl, hown2, hb2⟩
          case measure => simp [intOf]
        · rw [show ((7 : Int) - ((8 : Nat) : Int)) = -1 from rfl]
          have hd : decide ((0 : Int) ≤ -1) = false := by decide
          go_wp2
          go_ret
          have e : Sha.padded q = q ++ [128] ++ List.replicate (Sha.zeros l) 0 ++ (Sha.be (8 * l) 8).take 8 := by
            unfold Sha.padded
            rw [Hl.out, Nat.mod_eq_of_lt (by omega), List.take_of_length_le (by rw [Sha.be_length]; exact Nat.le_refl _)]
          have en : (Sha.padded q).length = M + 8 := by
            rw [e, HM.out]; simp [Sha.be_length, Hl.out]; omega
          refine ⟨_, rfl, ?_, hbel⟩
          rw [en, e]
          exact hown
end Go.Proofs.YtkfhfokeoieajaaDoor
