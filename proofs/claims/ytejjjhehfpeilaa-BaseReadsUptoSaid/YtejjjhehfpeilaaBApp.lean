/-
  The contract of appendSigns, where there is room.
-/
import Derived.Test.YtejjjhehfpeilaaBIdx
import Derived.StillTailTactics
import Derived.Deep.AppendLies
import Derived.Deep.Cut
namespace Go.Proofs.Ytejjjhehfpeilaa
open Go.RowKit

section
variable {ops : Array Oper} {rest : List Oper} {o : Oper} {a : Act} {Q : Exit → Act → World → Prop} {w : World}
/-- append of one byte onto a block that is known whole, where there is room. -/
theorem append_room (hgd : o.guard = none) (s x : Operand)
    (ho : o.op = .call { callee := .builtin .append, args := #[s, x], argTypes := #[22, 22] })
    (g n cap h : Nat) (t : TypeId) (cs : List Value) (v : Value) (hL : Lies w g t cs) (hv : w.cell? ⟨h, 0, none⟩ = some v) (h1 : v.oneCell' = true)
    (hs : a.eval s = .slice (some ⟨g, 0, none⟩) n cap) (hx : a.eval x = .slice (some ⟨h, 0, none⟩) 1 1) (hroom : n + 1 ≤ cap) (hcs : cs.length = cap)
    (hK : ∀ w', Lies w' g t (cs.set n v) → w.grownBy w' (some g) → wpList Try.prog ops Q rest (a.put o.dst (.slice (some ⟨g, 0, none⟩) (n + 1) cap)) w') : wpList Try.prog ops Q (o :: rest) a w := by
  refine wpList_plain hgd fun K hK' => ?_
  obtain ⟨i0, hi, hz0, hz1, hz2⟩ := info_parts info5b
  have hrun := run_append_room_cells (P := Try.prog) w 22 o.type 5 i0 Try.underlying22 hi g 0 n cap ⟨h, 0, none⟩ 1 1 [v] (by simp [hz1])
    (fun j u hj => by
      have : j = 0 := by
        have := (List.getElem?_eq_some_iff.1 hj).1
        simp at this; omega
      subst this
      simp at hj
      subst hj
      exact hv)
    (by simpa using h1) hroom
    (fun j hj => by
      have hj0 : j = 0 := by simp at hj; exact hj
      subst hj0
      rw [hz1, hL.cell, List.getElem?_eq_getElem (by omega)]; rfl)
    (fun j hj => hL.free _)
  rw [hz1] at hrun
  unfold Oper.wp
  simp [execOp, ho, resolve, invoke, builtin, hs, hx, hrun, Result.andThen]
  refine hK' _ _ (hK _ ?_ ?_)
  · simp only [World.setCells]
    exact hL.put n v
  · refine ⟨rfl, rfl, rfl, by simp [World.setCells], fun k _ hne => ?_⟩
    simp only [World.setCells]
    exact Below.heap_setCell w _ v k (fun e => hne (by rw [e]))
end

theorem signs_get : ∀ n, n < 64 → (signsB.data.toList[n]?).map (fun u : UInt8 => u.toNat) = some (B64.sign n) := by decide +kernel
theorem sign_run (n : Nat) (h : n < 64) (w : World) : (Instr.index 9 (.string signsB) (.int .u32 (n : Int))).run Try.prog w = .ok (.int .u8 (B64.sign n : Nat)) w := by
  have hs : signsB.size = 64 := rfl
  rw [run_index_string w 9 signsB .u32 (n : Int) Try.underlying9, dif_pos ⟨by omega, by rw [hs]; omega⟩]
  have hg := signs_get n h
  have hn : n < signsB.data.toList.length := h
  rw [List.getElem?_eq_getElem hn] at hg
  have hg' : (signsB.data.toList[n]).toNat = B64.sign n := by simpa using hg
  rw [← hg']
  rfl
theorem index_at {ops : Array Oper} {rest : List Oper} {o : Oper} {a : Act} {Q : Exit → Act → World → Prop} {w : World} (hgd : o.guard = none) (x : Operand) (ho : o.op = .index 9 (.const (.string signsB)) x)
    (n : Nat) (hn : n < 64) (hx : a.eval x = .int .u32 (n : Int)) (h : wpList Try.prog ops Q rest (a.put o.dst (.int .u8 (B64.sign n : Nat))) w) : wpList Try.prog ops Q (o :: rest) a w := by
  refine wpList_plain hgd fun K hK => ?_
  have hr := sign_run n hn w
  have hc : a.eval (.const (.string signsB)) = .string signsB := rfl
  unfold Oper.wp
  rw [execOp, ho]
  simp [hc, hx, hr, Result.andThen]
  exact hK _ _ h

theorem and63 (J k : Nat) (hJ : J < 16777216) (hk : k < 4) : bits .and .u32 ((J : Int) / 2 ^ (24 - 6 * (k + 1))) 63 = ((J / 2 ^ (18 - 6 * k) % 64 : Nat) : Int) := by
  have e : ((J : Int) / 2 ^ (24 - 6 * (k + 1))) = ((J / 2 ^ (18 - 6 * k) : Nat) : Int) := by
    rw [show 24 - 6 * (k + 1) = 18 - 6 * k from by omega]
    simp
  have h1 : J / 2 ^ (18 - 6 * k) < 4294967296 := Nat.lt_of_le_of_lt (Nat.div_le_self _ _) (by omega)
  rw [e, show (63 : Int) = ((63 : Nat) : Int) from rfl, u32_and_nat _ _ h1 (by decide), show (63 : Nat) = 2 ^ 6 - 1 from rfl, Nat.and_two_pow_sub_one_eq_mod]
theorem sg_take (g : List Nat) (k : Nat) (hk : k < B64.sf g.length) : (B64.sg g).take (k + 1) = (B64.sg g).take k ++ [B64.sign (B64.jb g / 2 ^ (18 - 6 * k) % 64)] := by
  have hl : k < (B64.sg g).length := by rw [B64.sg_length]; exact hk
  rw [List.take_succ_eq_append_getElem hl]
  congr 2
  simp [B64.sg]
theorem splice_set (C T : List Nat) (n x : Nat) (h : n + T.length < C.length) : (splice C n T).set (n + T.length) x = splice C n (T ++ [x]) := by
  unfold splice
  have h1 : (C.take n).length = n := by rw [List.length_take]; omega
  rw [List.set_append_right _ _ (by omega), h1, List.set_append_right _ _ (by omega), show n + T.length - n - T.length = 0 from by omega, List.append_assoc]
  have e : C.drop (n + T.length) = C[n + T.length] :: C.drop (n + T.length + 1) := List.drop_eq_getElem_cons h
  rw [e, List.set_cons_zero]
  simp [Nat.add_assoc]
theorem splice_length (C T : List Nat) (n : Nat) (h : n + T.length ≤ C.length) : (splice C n T).length = C.length := by
  unfold splice
  rw [List.length_append, List.length_append, List.length_take, List.length_drop]; omega

set_option maxHeartbeats 1000000 in
set_option maxRecDepth 100000 in
theorem appendSigns_any (C g : List Nat) (B n cap : Nat) (A : Option Addr) (c : Nat) (w : World) (hL : Lies w B 5 (u8s C)) (hg : ArgIs w A c g) (h3 : g.length ≤ 3) (hC : C.length = cap) (hroom : n + B64.sf g.length ≤ cap) :
    Calls Try.prog 16 #[.slice (some ⟨B, 0, none⟩) n cap, .slice A g.length c] w fun e w' => e = .returned (.slice (some ⟨B, 0, none⟩) (n + B64.sf g.length) cap) ∧ Lies w' B 5 (u8s (splice C n (B64.sg g))) ∧ w.grownBy w' (some B) := by
  obtain ⟨l, hl⟩ : ∃ l, g.length = l := ⟨_, rfl⟩
  obtain ⟨m, hm⟩ : ∃ m, B64.sf g.length = m := ⟨_, rfl⟩
  have hm4 : m ≤ 4 := by rw [← hm]; unfold B64.sf; omega
  have hJ := joinBytes_any g A c w hg h3
  have hS := signsFor_any g.length (by omega) w
  have hjlt := B64.jb_lt g hg.2.2.1
  have Hm := Lib.hid hm
  have HC := Lib.hid hC
  rw [hm] at hS hroom ⊢
  rw [hl] at hJ hS ⊢
  clear hm hl hg hC
  go_enter Try.func16, Try.ntmps16
  go_wp2_with (first | (go_at_call 22; refine hJ.mono ?_; rintro e w' ⟨rfl, rfl⟩) | (go_at_call 15; refine hS.mono ?_; rintro e w' ⟨rfl, rfl⟩))
  clear hJ hS
  go_loopw [0, 12] (fun v i wr => ∃ k : Nat, k ≤ m ∧ i = .int .i64 k ∧ v = .slice (some ⟨B, 0, none⟩) (n + k) cap ∧ Lies wr B 5 (u8s (splice C n ((B64.sg g).take k))) ∧ w.grownBy wr (some B)) (fun _ i _ => m - (intOf i).toNat)
  case atStart => exact ⟨0, Nat.zero_le _, rfl, rfl, by simpa [splice] using hL, World.grownBy.refl w _⟩
  case round =>
    obtain ⟨k, hk, rfl, rfl, hL1, hgr⟩ := hrel
    by_cases hlt : k < m
    · have HT := Lib.hid (sg_take g k (by rw [Hm.out]; exact hlt))
      have hx64 : B64.jb g / 2 ^ (18 - 6 * k) % 64 < 64 := Nat.mod_lt _ (by decide)
      have Hb := Lib.hid (and63 (B64.jb g) k hjlt (by omega))
      have hxs := B64.sign_lt (B64.jb g / 2 ^ (18 - 6 * k) % 64)
      obtain ⟨x, ex⟩ : ∃ x, B64.jb g / 2 ^ (18 - 6 * k) % 64 = x := ⟨_, rfl⟩
      rw [ex] at HT hx64 Hb hxs
      clear ex
      go_upto_region 5 with (fail)
      repeat ((fail_if_success (with_reducible show wpList _ _ _ (⟨some 23, _, _, _, _, _⟩ :: _) _ _)); first | go_values | go_skip | go_guarded | go_step | go_upon | go_back | go_simp)
      with_reducible refine index_at rfl (.tmp 22) rfl x hx64 ?sx ?_
      case sx => exact val_u32 Hb.out
      go_frame
      repeat ((fail_if_success (with_reducible show wpList _ _ _ (⟨some 25, _, _, _, _, _⟩ :: _) _ _)); first | go_values | go_skip | go_guarded | go_step | go_upon | go_back | go_simp)
      with_reducible refine append_room rfl (.tmp 15) (.tmp 24) rfl B (n + k) cap wr.heap.size 5 _ (.int .u8 (B64.sign x : Nat)) (hL1.alloc _) ?s1 ?s2 ?s3 ?s4 ?s5 ?s6 ?_
      case s1 => simp
      case s2 => rfl
      case s3 => rfl
      case s4 => rfl
      case s5 => omega
      case s6 => rw [u8s_length, splice_length _ _ _ (by rw [HC.out, List.length_take, B64.sg_length, Hm.out]; omega), HC.out]
      intro w2 hL2 hgr2
      have hgr3 : w.grownBy w2 (some B) := by
        have hB := hL1.lt
        refine ⟨hgr2.os.trans hgr.os, hgr2.tape.trans hgr.tape, hgr2.output.trans hgr.output, Nat.le_trans hgr.size (Nat.le_trans (by simp) hgr2.size), fun j hj hne => ?_⟩
        rw [hgr2.block j (by have := hgr.size; simp; omega) hne, Below.heap_alloc wr _ j (by have := hgr.size; omega), hgr.block j hj hne]
      rw [u8s_set] at hL2
      have hlen : ((B64.sg g).take k).length = k := by rw [List.length_take, B64.sg_length, Hm.out]; omega
      have e2 := splice_set C ((B64.sg g).take k) n (B64.sign x) (by rw [hlen, HC.out]; omega)
      rw [hlen, ← HT.out] at e2
      rw [e2] at hL2
      clear e2 hlen hL1 hgr hgr2
      go_frame
      go_wp2
      go_roundw
      case rel => exact ⟨k + 1, by omega, by go_num, by rw [Nat.add_assoc], hL2, hgr3⟩
      case measure => simp [intOf]; omega
    · obtain rfl : k = m := by omega
      have hd : decide ((k : Int) < (k : Int)) = false := by simp
      rw [List.take_of_length_le (by rw [B64.sg_length, Hm.out]; exact Nat.le_refl _)] at hL1
      go_wp2
      go_ret
      exact ⟨rfl, hL1, hgr⟩
end Go.Proofs.Ytejjjhehfpeilaa
