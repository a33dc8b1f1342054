/-
  lower: small letters in place of capital ones.
-/
import Derived.Test.YtnbaajdcakjlmaaDoorMA
import Derived.Test.YtnbaajdcakjlmaaDoorQM
import Derived.Lib.ConvBytes
import Derived.Deep.QuietTactic
namespace Go.Proofs.YtnbaajdcakjlmaaDoor
open Go.RowKit

theorem conv_new (s : ByteArray) (W : World) (hs : s.size ≤ 140737488355328) : ∃ c w', (convert 9 85 (.string s)).run Tryd.prog W = .ok (.slice (some ⟨W.heap.size, 0, none⟩) s.size c) w' ∧ ArgIs w' (some ⟨W.heap.size, 0, none⟩) c (numsOf s) ∧ Below W.heap.size W w' ∧ (∀ j, j < s.size → w'.frozen? ⟨W.heap.size, j, none⟩ = false) := by
  refine ⟨_, _, Lib.run_convert_string_bytes (P := Tryd.prog) W 9 85 5 s Tryd.underlying9 Tryd.underlying85 Tryd.underlying5, ?_, ⟨rfl, rfl, rfl, by rw [Lib.bytesWorld_size]; omega, fun j hj => Lib.bytesWorld_at_old W _ s j hj⟩, fun j hj => ?_⟩
  · have h1 := grownCap_ge W s.size 0 5
    have h2 := grownCap_le_maxLen W s.size 0 5 (by unfold maxLen; omega)
    unfold maxLen at h2
    refine ⟨by rw [numsOf_length]; exact h1, by omega, numsOf_lt s, fun _ => ⟨W.heap.size, 0, rfl, by rw [Lib.bytesWorld_size]; omega, fun j x hj => ?_⟩⟩
    have hjl : j < s.size := by
      have := (List.getElem?_eq_some_iff.1 hj).1
      rwa [numsOf_length] at this
    refine ⟨numsOf_lt s x (List.mem_of_getElem? hj), ?_⟩
    rw [Nat.zero_add, Lib.bytesWorld_cell W _ s j hjl]
    congr 2
    have h' : j < s.data.toList.length := by simpa using hjl
    simp only [numsOf, List.getElem?_map, List.getElem?_eq_getElem h', Option.map_some, Option.some.injEq] at hj
    rw [← hj, List.getD_eq_getElem?_getD, List.getElem?_eq_getElem h']
    rfl
  · unfold World.frozen?
    simp only [Lib.bytesWorld_at_new, Lib.bytesCells, Array.size_append, Array.size_map]
    have : s.data.size = s.size := rfl
    simp
    omega
section
variable {ops : Array Oper} {rest : List Oper} {o : Oper} {a : Act} {Q : Exit → Act → World → Prop} {w : World}
theorem conv_here_new (hgd : o.guard = none) (x : Operand) (ho : o.op = .convert 9 85 x) (X : ByteArray) (hx : a.eval x = .string X) (hs : X.size ≤ 140737488355328)
    (hK : ∀ w' c, ArgIs w' (some ⟨w.heap.size, 0, none⟩) c (numsOf X) → Below w.heap.size w w' → (∀ j, j < X.size → w'.frozen? ⟨w.heap.size, j, none⟩ = false) → wpList Tryd.prog ops Q rest (a.put o.dst (.slice (some ⟨w.heap.size, 0, none⟩) X.size c)) w') : wpList Tryd.prog ops Q (o :: rest) a w := by
  refine wpList_plain hgd fun K hK' => ?_
  obtain ⟨c, w', hr, harg, hb, hf⟩ := conv_new X w hs
  unfold Oper.wp
  rw [execOp, ho]
  simp [hx, hr, Result.andThen]
  exact hK' _ _ (hK _ _ harg hb hf)
end
theorem arg_turned {w : World} {g c a v : Nat} {q : List Nat} (h : ArgIs w (some ⟨g, 0, none⟩) c q) (ha : a < q.length) (hv : v < 256) : ArgIs (w.setCell ⟨g, a, none⟩ (.int .u8 (v : Int))) (some ⟨g, 0, none⟩) c (q.set a v) := by
  obtain ⟨h1, h2, h3, h4⟩ := h
  obtain ⟨b, off, e, hb, hby⟩ := h4 (by omega)
  injection e with e
  injection e with e1 e2
  subst e1 e2
  refine ⟨by rw [List.length_set]; exact h1, h2, fun x hx => ?_, fun _ => ⟨g, 0, rfl, by simpa [World.setCell] using hb, fun j x hj => ?_⟩⟩
  · rcases List.mem_or_eq_of_mem_set hx with hx | rfl
    · exact h3 x hx
    · exact hv
  · rw [List.getElem?_set] at hj
    by_cases hja : a = j
    · subst hja
      rw [if_pos rfl, if_pos ha] at hj
      injection hj with hj
      subst hj
      refine ⟨hv, ?_⟩
      rw [Nat.zero_add]
      obtain ⟨_, hc⟩ := hby a (q[a]) (List.getElem?_eq_getElem ha)
      rw [Nat.zero_add] at hc
      exact World.cell?_setCell_same' _ _ _ (by rw [hc]; rfl)
    · rw [if_neg hja] at hj
      obtain ⟨hx, hc⟩ := hby j x hj
      refine ⟨hx, ?_⟩
      refine (World.cell?_setCell_other (h := fun e => ?_) ..).trans hc
      injection e with _ e _
      omega

/-- The first k bytes are small letters. -/
def lowTo (q : List Nat) (k : Nat) : List Nat := (q.take k).map Mq.lowB ++ q.drop k
theorem lowTo_length (q : List Nat) (k : Nat) : (lowTo q k).length = q.length := by unfold lowTo; simp; omega
theorem lowTo_zero (q : List Nat) : lowTo q 0 = q := by simp [lowTo]
theorem lowTo_all {q : List Nat} {n : Nat} (h : q.length = n) : lowTo q n = q.map Mq.lowB := by unfold lowTo; rw [← h, List.take_length, List.drop_length, List.append_nil]
theorem lowTo_get {q : List Nat} {k : Nat} (h : k < q.length) : (lowTo q k)[k]? = some (q.getD k 0) := by
  unfold lowTo
  rw [List.getElem?_append_right (by simp; omega)]
  simp
  rw [Nat.min_eq_left (by omega), Nat.sub_self, Nat.add_zero, List.getElem?_eq_getElem h]
  rfl
theorem lowTo_next {q : List Nat} {k : Nat} (h : k < q.length) : (lowTo q k).set k (Mq.lowB (q.getD k 0)) = lowTo q (k + 1) := by
  have hg : q.getD k 0 = q[k] := by rw [List.getD_eq_getElem?_getD, List.getElem?_eq_getElem h]; rfl
  unfold lowTo
  rw [List.take_succ_eq_append_getElem h, List.map_append, List.append_assoc, List.set_append_right _ _ (by simp; omega)]
  congr 1
  rw [List.length_map, List.length_take, Nat.min_eq_left (by omega), Nat.sub_self, List.drop_eq_getElem_cons h, List.set_cons_zero, hg]
  rfl
theorem lowTo_keep {q : List Nat} {k : Nat} (h : k < q.length) (hl : Mq.lowB (q.getD k 0) = q.getD k 0) : lowTo q (k + 1) = lowTo q k := by
  rw [← lowTo_next h, hl]
  refine List.ext_getElem? fun i => ?_
  rw [List.getElem?_set]
  split
  · rename_i e
    subst e
    rw [if_pos (by rw [lowTo_length]; exact h), lowTo_get h]
  · rfl
theorem low_lt {b : Nat} (h : b < 256) : Mq.lowB b < 256 := by unfold Mq.lowB; split <;> omega

set_option maxHeartbeats 1000000 in
set_option maxRecDepth 100000 in
theorem lowerM_any (s : ByteArray) (w : World) (hs : s.size ≤ 140737488355328) :
    Calls Tryd.prog 40 #[.string s] w fun e w' => Below w.heap.size w w' ∧ e = .returned (.string (strOf ((numsOf s).map Mq.lowB))) := by
  obtain ⟨n, en⟩ : ∃ n, s.size = n := ⟨_, rfl⟩
  have hq : (numsOf s).length = n := by rw [numsOf_length, en]
  obtain ⟨q, eq⟩ : ∃ q, numsOf s = q := ⟨_, rfl⟩
  rw [eq] at hq ⊢
  have HN := Lib.hid en
  have HQ := Lib.hid hq
  have HE := Lib.hid eq
  rw [en] at hs
  clear en hq eq
  go_enter Tryd.func40, Tryd.ntmps40
  repeat ((fail_if_success (with_reducible show wpList _ _ _ (⟨some 7, _, _, _, _, _⟩ :: _) _ _)); first | go_values | go_skip | go_guarded | go_step | go_upon | go_back | go_simp)
  with_reducible refine conv_here_new rfl (.tmp 6) rfl s ?s1 ?s2 ?_
  case s1 => rfl
  case s2 => rw [HN.out]; exact hs
  intro w1 c harg hb hfr
  rw [HE.out] at harg
  rw [HN.out] at hfr ⊢
  have HA := Lib.hid harg
  have HB := Lib.hid hb
  have HF := Lib.hid hfr
  clear harg hb hfr
  go_frame
  go_wp2_with fail
  go_loopw [10] (fun i wr => ∃ k : Nat, i = .int .i64 k ∧ k ≤ n ∧ ArgIs wr (some ⟨w.heap.size, 0, none⟩) c (lowTo q k) ∧ (∀ j, j < n → wr.frozen? ⟨w.heap.size, j, none⟩ = false) ∧ Below w.heap.size w wr) (fun i _ => n - (intOf i).toNat)
  case atStart => exact ⟨0, rfl, Nat.zero_le _, by rw [lowTo_zero]; exact HA.out, HF.out, HB.out⟩
  case round =>
    obtain ⟨k, rfl, hk, harg, hfr, hb⟩ := hrel
    by_cases hlt : k < n
    · have hkq : k < q.length := by rw [HQ.out]; exact hlt
      have hc : wr.cell? ⟨w.heap.size, k, none⟩ = some (.int .u8 (q.getD k 0 : Nat)) ∧ q.getD k 0 < 256 := by
        obtain ⟨_, _, _, h4⟩ := harg
        obtain ⟨b, off, e, _, hby⟩ := h4 (by rw [lowTo_length]; omega)
        injection e with e
        injection e with e1 e2
        subst e1 e2
        have := hby k _ (lowTo_get hkq)
        rw [Nat.zero_add] at this
        exact ⟨this.2, this.1⟩
      have hf := hfr k hlt
      have HA := Lib.hid harg
      have HF := Lib.hid hfr
      have HB := Lib.hid hb
      have HK := Lib.hid hkq
      obtain ⟨b, eb⟩ : ∃ b, q.getD k 0 = b := ⟨_, rfl⟩
      rw [eb] at hc
      obtain ⟨hc, hb256⟩ := hc
      have HEB := Lib.hid eb
      clear harg hfr hb hkq eb
      by_cases hlow : 65 ≤ b ∧ b ≤ 90
      · have d1 : decide ((65 : Int) ≤ (b : Int)) = true := decide_eq_true (by omega)
        have d2 : decide ((b : Int) ≤ (90 : Int)) = true := decide_eq_true (by omega)
        have w1 : IntKind.u8.wrap ((b : Int) - 65) = (b : Int) - 65 := by unfold IntKind.wrap; simp [IntKind.bits, IntKind.signed]; omega
        have w2 : IntKind.u8.wrap ((b : Int) - 65 + 97) = ((b + 32 : Nat) : Int) := by unfold IntKind.wrap; simp [IntKind.bits, IntKind.signed]; omega
        have hl : Mq.lowB b = b + 32 := by unfold Mq.lowB; rw [if_pos hlow]
        have HR : Hid (∃ k' : Nat, Value.int .i64 ((k + 1 : Nat) : Int) = .int .i64 k' ∧ k' ≤ n ∧ ArgIs (wr.setCell ⟨w.heap.size, k, none⟩ (.int .u8 ((b + 32 : Nat) : Int))) (some ⟨w.heap.size, 0, none⟩) c (lowTo q k') ∧ (∀ j, j < n → (wr.setCell ⟨w.heap.size, k, none⟩ (.int .u8 ((b + 32 : Nat) : Int))).frozen? ⟨w.heap.size, j, none⟩ = false) ∧ Below w.heap.size w (wr.setCell ⟨w.heap.size, k, none⟩ (.int .u8 ((b + 32 : Nat) : Int)))) := by
          refine ⟨k + 1, rfl, hlt, ?_, fun j hj => by rw [World.frozen?_setCell]; exact HF.out j hj, HB.out.setCell (Nat.le_refl _) _⟩
          rw [← lowTo_next HK.out, HEB.out, hl]
          exact arg_turned HA.out (by rw [lowTo_length]; exact HK.out) (by omega)
        clear hlow hl
        go_wp2
        go_roundw
        case rel => exact HR.out
        case measure => simp [intOf]; omega
      · have hd : decide ((65 : Int) ≤ (b : Int)) = false ∨ (decide ((65 : Int) ≤ (b : Int)) = true ∧ decide ((b : Int) ≤ (90 : Int)) = false) := by
          by_cases h1 : 65 ≤ b
          · exact .inr ⟨decide_eq_true (by omega), decide_eq_false (by omega)⟩
          · exact .inl (decide_eq_false (by omega))
        have hl : Mq.lowB b = b := by unfold Mq.lowB; rw [if_neg hlow]
        have HR : Hid (∃ k' : Nat, Value.int .i64 ((k + 1 : Nat) : Int) = .int .i64 k' ∧ k' ≤ n ∧ ArgIs wr (some ⟨w.heap.size, 0, none⟩) c (lowTo q k') ∧ (∀ j, j < n → wr.frozen? ⟨w.heap.size, j, none⟩ = false) ∧ Below w.heap.size w wr) :=
          ⟨k + 1, rfl, hlt, by rw [lowTo_keep HK.out (by rw [HEB.out]; exact hl)]; exact HA.out, HF.out, HB.out⟩
        clear hlow hl
        rcases hd with d1 | ⟨d1, d2⟩
        all_goals
          go_wp2
          go_roundw
          case rel => exact HR.out
          case measure => simp [intOf]; omega
    · obtain rfl : k = n := by omega
      have hd : decide ((k : Int) < (k : Int)) = false := by simp
      rw [lowTo_all HQ.out] at harg
      have hconv := conv_str harg
      rw [List.length_map, HQ.out] at hconv
      have HB := Lib.hid hb
      clear hb harg hfr
      go_wp2
      go_ret
      exact ⟨HB.out, rfl⟩
end Go.Proofs.YtnbaajdcakjlmaaDoor
