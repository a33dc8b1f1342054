/-
  The contract of Print.
-/
import Derived.Test.YtejmkijnngkoaaaDoorPParse
import Derived.Test.YtejmkijnngkoaaaDoorPEs
import Derived.Deep.RegionWith
namespace Go.Proofs.YtejmkijnngkoaaaDoor
open Go.RowKit

theorem escape_of (q : List Nat) (hq : ∀ x ∈ q, x < 256) (hl : q.length ≤ 4194304) (w : World) :
    Calls Tryd.prog 47 #[.string (strOf q)] w fun e w' => e = .returned (.string (strOf (Pq.es q))) ∧ Below w.heap.size w w' := by
  have h := escape_any (strOf q) w (by rw [strOf_size]; exact hl)
  rwa [numsOf_strOf hq] at h

theorem made_texts (n : Nat) : madeCells (Value.cells (.string ByteArray.empty)) n = (tcells (List.replicate n [])).toArray := by
  apply Array.ext'
  apply List.ext_getElem
  · simp [madeCells, tcells, Value.cells]
  · intro i h1 h2
    simp [madeCells, tcells, Value.cells, Nat.mod_one]
    rfl
theorem make_texts_at {ops : Array Oper} {rest : List Oper} {o : Oper} {a : Act} {Q : Exit → Act → World → Prop} {w : World} (hgd : o.guard = none) (x y : Operand) (ho : o.op = .makeSlice 50 x y) (l : Nat) (hx : a.eval x = .int .i64 l) (hy : a.eval y = .int .i64 l) (hc : l ≤ 1048576)
    (h : ∀ w', Lies w' w.heap.size 9 (tcells (List.replicate l [])) → Below w.heap.size w w' → wpList Tryd.prog ops Q rest (a.put o.dst (.slice (some ⟨w.heap.size, 0, none⟩) l l)) w') : wpList Tryd.prog ops Q (o :: rest) a w := by
  refine wpList_plain hgd fun K hK => ?_
  obtain ⟨i0, hi, hz0, hz1, hz2⟩ := info_parts infoText
  have hr := run_make (P := Tryd.prog) w 50 9 i0 (.string ByteArray.empty) Tryd.underlying50 hi hz0 .i64 .i64 l l (by omega) (by omega) (by rw [hz2]; omega) (by omega)
  simp only [Int.toNat_natCast, hz1, Nat.mul_one, made_texts] at hr
  unfold Oper.wp
  rw [execOp, ho]
  simp [hx, hy, hr, Result.andThen]
  exact hK _ _ (h _ (Lies.made w _ _) ((Below.refl _ _).alloc (Nat.le_refl _) _))

theorem tcells_length (l : List (List Nat)) : (tcells l).length = l.length := by simp [tcells]
theorem tcells_put (T : List (List Nat)) (n k : Nat) (h : T.length = k) (hk : k < n) (x : List Nat) : (tcells (T ++ List.replicate (n - k) [])).set k (.string (strOf x)) = tcells ((T ++ [x]) ++ List.replicate (n - (k + 1)) []) := by
  have e : (tcells (T ++ List.replicate (n - k) [])).set k (.string (strOf x)) = tcells ((T ++ List.replicate (n - k) []).set k x) := by simp [tcells, List.map_set]
  rw [e, List.set_append_right _ _ (by omega), h, Nat.sub_self, show n - k = (n - (k + 1)) + 1 from by omega, List.replicate_succ, List.set_cons_zero, List.append_assoc, List.singleton_append]

/-- What holds at each round of Print's loop. -/
def PrintRel (L : List (List Nat × List Nat)) (n : Nat) (w : World) (i : Value) (wr : World) : Prop :=
  ∃ k : Nat, i = .int .i64 k ∧ k ≤ n ∧ Lies wr w.heap.size 9 (tcells ((L.take k).map Pq.pr1 ++ List.replicate (n - k) [])) ∧ Below w.heap.size w wr

/-- What is passed in is short enough. -/
def Short (L : List (List Nat × List Nat)) : Prop := ∀ p ∈ L, p.1.length ≤ 1048576 ∧ p.2.length ≤ 1048576
theorem getD_short {L : List (List Nat × List Nat)} (h : Short L) (i : Nat) : (L.getD i ([], [])).1.length ≤ 1048576 ∧ (L.getD i ([], [])).2.length ≤ 1048576 := by
  rw [List.getD_eq_getElem?_getD]
  cases e : L[i]? with
  | none => exact ⟨Nat.zero_le _, Nat.zero_le _⟩
  | some p => exact h p (List.mem_of_getElem? e)
theorem take_pr (L : List (List Nat × List Nat)) (k : Nat) (h : k < L.length) : (L.take (k + 1)).map Pq.pr1 = (L.take k).map Pq.pr1 ++ [Pq.pr1 (L.getD k ([], []))] := by
  rw [List.take_succ_eq_append_getElem h, List.map_append]
  simp [List.getD_eq_getElem?_getD, List.getElem?_eq_getElem h]
theorem pr1_str (p : List Nat × List Nat) : (strOf (Pq.es p.1) ++ { data := #[61] }) ++ strOf (Pq.es p.2) = strOf (Pq.pr1 p) := by
  rw [show ({ data := #[61] } : ByteArray) = strOf [61] from rfl, strOf_append, strOf_append]
  unfold Pq.pr1
  simp

theorem below_call {w wa : World} {x j : Nat} (h : Below w.drew.heap.size w.drew wa) (hx : x < w.heap.size) : wa.cell? ⟨x, j, none⟩ = w.cell? ⟨x, j, none⟩ := h.cell (p := ⟨x, j, none⟩) hx
theorem call_two {w w5 wa wb : World} {g k n : Nat} {t : TypeId} {cs : List Value} (hL : Lies w5 g t cs) (hb : Below w.heap.size w w5) (hl : cs.length = n) (hk : k < n) (h1 : Below w5.drew.heap.size w5.drew wa) (h2 : Below wa.heap.size wa wb) :
    ∃ y, wb.cell? ⟨g, k, none⟩ = some y ∧ wb.frozen? ⟨g, k, none⟩ = false ∧ Lies wb g t cs ∧ Below w.heap.size w wb := by
  have h1' : Below w5.heap.size w5 wa := ⟨h1.os, h1.tape, h1.output, h1.size, h1.block⟩
  have hLa := hL.below h1' hL.lt
  have hLb := hLa.below h2 hLa.lt
  have hba := hb.trans (h1'.mono hb.size)
  exact ⟨_, (hLb.cell k).trans (List.getElem?_eq_getElem (by omega)), hLb.free k, hLb, hba.trans (h2.mono hba.size)⟩

set_option maxHeartbeats 2000000 in
set_option maxRecDepth 100000 in
theorem print_any (L : List (List Nat × List Nat)) (A : Option Addr) (c : Nat) (w : World) (hA : Row w A (pcells L)) (hL : Pq.Fine L) (hS : Short L) (hn : L.length ≤ 1048576) (hlen : (Pq.print L).length ≤ 140737488355328) :
    Calls Tryd.prog 28 #[.slice A L.length c] w fun e w' => e = .returned (.string (strOf (Pq.print L))) ∧ Below w.heap.size w w' := by
  obtain ⟨n, en⟩ : ∃ n, L.length = n := ⟨_, rfl⟩
  have Hn := Lib.hid en
  rw [en] at hn ⊢
  clear en
  go_enter Tryd.func28, Tryd.ntmps28
  repeat ((fail_if_success (with_reducible show wpList _ _ _ (⟨some 8, _, _, _, _, _⟩ :: _) _ _)); first | go_values | go_skip | go_guarded | go_step | go_upon | go_back | go_simp)
  with_reducible refine make_texts_at rfl (.tmp 7) (.tmp 7) rfl n ?s1 ?s2 hn ?_
  case s1 => rfl
  case s2 => rfl
  intro w1 hL1 hb1
  go_frame
  go_wp2_with fail
  go_loopw [11] (fun i wr => PrintRel L n w i wr) (fun i _ => n - (intOf i).toNat)
  case atStart => exact ⟨0, rfl, Nat.zero_le _, by simpa using hL1, hb1⟩
  case round =>
    obtain ⟨k, rfl, hk, hLr, hb⟩ := hrel
    clear hL1 hb1
    by_cases hlt : k < n
    · obtain ⟨b, off, rfl, hbw, c0, c1⟩ := (hA.below hb (Nat.le_refl _)).pair (by rw [Hn.out]; exact hlt)
      have hE1 := fun w => escape_of _ (getD_lt hL k).1 (by have := (getD_short hS k).1; omega) w
      have hE2 := fun w => escape_of _ (getD_lt hL k).2 (by have := (getD_short hS k).2; omega) w
      have HT := Lib.hid (take_pr L k (by rw [Hn.out]; exact hlt))
      obtain ⟨p, ep⟩ : ∃ p, L.getD k ([], []) = p := ⟨_, rfl⟩
      have Hp := Lib.hid ep
      have HSh := Lib.hid (getD_short hS)
      rw [ep] at c0 c1 hE1 hE2 HT
      clear ep hA
      have HPr := Lib.hid (pr1_str p)
      have z1 : (strOf (Pq.es p.1)).size ≤ 12582912 := by
        have h1 := Pq.es_length p.1
        have h2 := (HSh.out k).1
        rw [Hp.out] at h2
        rw [strOf_size]; omega
      have z2 : (strOf (Pq.es p.2)).size ≤ 12582912 := by
        have h1 := Pq.es_length p.2
        have h2 := (HSh.out k).2
        rw [Hp.out] at h2
        rw [strOf_size]; omega
      obtain ⟨E1, e1⟩ : ∃ E, strOf (Pq.es p.1) = E := ⟨_, rfl⟩
      obtain ⟨E2, e2⟩ : ∃ E, strOf (Pq.es p.2) = E := ⟨_, rfl⟩
      rw [e1] at hE1 HPr z1
      rw [e2] at hE2 HPr z2
      clear e1 e2
      have f0 : (wr.alloc (.cells #[.string (strOf p.1), .string (strOf p.2)] 34)).cell? ⟨wr.heap.size, 0, none⟩ = some (.string (strOf p.1)) := (Lies.made wr 34 [.string (strOf p.1), .string (strOf p.2)]).cell 0
      have f1 : (wr.alloc (.cells #[.string (strOf p.1), .string (strOf p.2)] 34)).cell? ⟨wr.heap.size, 1, none⟩ = some (.string (strOf p.2)) := (Lies.made wr 34 [.string (strOf p.1), .string (strOf p.2)]).cell 1
      have f2 : wr.heap.size < (wr.alloc (.cells #[.string (strOf p.1), .string (strOf p.2)] 34)).heap.size := by simp
      have hL5 := hLr.alloc (.cells #[.string (strOf p.1), .string (strOf p.2)] 34)
      have hb5 := hb.alloc hb.size (.cells #[.string (strOf p.1), .string (strOf p.2)] 34)
      have hlc : (tcells ((L.take k).map Pq.pr1 ++ List.replicate (n - k) [])).length = n := by rw [tcells_length, List.length_append, List.length_map, List.length_take, List.length_replicate, Hn.out]; omega
      have HLC := Lib.hid hlc
      go_upto_region 5 with (fail)
      clear hLr hb c0 c1 hbw hlc
      generalize wr.alloc (.cells #[.string (strOf p.1), .string (strOf p.2)] 34) = w5 at *
      have HF1 := Lib.hid f1
      have HL5 := Lib.hid hL5
      have HB5 := Lib.hid hb5
      clear hL5 hb5
      go_region_with (first
        | (go_at_call 47; with_reducible refine (hE1 _).mono ?_; rintro e wa ⟨rfl, hba⟩; have hca : wa.cell? ⟨wr.heap.size, 1, none⟩ = some (.string (strOf p.2)) := (below_call hba f2).trans HF1.out)
        | (go_at_call 47; with_reducible refine (hE2 _).mono ?_; rintro e wb ⟨rfl, hbb⟩; obtain ⟨y, hy, hfz, hLb, hbb2⟩ := call_two HL5.out HB5.out HLC.out hlt hba hbb))
      all_goals
        have hL6 : Lies (wb.setCell ⟨w.heap.size, k, none⟩ (.string (E1 ++ { data := #[61] } ++ E2))) w.heap.size 9 (tcells ((L.take (k + 1)).map Pq.pr1 ++ List.replicate (n - (k + 1)) [])) := by
          have := hLb.put k (.string (strOf (Pq.pr1 p)))
          rw [tcells_put _ n k (by rw [List.length_map, List.length_take, Hn.out]; omega) hlt, ← HT.out] at this
          rw [HPr.out]
          exact this
        have hb6 := hbb2.setCell (p := ⟨w.heap.size, k, none⟩) (Nat.le_refl _) (.string (E1 ++ { data := #[61] } ++ E2))
        clear hE1 hE2 hba hbb hca hy hfz hLb hbb2 HL5 HB5 HF1 f0 f1
        go_wp2
        go_roundw
        case rel => exact ⟨k + 1, by go_num, by omega, hL6, hb6⟩
        case measure => simp [intOf]; omega
    · obtain rfl : k = n := by omega
      have hd : decide ((k : Int) < (k : Int)) = false := by simp
      rw [Nat.sub_self, List.replicate_zero, List.append_nil, List.take_of_length_le (by rw [Hn.out]; exact Nat.le_refl _)] at hLr
      have hJ := join_any L w.heap.size 0 k wr (fun j p hp => by
        rw [Nat.zero_add, hLr.cell, tcells, List.getElem?_map, List.getElem?_map, hp]; rfl) hLr.lt (by rw [Hn.out]; exact hn) (by rw [Hn.out]; exact Nat.le_refl _) hlen
      rw [Hn.out] at hJ
      clear hLr hA
      go_wp2_with fail
      refine hJ.mono ?_
      rintro e w2 ⟨rfl, hb2⟩
      have hb3 := hb.trans (hb2.mono hb.size)
      clear hJ
      go_wp2
      go_ret
      exact ⟨rfl, hb3⟩
end Go.Proofs.YtejmkijnngkoaaaDoor
