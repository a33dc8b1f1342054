/-
  slices.Insert of one byte at the front of a row of the caller's own.
-/
import Derived.Test.YtkjofadabaecfaaTPApp
import Derived.Lib.Overlaps
import Derived.Lib.AppendZerosOnto
import Derived.Lib.AppendZeros
import Derived.Laws.Externs
namespace Go.Proofs.Ytkjofadabaecfaa
open Go.RowKit

/-- How Insert ends. -/
def InsEnd (base : Nat) (v : Value) (q : List Nat) (w : World) (e : Ending) (w' : World) : Prop :=
  ∃ v', e = .returned v' ∧ w'.ownsRow base 5 1 v' q.length (u8s q) ∧ w.grownBy w' v.ownBlock

set_option maxHeartbeats 1000000 in
set_option maxRecDepth 100000 in
theorem insert_shift (base b n c g x : Nat) (q : List Nat) (cur : List Value) (w : World) (hb : base ≤ b) (hL : Lies w b 5 cur) (hc : cur.length = c) (hcm : c ≤ maxLen) (hcur : cur.take n = u8s q) (hn : q.length = n) (hn0 : 0 < n) (hroom : n + 1 ≤ c)
    (hx : Lies w g 5 [.int .u8 (x : Int)]) (hne : g ≠ b) :
    Calls Try.prog 43 #[.slice (some ⟨b, 0, none⟩) n c, .int .i64 0, .slice (some ⟨g, 0, none⟩) 1 1] w (InsEnd base (.slice (some ⟨b, 0, none⟩) n c) (x :: q) w) := by
  have hsz : (Try.prog.info? 5).map (·.size) = some 1 := by
    obtain ⟨i0, hi0, h0, h1, h2⟩ := info_parts infoByte
    rw [hi0]; simp [h1]
  have hov : ∀ lb cb, (callFunc 53 #[.slice (some ⟨g, 0, none⟩) 1 1, .slice (some ⟨b, 1, none⟩) lb cb]).run Try.prog w = .ok (.value (.bool false)) w := fun lb cb => by
    rw [run_callFunc_extern Try.func53 (by kernel_rfl) (by kernel_rfl) (by kernel_rfl) (e := Extern.SlicesOverlaps.overlaps #[24, 24] #[4]) (by kernel_rfl),
      Lib.run_overlaps_apart w 24 4 5 Try.underlying24 1 Try.sizeOf5 ⟨g, 0, none⟩ ⟨b, 1, none⟩ 1 1 lb cb hne 5 5 1 c (by unfold Lies at hx; simp [World.shape?, hx]) (by unfold Lies at hL; simp [World.shape?, hL, hc]) (by omega) (hx.free 0) (hx.free 1)]
    rfl
  have hc1 : ¬ c = 1 := by omega
  have hc0 : ¬ c = 0 := by omega
  have hn1 : ¬ n = 0 := by omega
  have hz2 : ((0 : Int) == (n : Int)) = false := by rw [beq_eq_false_iff_ne]; omega
  unfold maxLen at hcm
  have hsrc : ∀ (W : World), Lies W b 5 cur → ∀ j v, (u8s q)[j]? = some v → W.cell? ((⟨b, 0, none⟩ : Addr).add j) = some v := fun W h j v hj => by
    rw [Addr.add_lit, Nat.zero_add, h.cell]
    rw [← hcur, List.getElem?_take] at hj
    split at hj
    · exact hj
    · cases hj
  have hul : (u8s q).length = n := by rw [u8s_length, hn]
  have HSRC := Lib.hid (hsrc w.drew hL.drew)
  have HL := Lib.hid hL
  have HX := Lib.hid hx
  have HCUR := Lib.hid hcur
  have HUL := Lib.hid hul
  have HN := Lib.hid hn
  have HC := Lib.hid hc
  have hgw := hx.lt
  have hw1 : IntKind.i64.wrap 1 = 1 := by rw [IntKind.wrap_i64]; decide
  have hn1' : (1 : Int) ≤ (n : Int) + 1 := by omega
  have hn2' : (0 : Int) ≤ (n : Int) + 1 := by omega
  clear hsrc hL hx hcur hul hn hc
  go_enter Try.func43, Try.ntmps43
  go_wp2_with (simp only [hov])
  go_region_law (refine step_copy_lies rfl (.tmp 73) (.tmp 76) 24 24 rfl 5 Try.underlying24 hsz b 1 cur 5 (HL.out.drew) (u8s q) (some ⟨b, 1, none⟩) (some ⟨b, 0, none⟩) n (c - 1) (n + 1) c (by simp [Act.eval, Act.put]) (by simp [Act.eval, Act.put]) ?_ ?_ ?_ (u8s_one q) ?_; (rw [HUL.out]; simp only [Nat.min_def]; split <;> omega); (intro _; exact ⟨rfl, _, rfl, HSRC.out⟩); (rw [HUL.out, HC.out]; omega); intro w2 hl2 hg2)
  all_goals
    have hx2 : Lies w2 g 5 [.int .u8 (x : Int)] := (HX.out.drew).grown hg2 (fun e => by injection e with e; exact hne e)
    have hcl : (splice cur 1 (u8s q)).length = c := by rw [length_splice _ _ _ (by rw [HUL.out, HC.out]; omega), HC.out]
    have hgn : w.grownBy w2 (some b) := ⟨hg2.os, hg2.tape, hg2.output, hg2.size, hg2.block⟩
    clear hg2
    repeat ((fail_if_success (with_reducible show wpList _ _ _ (⟨some 82, _, _, _, _, _⟩ :: _) _ _)); first | go_values | go_skip | go_guarded | go_step | go_upon | go_back | go_simp)
    with_reducible refine copy_lies rfl (.tmp 80) (.tmp 81) 24 24 ?s0 5 Try.underlying24 hsz b 0 (splice cur 1 (u8s q)) 5 hl2 [.int .u8 (x : Int)] (some ⟨b, 0, none⟩) (some ⟨g, 0, none⟩) (n + 1) c 1 1 ?s1 ?s2 ?s3 ?s4 ?s5 ?s6 ?_
    case s0 => rfl
    case s1 => rfl
    case s2 => rfl
    case s3 => simp only [List.length_singleton, Nat.min_def]; split <;> omega
    case s4 => intro _; exact ⟨rfl, _, rfl, fun j v hj => by rw [Addr.add_lit, Nat.zero_add, hx2.cell]; exact hj⟩
    case s5 => rw [hcl]; simp; omega
    case s6 => intro v hv; simp at hv; subst hv; rfl
    intro w3 hl3 hg3
    have HE : Hid (InsEnd base (.slice (some ⟨b, 0, none⟩) n c) (x :: q) w (.returned (.slice (some ⟨b, 0, none⟩) (n + 1) c)) w3) := by
      refine ⟨_, rfl, ⟨by rw [u8s_length]; simp, .inr ⟨b, c, _, by rw [List.length_cons, HN.out], hb, hl3, by rw [List.length_cons, HN.out]; exact hroom, by unfold maxLen; exact hcm, ?_, ?_⟩⟩, gb_trans hgn hg3⟩
      · rw [List.size_toArray, length_splice _ _ _ (by rw [hcl]; simp; omega), hcl]; omega
      · have e1 : splice (splice cur 1 (u8s q)) 0 [.int .u8 (x : Int)] = (u8s (x :: q)) ++ cur.drop (1 + n) := by
          simp only [splice, List.take_zero, List.nil_append, List.length_singleton, Nat.zero_add]
          rw [List.drop_append_of_le_length (by rw [List.length_take, HC.out]; omega)]
          have : (List.take 1 cur).drop 1 = [] := by rw [List.drop_eq_nil_iff, List.length_take]; omega
          rw [this, HUL.out]
          simp [u8s]
        rw [e1, List.length_cons, HN.out, Nat.mul_one, List.take_append_of_le_length (by rw [u8s_length, List.length_cons, HN.out]; exact Nat.le_refl _), List.take_of_length_le (by rw [u8s_length, List.length_cons, HN.out]; exact Nat.le_refl _)]
    clear hl2 hl3 hg3 hgn hx2 hcl
    go_frame
    go_wp2
    go_ret
    exact HE.out

set_option maxHeartbeats 1000000 in
set_option maxRecDepth 100000 in
theorem insert_grow (base b n c g x : Nat) (q : List Nat) (cur : List Value) (w : World) (hb : base ≤ b) (hL : Lies w b 5 cur) (hcur : cur.take n = u8s q) (hn : q.length = n) (hn0 : 0 < n) (hnl : n ≤ 1000) (hnc : n ≤ c) (hroom : c < n + 1)
    (hx : Lies w g 5 [.int .u8 (x : Int)]) :
    Calls Try.prog 43 #[.slice (some ⟨b, 0, none⟩) n c, .int .i64 0, .slice (some ⟨g, 0, none⟩) 1 1] w (InsEnd base (.slice (some ⟨b, 0, none⟩) n c) (x :: q) w) := by
  obtain ⟨i0, hi0, h0, h1, h2⟩ := info_parts infoByte
  have hsz : (Try.prog.info? 5).map (·.size) = some 1 := by rw [hi0]; simp [h1]
  obtain rfl : c = n := by omega
  obtain ⟨G, L0, W1, hG1, hG2, hL0, hl1, hb1, hrz⟩ : ∃ (G : Nat) (L0 : List Value) (W1 : World), c + 1 ≤ G ∧ G ≤ 9223372036854775807 ∧ L0.length = G ∧ Lies W1 w.heap.size 5 L0 ∧ Below w.heap.size w W1 ∧
      ∀ ty, (Builtin.append_ #[24, 3] ty #[.slice (some ⟨b, 0, none⟩) 0 c, .int .i64 ((c : Int) + 1)]).run Try.prog w = .ok (.slice (some ⟨w.heap.size, 0, none⟩) (c + 1) G) W1 := by
    have hge := grownCap_ge w (0 + (c + 1)) c 5
    rw [Nat.zero_add] at hge
    have hle := grownCap_le_maxLen w (0 + (c + 1)) c 5 (by unfold maxLen; omega)
    unfold maxLen at hle
    rw [Nat.zero_add] at hle
    obtain ⟨ROW, eR⟩ : ∃ ROW : Array Value, ROW = (([] : List Value).toArray ++ Builtin.zeroCells (Value.int .u8 0).cells (c + 1) ++ Builtin.zeroCells (Value.int .u8 0).cells (grownCap w (0 + (c + 1)) c 5 - (0 + (c + 1)))) := ⟨_, rfl⟩
    rw [Nat.zero_add] at eR
    refine ⟨grownCap w (c + 1) c 5, ROW.toList, w.drew.alloc (.cells ROW 5), by omega, hle, ?_, ?_, ?_, fun ty => ?_⟩
    rotate_left
    · exact (heap_alloc_new w.drew _).trans (by rw [Array.toArray_toList])
    · exact (Below.refl w.heap.size w).drew.alloc (by exact Nat.le_refl _) _
    · have h := Lib.run_append_grow_zeros w 24 3 ty 5 i0 _ .i64 .i64 Try.underlying24 Try.underlying3 hi0 h0 (some ⟨b, 0, none⟩) 0 c [] (by rw [h1]; exact run_firstCells_some w.drew 1 0 ⟨b, 0, none⟩ 0 c [] rfl (fun j v hj => by simp at hj)) (c + 1) (by omega) (by omega) (by omega) (by omega) (by rw [h2]; omega) (by rw [h2]; exact growslice_fits (by omega) (by omega))
      rw [show ((c + 1 : Nat) : Int) = (c : Int) + 1 from rfl] at h
      rw [Nat.zero_add] at h
      rw [h, eR]
    · rw [eR]
      simp [Builtin.zeroCells, Value.cells]
      omega
  have hc1 : ¬ c = 0 := by omega
  have hz2 : ((0 : Int) == (c : Int)) = false := by rw [beq_eq_false_iff_ne]; omega
  have hw1 : IntKind.i64.wrap 1 = 1 := by rw [IntKind.wrap_i64]; decide
  have hn1' : (1 : Int) ≤ (c : Int) + 1 := by omega
  have hn2' : (0 : Int) ≤ (c : Int) + 1 := by omega
  have hn3' : (0 : Int) ≤ (c : Int) := by omega
  have hbw := hL.lt
  have hgw := hx.lt
  have hx1 := hx.below hb1 hgw
  have hsrc : ∀ j v, (u8s q)[j]? = some v → W1.cell? ((⟨b, 0, none⟩ : Addr).add j) = some v := fun j v hj => by
    rw [Addr.add_lit, Nat.zero_add, (hL.below hb1 hbw).cell]
    rw [← hcur, List.getElem?_take] at hj
    split at hj
    · exact hj
    · cases hj
  have hul : (u8s q).length = c := by rw [u8s_length, hn]
  have HSRC := Lib.hid hsrc
  have HUL := Lib.hid hul
  have HN := Lib.hid hn
  have HL0 := Lib.hid hL0
  have HB1 := Lib.hid hb1
  have HRZ := Lib.hid hrz
  clear hsrc hL hx hcur hul hn hL0 hb1 hi0 h0 h1 h2 hrz
  have hGc : ¬ G = 0 := by omega
  have hGc1 : ¬ G = 1 := by omega
  go_enter Try.func43, Try.ntmps43
  repeat ((fail_if_success (with_reducible show wpList _ _ _ (⟨some 40, _, _, _, _, _⟩ :: _) _ _)); first | go_values | go_skip | go_guarded | go_step | go_upon | go_back | go_simp)
  with_reducible refine Lib.wpList_append_run _ rfl (.tmp 34) (.tmp 39) 24 3 ?s0 _ _ ?s1 ?s2 _ _ (HRZ.out _) ?_
  case s0 => rfl
  case s1 => rfl
  case s2 => rfl
  go_frame
  repeat ((fail_if_success (with_reducible show wpList _ _ _ (⟨some 45, _, _, _, _, _⟩ :: _) _ _)); first | go_values | go_skip | go_guarded | go_step | go_upon | go_back | go_simp)
  with_reducible refine copy_lies rfl (.tmp 43) (.tmp 44) 24 24 ?s0 5 Try.underlying24 hsz w.heap.size 0 L0 5 hl1 [.int .u8 (x : Int)] (some ⟨w.heap.size, 0, none⟩) (some ⟨g, 0, none⟩) (c + 1) G 1 1 ?s1 ?s2 ?s3 ?s4 ?s5 ?s6 ?_
  case s0 => rfl
  case s1 => rfl
  case s2 => rfl
  case s3 => simp only [List.length_singleton, Nat.min_def]; split <;> omega
  case s4 => intro _; exact ⟨rfl, _, rfl, fun j v hj => by rw [Addr.add_lit, Nat.zero_add, hx1.cell]; exact hj⟩
  case s5 => simp; have := HL0.out; omega
  case s6 => intro v hv; simp at hv; subst hv; rfl
  intro w2 hl2 hg2
  have hcl : (splice L0 0 [.int .u8 (x : Int)]).length = G := by rw [length_splice _ _ _ (by simp; have := HL0.out; omega), HL0.out]
  have hsrc2 : Hid (∀ j v, (u8s q)[j]? = some v → w2.drew.cell? ((⟨b, 0, none⟩ : Addr).add j) = some v) := fun j v hj => by
    have := HSRC.out j v hj
    rw [Addr.add_lit, Nat.zero_add] at this ⊢
    exact (World.cell?_of_block (a := ⟨b, j, none⟩) (hg2.block b (Nat.lt_of_lt_of_le hbw HB1.out.size) (fun e => by injection e with e; omega))).trans this
  have HCL := Lib.hid hcl
  have HL2 := Lib.hid hl2
  have hgb : w.grownBy w2 (some b) := gb_own (gb_below HB1.out) hg2 (fun k e => by injection e with e; omega)
  have HGB := Lib.hid hgb
  clear hl1 hx1 hl2 hg2 hcl hgb
  go_frame
  go_upto_region 11 with (fail)
  go_region_law (refine step_copy_lies rfl (.tmp 50) (.tmp 53) 24 24 rfl 5 Try.underlying24 hsz w.heap.size 1 (splice L0 0 [.int .u8 (x : Int)]) 5 (HL2.out.drew) (u8s q) (some ⟨w.heap.size, 1, none⟩) (some ⟨b, 0, none⟩) c (G - 1) c c (by simp [Act.eval, Act.put]) (by simp [Act.eval, Act.put]) ?_ ?_ ?_ (u8s_one q) ?_; (rw [HUL.out]; simp only [Nat.min_def]; split <;> omega); (intro _; exact ⟨rfl, _, rfl, hsrc2.out⟩); (rw [HUL.out, HCL.out]; omega); intro w3 hl3 hg3)
  all_goals
    have HE : Hid (InsEnd base (.slice (some ⟨b, 0, none⟩) c c) (x :: q) w (.returned (.slice (some ⟨w.heap.size, 0, none⟩) (c + 1) G)) w3) := by
      refine ⟨_, rfl, ⟨by rw [u8s_length]; simp, .inr ⟨w.heap.size, G, _, by rw [List.length_cons, HN.out], by omega, hl3, by rw [List.length_cons, HN.out]; exact hG1, by unfold maxLen; exact hG2, ?_, ?_⟩⟩, gb_own HGB.out (s := some w.heap.size) ⟨hg3.os, hg3.tape, hg3.output, hg3.size, hg3.block⟩ (fun k e => by injection e with e; omega)⟩
      · rw [List.size_toArray, length_splice _ _ _ (by rw [HCL.out, HUL.out]; omega), HCL.out]; omega
      · have e1 : splice (splice L0 0 [.int .u8 (x : Int)]) 1 (u8s q) = (u8s (x :: q)) ++ (L0.drop 1).drop c := by
          simp only [splice, List.take_zero, List.nil_append, List.length_singleton, Nat.zero_add, HUL.out]
          rw [List.singleton_append, List.take_succ_cons, List.take_zero, show 1 + c = c + 1 from by omega, List.drop_succ_cons]
          simp [u8s]
        rw [e1, List.length_cons, HN.out, Nat.mul_one, List.take_append_of_le_length (by rw [u8s_length, List.length_cons, HN.out]; exact Nat.le_refl _), List.take_of_length_le (by rw [u8s_length, List.length_cons, HN.out]; exact Nat.le_refl _)]
    clear hl3 hg3
    go_wp2
    go_ret
    exact HE.out
/-- One byte inserted at the front of a row of the caller's own, which is not empty. -/
theorem insert_any (base : Nat) (v : Value) (q : List Nat) (g x : Nat) (w : World) (hown : w.ownsRow base 5 1 v q.length (u8s q)) (hq : 0 < q.length) (hl : q.length ≤ 1000) (hx : Lies w g 5 [.int .u8 (x : Int)]) (hne : v.ownBlock ≠ some g) :
    Calls Try.prog 43 #[v, .int .i64 0, .slice (some ⟨g, 0, none⟩) 1 1] w (InsEnd base v (x :: q) w) := by
  rcases hown.2 with ⟨_, h0⟩ | ⟨b, c, cur, rfl, hb, hcells, hnc, hcm, hsz, ht⟩
  · omega
  · have hL : Lies w b 5 cur.toList := by
      unfold Lies
      rw [Array.toArray_toList]
      exact hcells
    rw [Nat.mul_one] at ht hsz
    have hc : cur.toList.length = c := by rw [Array.length_toList]; exact hsz
    by_cases hroom : q.length + 1 ≤ c
    · exact insert_shift base b q.length c g x q cur.toList w hb hL hc hcm ht rfl hq hroom hx (fun e => hne (by rw [e]; rfl))
    · exact insert_grow base b q.length c g x q cur.toList w hb hL ht rfl hq hl hnc (by omega) hx
end Go.Proofs.Ytkjofadabaecfaa
