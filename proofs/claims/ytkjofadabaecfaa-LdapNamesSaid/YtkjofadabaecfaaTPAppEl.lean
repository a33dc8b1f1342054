/-
  The program's appendElement, over the contract of contentOf.
-/
import Derived.Test.YtkjofadabaecfaaTPApp
namespace Go.Proofs.Ytkjofadabaecfaa
open Go.RowKit

/-- How contentOf ends. -/
def ContEnd (ok : Nat → Prop) (q : List Nat) (w : World) (e : Ending) (w' : World) : Prop := Below w.heap.size w w' ∧
  ((q.length ≤ 65535 ∧ ∃ A c, e = .returned (.tuple #[.slice A q.length c, .bool true]) ∧ SlIs w' (fun k => ok k ∨ w.heap.size ≤ k) (.slice A q.length c) q.length (u8s q)) ∨ (65535 < q.length ∧ ∃ v, e = .returned (.tuple #[v, .bool false])))
/-- That an element's content is told, where so many levels are left. -/
def ContOk (lv : Nat) : Prop := ∀ (ok : Nat → Prop) (v : Value) (t : Bq.T) (w : World), IsT w ok v t → Bq.amiss lv t = 0 →
  Calls Try.prog 61 #[v] w (ContEnd ok (Bq.cont lv t) w)
/-- How appendElement ends. -/
def AppElEnd (base : Nat) (b : Value) (q : List Nat) (lv : Nat) (t : Bq.T) (w : World) (e : Ending) (w' : World) : Prop :=
  ((Bq.cont lv t).length ≤ 65535 ∧ ∃ v', e = .returned (.tuple #[v', .bool true]) ∧ w'.ownsRow base 5 1 v' (q ++ Bq.enc lv t).length (u8s (q ++ Bq.enc lv t)) ∧ Grows w b v' w') ∨ (65535 < (Bq.cont lv t).length ∧ e = .returned (.tuple #[nilS, .bool false]) ∧ Below w.heap.size w w')
/-- That an element is laid behind bytes, where so many levels are left. -/
def AppElOk (lv : Nat) : Prop := ∀ (base : Nat) (b : Value) (q : List Nat) (v : Value) (t : Bq.T) (w : World), IsT w (· < base) v t → Bq.amiss lv t = 0 → base ≤ w.heap.size → w.ownsRow base 5 1 b q.length (u8s q) → q.length ≤ 65535 →
  Calls Try.prog 48 #[b, v] w (AppElEnd base b q lv t w)
theorem enc_byte {lv : Nat} {t : Bq.T} (ha : t.tag < 256) (hc : (Bq.cont lv t).length ≤ 65535) (h : ∀ x ∈ Bq.cont lv t, x < 256) : ∀ x ∈ Bq.enc lv t, x < 256 := by
  rw [Bq.enc_cont]
  intro x hx
  rcases List.mem_cons.1 hx with rfl | hx
  · exact ha
  · rcases List.mem_append.1 hx with hx | hx
    · exact size_lt hc x hx
    · exact h x hx

/-- The bytes of an element are bytes, at any depth. -/
theorem cont_byte {w : World} {ok : Nat → Prop} : ∀ (lv : Nat) (v : Value) (t : Bq.T), IsT w ok v t → (Bq.cont lv t).length ≤ 65535 → ∀ x ∈ Bq.cont lv t, x < 256 := by
  intro lv
  induction lv with
  | zero =>
    intro v t h _
    obtain ⟨_, _, _, _, _, hbt, _⟩ := h.parts
    exact hbt.2
  | succ n ih =>
    intro v t h hl x hx
    obtain ⟨_, lst, _, _, _, hbt, hL⟩ := h.parts
    have e : Bq.cont (n + 1) t = t.bytes ++ t.list.flatMap (Bq.enc n) := rfl
    rw [e] at hx hl
    rcases List.mem_append.1 hx with hx | hx
    · exact hbt.2 x hx
    · obtain ⟨y, hy, hx⟩ := List.mem_flatMap.1 hx
      obtain ⟨i, hi, e1⟩ := List.mem_iff_getElem.1 hy
      obtain ⟨vs, _, hvl, _, hel⟩ := hL
      have hJ := hel i (vs[i]'(by omega)) y (List.getElem?_eq_getElem (by omega)) (by rw [List.getElem?_eq_getElem hi, e1])
      have hle := Bq.flat_le (lv := n) hy
      have hel2 := (Bq.enc_len n y).2.1
      rw [List.length_append] at hl
      have hc : (Bq.cont n y).length ≤ 65535 := by omega
      obtain ⟨_, _, _, hta, _⟩ := hJ.parts
      exact enc_byte hta hc (ih _ y hJ hc) x hx

set_option maxHeartbeats 1000000 in
set_option maxRecDepth 100000 in
theorem appEl_step (lv : Nat) (hC : ContOk lv) : AppElOk lv := by
  intro base b q v t w hJ ham hbase hown hq
  obtain ⟨A1, c1, A2, c2, rfl⟩ := hJ.form
  obtain ⟨A0, c0, rfl⟩ := own_slice hown
  obtain ⟨W0, eW0⟩ : ∃ W0, W0 = w.alloc (.cells #[.int .u8 (t.tag : Int), .slice A1 t.bytes.length c1, .slice A2 t.list.length c2] 60) := ⟨_, rfl⟩
  have hb0 : Below w.heap.size w W0 := by rw [eW0]; exact (Below.refl _ _).alloc (Nat.le_refl _) _
  have HL0 : Hid (Lies W0 w.heap.size 60 [.int .u8 (t.tag : Int), .slice A1 t.bytes.length c1, .slice A2 t.list.length c2]) := by unfold Hid; rw [eW0]; exact Lies.new_ rfl
  have hCC := hC (· < base) _ t W0 (hJ.on hb0) ham
  have hcb : Hid ((Bq.cont lv t).length ≤ 65535 → ∀ x ∈ Bq.cont lv t, x < 256) := fun h => cont_byte lv _ t hJ h
  have hta : t.tag < 256 := by
    obtain ⟨_, _, _, h, _⟩ := hJ.parts
    exact h
  obtain ⟨X, eX⟩ : ∃ X, Bq.cont lv t = X := ⟨_, rfl⟩
  rw [eX] at hCC hcb
  rw [eW0] at hCC
  have HX := Lib.hid eX
  have HW0 := Lib.hid eW0
  have HB0 := Lib.hid hb0
  have HO := Lib.hid hown
  clear eX eW0 hb0 hown hJ ham hC
  go_enter Try.func48, Try.ntmps48
  go_wp2_with fail
  refine hCC.mono ?_
  intro e w1 hh
  rw [← HW0.out] at hh
  clear hCC
  obtain ⟨hb1, ⟨hl, A3, c3, rfl, hS⟩ | ⟨hl, x, rfl⟩⟩ := hh
  rotate_left
  · have HQ : Hid (AppElEnd base (.slice A0 q.length c0) q lv t w (.returned (.tuple #[nilS, .bool false])) w1) := .inr ⟨by rw [HX.out]; exact hl, rfl, below_more HB0.out hb1⟩
    clear hb1 hl
    go_wp2
    go_ret2
    exact HQ.out
  have h256 := hcb.out hl
  have hbw := below_more HB0.out hb1
  obtain ⟨⟨z0, z1, z2⟩, _⟩ := (HL0.out.below hb1 HL0.out.lt).three
  obtain ⟨n, en⟩ : ∃ n, X.length = n := ⟨_, rfl⟩
  have hn : n ≤ 65535 := by omega
  have HS := Lib.hid hS
  have H256 := Lib.hid h256
  have HN := Lib.hid en
  have HBW := Lib.hid hbw
  rw [en]
  clear hb1 hl hS h256 en hbw
  obtain ⟨a, ea⟩ : ∃ a, t.tag = a := ⟨_, rfl⟩
  have HA := Lib.hid ea
  rw [ea] at z0 hta ⊢
  clear ea
  repeat ((fail_if_success (with_reducible show wpList _ _ _ (⟨some 19, _, _, _, _, _⟩ :: _) _ _)); first | go_values | go_skip | go_guarded | go_step | go_upon | go_back | go_simp)
  generalize hW : World.alloc w1 _ = W1
  have hbA : Below w1.heap.size w1 W1 := by rw [← hW]; exact (Below.refl _ _).alloc (Nat.le_refl _) _
  have hL : ArgIs W1 (some ⟨w1.heap.size, 0, none⟩) 1 [a] := by
    have h := arg_new (w := w1) rfl 5 (0, 0) [a] 1 (by intro x hx; simp at hx; omega) (Nat.le_refl _) (by decide)
    rw [show (u8s [a]).toArray = #[.int .u8 (a : Int)] from by simp [u8s], hW] at h
    exact h
  have hown := own_below (own_below HO.out HBW.out) hbA
  have hs1 : base ≤ W1.heap.size := Nat.le_trans (Nat.le_trans hbase HBW.out.size) hbA.size
  have hS1 := HS.out.on hbA
  have hbw1 := below_more HBW.out hbA
  have hne : ∀ k, some k = (Value.slice A0 q.length c0).ownBlock → base ≤ k ∧ k < w.heap.size := fun k e => HO.out.lt k e.symm
  have hz0 : w.heap.size < W0.heap.size := HL0.out.lt
  clear hW hbA z0 z1 z2
  with_reducible refine append_arg_at rfl (.tmp 15) (.tmp 18) ?s0 base _ q.length (u8s q) _ 1 [a] hown hL ?s1 ?s2 ?s3 ?s4 ?_
  case s0 => rfl
  case s1 => rfl
  case s2 => rfl
  case s3 => simp only [List.length_cons, List.length_nil]; omega
  case s4 => exact hs1
  intro v5 w5 hown5 hgr5
  have hg5 : Grows w (.slice A0 q.length c0) v5 w5 := (Grows.of hbw1).trans hgr5
  rw [← u8s_append, show q.length + [a].length = (q ++ [a]).length from by rw [List.length_append]] at hown5
  have hs5 : base ≤ w5.heap.size := Nat.le_trans hs1 hgr5.1.size
  have hAL := appendLength_any base v5 (q ++ [a]) n hn (by rw [List.length_append, List.length_singleton]; omega) w5 hs5 hown5
  have HG15 := Lib.hid hgr5
  have HG5 := Lib.hid hg5
  have HS1 := Lib.hid hS1
  clear hown5 hgr5 hg5 hown hL hbw1 hS1
  go_frame
  go_wp2_with fail
  refine hAL.mono ?_
  rintro e w6 ⟨v6, rfl, hown6, hg6⟩
  clear hAL
  have hg16 := HG15.out.trans hg6
  have hS6 := HS1.out.keep (w' := w6) (ok' := fun _ => True) (fun k hk hlt => ⟨trivial, hg16.keep k hlt (fun e => by have := hne k e.symm; omega)⟩) hg16.1.size
  have hX6 := hS6.arg H256.out
  have hg6w := HG5.out.trans hg6
  have hs6 : base ≤ w6.heap.size := Nat.le_trans hs5 hg6.1.size
  have hn3 := (Bq.size_len n).2
  obtain ⟨L, eL⟩ : ∃ L, q ++ [a] ++ Bq.size n = L := ⟨_, rfl⟩
  rw [eL] at hown6
  have hLl : L.length ≤ 65539 := by rw [← eL, List.length_append, List.length_append, List.length_singleton]; omega
  have HEL : Hid (L ++ X = q ++ Bq.enc lv t) := by
    unfold Hid
    rw [← eL, Bq.enc_cont, HX.out, HA.out, HN.out]
    simp
  clear eL hg6 hg16 hS6
  obtain ⟨A7, c7, rfl⟩ := own_slice hown6
  repeat ((fail_if_success (with_reducible show wpList _ _ _ (⟨some 25, _, _, _, _, _⟩ :: _) _ _)); first | go_values | go_skip | go_guarded | go_step | go_upon | go_back | go_simp)
  with_reducible refine append_arg_at rfl (.tmp 23) (.tmp 24) ?s0 base _ L.length (u8s L) A3 c3 X hown6 hX6 ?s1 ?s2 ?s3 ?s4 ?_
  case s0 => rfl
  case s1 => rfl
  case s2 => exact congrArg (fun n => Value.slice A3 n c3) HN.out.symm
  case s3 => have := HN.out; omega
  case s4 => exact hs6
  intro v8 w8 hown8 hgr8
  rw [← u8s_append, show L.length + X.length = (L ++ X).length from by rw [List.length_append], HEL.out] at hown8
  have HQ : Hid (AppElEnd base (.slice A0 q.length c0) q lv t w (.returned (.tuple #[v8, .bool true])) w8) := .inl ⟨by rw [HX.out, HN.out]; exact hn, v8, rfl, hown8, hg6w.trans hgr8⟩
  clear hown8 hgr8 hown6 hX6 hg6w
  go_frame
  go_wp2
  go_ret2
  exact HQ.out
end Go.Proofs.Ytkjofadabaecfaa
