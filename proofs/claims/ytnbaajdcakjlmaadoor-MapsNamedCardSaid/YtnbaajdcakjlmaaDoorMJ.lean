/-
  with: a value for the claim of a name: at its place, or behind the others.
-/
import Derived.Test.YtnbaajdcakjlmaaDoorMI
import Derived.Test.YtnbaajdcakjlmaaDoorQJ
namespace Go.Proofs.YtnbaajdcakjlmaaDoor
open Go.RowKit

/-- An object under way: rows of the caller's own from block B on; what the values hold lies from B on, too, and in neither row. -/
structure MRow (B : Nat) (ns : List (List Nat)) (l : List Jq.J) (nv lv : Value) (w : World) : Prop where
  size : B ≤ w.heap.size
  len : ns.length = l.length
  texts : ∀ p ∈ ns, p.length ≤ 140737488355328 ∧ ∀ y ∈ p, y < 256
  names : w.ownsRow B 9 1 nv ns.length (tcells ns)
  rows : ∃ vs : List Value, vs.length = l.length ∧ w.ownsRow B 27 6 lv l.length (vs.flatMap jcells) ∧ ∀ (i : Nat) v x, vs[i]? = some v → l[i]? = some x → IsJ w (fun b => B ≤ b ∧ nv.ownBlock ≠ some b ∧ lv.ownBlock ≠ some b) v x
  apart : ∀ b, nv.ownBlock = some b → lv.ownBlock ≠ some b
theorem MRow.nil {B : Nat} {w : World} (h : B ≤ w.heap.size) : MRow B [] [] (.slice none 0 0) (.slice none 0 0) w :=
  ⟨h, rfl, (fun _ h => nomatch h), World.ownsRow_nil _ _ _ _, ⟨[], rfl, World.ownsRow_nil _ _ _ _, fun i v x e => by simp at e⟩, fun b e => by cases e⟩
theorem MRow.on {B : Nat} {ns : List (List Nat)} {l : List Jq.J} {nv lv : Value} {w w' : World} (h : MRow B ns l nv lv w) (hb : Below w.heap.size w w') : MRow B ns l nv lv w' := by
  obtain ⟨vs, h1, h2, h3⟩ := h.rows
  exact ⟨Nat.le_trans h.size hb.size, h.len, h.texts, own_below h.names hb, ⟨vs, h1, own_below h2 hb, fun i v x e1 e2 => (h3 i v x e1 e2).on hb⟩, h.apart⟩
/-- A write to another block, below B. -/
theorem MRow.off {B g : Nat} {ns : List (List Nat)} {l : List Jq.J} {nv lv : Value} {w w' : World} (h : MRow B ns l nv lv w) (hb : w.grownBy w' (some g)) (hg : g < B) : MRow B ns l nv lv w' := by
  obtain ⟨vs, r1, r2, r3⟩ := h.rows
  exact ⟨Nat.le_trans h.size hb.size, h.len, h.texts, h.names.kept hb (.inr fun e => by have := (h.names.lt _ e).1; omega), ⟨vs, r1, r2.kept hb (.inr fun e => by have := (r2.lt _ e).1; omega), fun i v x e1 e2 => (r3 i v x e1 e2).keep (fun b hbb hs => ⟨hbb, hb.block b hs (fun e => by injection e with e; have := hbb.1; omega)⟩) hb.size⟩, h.apart⟩
theorem MRow.lt {B : Nat} {ns : List (List Nat)} {l : List Jq.J} {nv lv : Value} {w : World} (h : MRow B ns l nv lv w) : (∀ k, nv.ownBlock = some k → B ≤ k ∧ k < w.heap.size) ∧ ∀ k, lv.ownBlock = some k → B ≤ k ∧ k < w.heap.size := by
  obtain ⟨vs, _, h2, _⟩ := h.rows
  exact ⟨h.names.lt, h2.lt⟩
/-- It reads as the object. -/
theorem MRow.isJ {B : Nat} {ns : List (List Nat)} {l : List Jq.J} {nv lv : Value} {w : World} (h : MRow B ns l nv lv w) (hl : l.length ≤ 1000) : IsJ w (B ≤ ·) (jv 5 false 0 ByteArray.empty nv lv) (Jq.objJ ns l) := by
  obtain ⟨vs, h1, h2, h3⟩ := h.rows
  exact isJ_obj (own_slIs h.names) h.texts (by rw [h.len]; omega) ⟨vs, own_slIs h2, h1, by omega, fun i v x a b => (h3 i v x a b).keep (fun _ hb _ => ⟨hb.1, rfl⟩) (Nat.le_refl _)⟩
/-- What may have turned: the two rows' blocks; where they lie now. -/
structure Two (nv lv nv' lv' : Value) (w w' : World) : Prop where
  os : w'.os = w.os
  tape : w'.tape = w.tape
  output : w'.output = w.output
  size : w.heap.size ≤ w'.heap.size
  block : ∀ k, k < w.heap.size → nv.ownBlock ≠ some k → lv.ownBlock ≠ some k → w'.heap[k]? = w.heap[k]? ∧ nv'.ownBlock ≠ some k ∧ lv'.ownBlock ≠ some k
theorem Two.below {B : Nat} {ns : List (List Nat)} {l : List Jq.J} {nv lv nv' lv' : Value} {w w' : World} (h : Two nv lv nv' lv' w w') (hO : MRow B ns l nv lv w) : Below B w w' :=
  ⟨h.os, h.tape, h.output, h.size, fun k hk => (h.block k (Nat.lt_of_lt_of_le hk hO.size) (fun e => by have := (hO.lt.1 k e).1; omega) (fun e => by have := (hO.lt.2 k e).1; omega)).1⟩
theorem apart_l {nv lv : Value} (h : ∀ b, nv.ownBlock = some b → lv.ownBlock ≠ some b) : lv.ownBlock = none ∨ lv.ownBlock ≠ nv.ownBlock := by
  cases hk : lv.ownBlock with
  | none => exact .inl rfl
  | some b => exact .inr fun e => h b e.symm hk
theorem apart_n {nv lv : Value} (h : ∀ b, nv.ownBlock = some b → lv.ownBlock ≠ some b) : nv.ownBlock = none ∨ nv.ownBlock ≠ lv.ownBlock := by
  cases hk : nv.ownBlock with
  | none => exact .inl rfl
  | some b => exact .inr fun e => h b hk e.symm
/-- How with ends. -/
def WithE (B : Nat) (ns : List (List Nat)) (l : List Jq.J) (nv lv : Value) (w : World) (e : Ending) (w' : World) : Prop :=
  ∃ nv' lv', e = .returned (jv 5 false 0 ByteArray.empty nv' lv') ∧ MRow B ns l nv' lv' w' ∧ Two nv lv nv' lv' w w'

set_option maxHeartbeats 4000000 in
set_option maxRecDepth 100000 in
theorem withNew_any {B : Nat} {ns : List (List Nat)} {l : List Jq.J} {nv lv u : Value} {y : Jq.J} {t : List Nat} (w : World) (hO : MRow B ns l nv lv w) (hJ : IsJ w (fun b => B ≤ b ∧ nv.ownBlock ≠ some b ∧ lv.ownBlock ≠ some b) u y) (ht : t.length ≤ 140737488355328 ∧ ∀ y ∈ t, y < 256) (hn : l.length ≤ 1000) (hf : firstAt t ns = none) :
    Calls Tryd.prog 26 #[jv 5 false 0 ByteArray.empty nv lv, .string (strOf t), u] w (WithE B (ns ++ [t]) (l ++ [y]) nv lv w) := by
  obtain ⟨vs, hvs, hrow, hel⟩ := hO.rows
  obtain ⟨A9, c9, rfl⟩ := own_slice hO.names
  obtain ⟨A0, c0, rfl⟩ := own_slice hrow
  obtain ⟨B1, d1, B2, d2, rfl⟩ := hJ.form
  obtain ⟨n, en⟩ : ∃ n, ns.length = n := ⟨_, rfl⟩
  obtain ⟨m, em⟩ : ∃ m, l.length = m := ⟨_, rfl⟩
  obtain rfl : n = m := by rw [← en, ← em]; exact hO.len
  obtain ⟨W0, eW0⟩ : ∃ W0, W0 = ((w.alloc (.cells #[.int .i64 5, .bool false, .int .i64 0, .string ByteArray.empty, .slice A9 n c9, .slice A0 n c0] 27)).alloc (.cells #[.int .i64 y.kind, .bool y.bool, .int .i64 y.int, .string (strOf y.text), .slice B1 y.names.length d1, .slice B2 y.list.length d2] 27)).alloc (.cells #[.int .i64 0, .bool false, .int .i64 0, .string { data := #[] }, .slice none 0 0, .slice none 0 0] 27) := ⟨_, rfl⟩
  have hb0 : Below w.heap.size w W0 := by rw [eW0]; exact ((one_alloc _ _).alloc (by simp) _).alloc (by simp; omega) _
  have hs0 : W0.heap.size = w.heap.size + 3 := by rw [eW0]; simp
  have hv0 : Lies W0 w.heap.size 27 [.int .i64 5, .bool false, .int .i64 0, .string ByteArray.empty, .slice A9 n c9, .slice A0 n c0] := by rw [eW0]; exact ((Lies.new_ rfl).alloc _).alloc _
  have hu0 : Lies W0 (w.heap.size + 1) 27 [.int .i64 y.kind, .bool y.bool, .int .i64 y.int, .string (strOf y.text), .slice B1 y.names.length d1, .slice B2 y.list.length d2] := by rw [eW0]; exact (Lies.new_ (by simp)).alloc _
  have hz0 : Lies W0 (w.heap.size + 2) 27 zero6 := by rw [eW0]; exact Lies.new_ (by simp)
  have hlt := hO.lt
  have hnames := own_below hO.names hb0
  have hrows := own_below hrow hb0
  have hsz := hO.size
  rw [en] at hnames hlt
  rw [em] at hrows hlt
  obtain ⟨hltn, hltl⟩ := hlt
  have hap := hO.apart
  rw [en, em] at hap
  have hbt := (one_alloc W0 (.cells #[.string (strOf t)] 9))
  rw [en, em]
  rw [en, em] at hJ hel
  have HO := Lib.hid hO
  have HJ := Lib.hid hJ
  have HEL := Lib.hid hel
  have HVS := Lib.hid hvs
  have HT := Lib.hid ht
  have HB0 := Lib.hid hb0
  have HU0 := Lib.hid hu0
  have HZ0 := Lib.hid hz0
  have HV0 := Lib.hid hv0
  have HR0 := Lib.hid hrows
  have HN0 := Lib.hid hnames
  have HLN := Lib.hid hltn
  have HLL := Lib.hid hltl
  have HAP := Lib.hid hap
  have HEN := Lib.hid en
  have HEM := Lib.hid em
  have HSZ := Lib.hid hsz
  have hm9 : n ≤ 1000 := by omega
  obtain ⟨i1, hi1, hy0, hy1, hy2⟩ := info_parts infoText
  obtain ⟨⟨z0, z1, z2, z3, z4, z5⟩, f0, f1, f2, f3, f4, f5⟩ := hv0.six
  rw [eW0] at z0 z1 z2 z3 z4 z5 f0 f1 f2 f3 f4 f5
  have HW0 := Lib.hid eW0
  have HS0 := Lib.hid hs0
  have hI := index_any ns t (.slice A9 n c9) W0 (by rw [en]; exact own_slIs hnames) (fun p hp => (HO.out.texts p hp).2) HT.out.2
  rw [hf, HW0.out] at hI
  clear hO hJ hel hvs ht hb0 hu0 hz0 hv0 hrows hnames hltn hltl hap en em hsz eW0 hrow hbt hn hs0 hf
  have dneg : decide ((0 : Int) ≤ (-1 : Int)) = false := by decide
  go_enter Tryd.func26, Tryd.ntmps26
  go_wp2_with fail
  refine hI.mono ?_
  rintro e w1 ⟨rfl, rfl⟩
  clear hI
  repeat ((fail_if_success (with_reducible show wpList _ _ _ (⟨some 24, _, _, _, _, _⟩ :: _) _ _)); first | go_values | go_skip | go_guarded | go_step | go_upon | go_back | go_simp)
  rw [← HW0.out]
  obtain ⟨W1, eW1⟩ : ∃ W1, W1 = W0.alloc (.cells #[.string (strOf t)] 9) := ⟨_, rfl⟩
  have hb1 : Below W0.heap.size W0 W1 := by rw [eW1]; exact one_alloc _ _
  have hs1 : W1.heap.size = w.heap.size + 4 := by rw [eW1]; simp [HS0.out]
  have hnc : ∀ j u, [Value.string (strOf t)][j]? = some u → W1.cell? ((⟨w.heap.size + 1 + 1 + 1, 0, none⟩ : Addr).add j) = some u := fun j u hj => by
    have := new_cells W0 #[.string (strOf t)] 9 j u hj
    rw [eW1]
    rw [HS0.out] at this
    exact this
  rw [← eW1]
  clear z0 z1 z2 z3 z4 z5 f0 f1 f2 f3 f4 f5
  with_reducible refine wpList_append_own_at _ rfl (.tmp 21) (.tmp 23) 24 rfl B 9 i1 (.string ByteArray.empty) 1 16 Tryd.underlying24 hi1 hy0 hy1 hy2 rfl (by decide) (.slice A9 n c9) n (tcells ns) ?s1 (own_below HN0.out hb1) ⟨w.heap.size + 1 + 1 + 1, 0, none⟩ 1 1 [.string (strOf t)] ?s2 rfl hnc ?s3 ?s4 ?s5 ?s6 ?_
  case s1 => rfl
  case s2 => rfl
  case s3 => exact fun u hu => by simp at hu; subst hu; rfl
  case s4 => unfold maxLen; omega
  case s5 => omega
  case s6 => have := HSZ.out; omega
  intro nv2 w2 hown2 hgr2 _ hat2
  obtain ⟨A2, c2, rfl⟩ := own_slice hown2
  have hsz2 := hgr2.size
  have hne2 : ∀ g, w.heap.size ≤ g → (Value.slice A9 n c9).ownBlock ≠ some g := fun g hg e => by have := (HLN.out g e).2; omega
  have hv2 := (HV0.out.below hb1 HV0.out.lt).grown hgr2 (fun e => hne2 _ (Nat.le_refl _) e.symm)
  have hu2 := (HU0.out.below hb1 HU0.out.lt).grown hgr2 (fun e => hne2 _ (Nat.le_succ _) e.symm)
  have hz2 := (HZ0.out.below hb1 HZ0.out.lt).grown hgr2 (fun e => hne2 _ (Nat.le_add_right _ 2) e.symm)
  have hr2 := (own_below HR0.out hb1).kept hgr2 (apart_l HAP.out)
  have hap2 : ∀ b, (Value.slice A2 (n + 1) c2).ownBlock = some b → (Value.slice A0 n c0).ownBlock ≠ some b ∧ b ≠ w.heap.size ∧ b ≠ w.heap.size + 1 ∧ b ≠ w.heap.size + 2 := fun b hb => by
    rcases hat2 with h | h
    · rw [h] at hb
      have := (HLN.out b hb).2
      exact ⟨HAP.out b hb, by omega, by omega, by omega⟩
    · rw [h, hs1] at hb
      injection hb with hb
      exact ⟨fun e => by have := (HLL.out b e).2; omega, by omega, by omega, by omega⟩
  obtain ⟨⟨_, _, _, _, z4, _⟩, _, _, _, _, f4, _⟩ := hv2.six
  obtain ⟨W3, eW3⟩ : ∃ W3, W3 = w2.setCell ⟨w.heap.size, 4, none⟩ (.slice A2 (n + 1) c2) := ⟨_, rfl⟩
  have hg3 : w2.grownBy W3 (some w.heap.size) := by rw [eW3]; exact gb_set _ _ _ _
  have hs3 : W3.heap.size = w2.heap.size := by rw [eW3]; simp [World.setCell]
  have hv3 : Lies W3 w.heap.size 27 [.int .i64 5, .bool false, .int .i64 0, .string ByteArray.empty, .slice A2 (n + 1) c2, .slice A0 n c0] := by rw [eW3]; have := hv2.put 4 (.slice A2 (n + 1) c2); simpa using this
  have hu3 := hu2.grown hg3 (by simp)
  have hz3 := hz2.grown hg3 (by simp)
  have hn3 := hown2.kept hg3 (.inr (fun e => by have := hap2 _ e; omega))
  have hr3 := hr2.kept hg3 (.inr (fun e => by have := (HLL.out _ e).2; omega))
  have HA2 := Lib.hid hap2
  have HV3 := Lib.hid hv3
  have HU3 := Lib.hid hu3
  have HZ3 := Lib.hid hz3
  have HN3 := Lib.hid hn3
  have HR3 := Lib.hid hr3
  have HG2 := Lib.hid hgr2
  have HG3 := Lib.hid hg3
  have HS3 := Lib.hid hs3
  have HB1 := Lib.hid hb1
  have HS1 := Lib.hid hs1
  have HS2 := Lib.hid hsz2
  have HAT2 := Lib.hid hat2
  have HW3 := Lib.hid eW3
  clear hap2 hv2 hu2 hz2 hr2 hown2 hgr2 hat2 hsz2 hv3 hu3 hz3 hn3 hr3 hg3 hs3 eW3 hb1 hs1 eW1 hnc hne2 hi1 hy0 hy1 hy2
  go_frame
  go_upto_region 6 with (fail)
  rw [← HW3.out]
  clear z4 f4
  obtain ⟨⟨_, _, _, _, _, z5⟩, _⟩ := HV3.out.six
  obtain ⟨⟨y0, y1, y2, y3, y4, y5⟩, _⟩ := HU3.out.six
  obtain ⟨i0, hi0, hj0, hj1, hj2⟩ := info_parts infoJson
  repeat ((fail_if_success (with_reducible show wpList _ _ _ (⟨some 30, _, _, _, _, _⟩ :: _) _ _)); first | go_values | go_skip | go_guarded | go_step | go_upon | go_back | go_simp)
  obtain ⟨W4, eW4⟩ : ∃ W4, W4 = W3.alloc (.cells #[.int .i64 y.kind, .bool y.bool, .int .i64 y.int, .string (strOf y.text), .slice B1 y.names.length d1, .slice B2 y.list.length d2] 27) := ⟨_, rfl⟩
  have hb4 : Below W3.heap.size W3 W4 := by rw [eW4]; exact one_alloc _ _
  have hs4 : W4.heap.size = W3.heap.size + 1 := by rw [eW4]; simp
  have hnc : ∀ j u, (jcells (jv y.kind y.bool y.int (strOf y.text) (.slice B1 y.names.length d1) (.slice B2 y.list.length d2)))[j]? = some u → W4.cell? ((⟨W3.heap.size, 0, none⟩ : Addr).add j) = some u := fun j u hj => by
    rw [eW4]
    exact new_cells W3 _ _ j u hj
  rw [← eW4]
  with_reducible refine wpList_append_own_at _ rfl (.tmp 27) (.tmp 29) 25 rfl B 27 i0 (jv 0 false 0 ByteArray.empty nilS nilS) 6 88 Tryd.underlying25 hi0 hj0 hj1 hj2 rfl (by decide) (.slice A0 n c0) n (vs.flatMap jcells) ?s1 (own_below HR3.out hb4) ⟨W3.heap.size, 0, none⟩ 1 1 (jcells (jv y.kind y.bool y.int (strOf y.text) (.slice B1 y.names.length d1) (.slice B2 y.list.length d2))) ?s2 rfl hnc (jv_ones _ _ _ _ _ _ _ _ _ _) ?s4 ?s5 ?s6 ?_
  case s1 => rfl
  case s2 => rfl
  case s4 => unfold maxLen; omega
  case s5 => omega
  case s6 => have := HSZ.out; have := HS1.out; have := HS2.out; have := HS3.out; omega
  intro lv5 w5 hown5 hgr5 _ hat5
  obtain ⟨A5, c5, rfl⟩ := own_slice hown5
  have hsz5 := hgr5.size
  have hS1 := HS1.out
  have hS2 := HS2.out
  have hS3 := HS3.out
  have hne5 : ∀ g, w.heap.size ≤ g → (Value.slice A0 n c0).ownBlock ≠ some g := fun g hg e => by have := (HLL.out g e).2; omega
  have hv5 := (HV3.out.below hb4 HV3.out.lt).grown hgr5 (fun e => hne5 _ (Nat.le_refl _) e.symm)
  have hz5 := (HZ3.out.below hb4 HZ3.out.lt).grown hgr5 (fun e => hne5 _ (Nat.le_add_right _ 2) e.symm)
  have hn5 := (own_below HN3.out hb4).kept hgr5 (apart_n (fun b hb => (HA2.out b hb).1))
  have hap5 : ∀ b, (Value.slice A5 (n + 1) c5).ownBlock = some b → (Value.slice A2 (n + 1) c2).ownBlock ≠ some b ∧ b ≠ w.heap.size ∧ b ≠ w.heap.size + 2 := fun b hb => by
    rcases hat5 with h | h
    · rw [h] at hb
      have := (HLL.out b hb).2
      exact ⟨fun e => (HA2.out b e).1 hb, by omega, by omega⟩
    · rw [h, hs4] at hb
      injection hb with hb
      exact ⟨fun e => by have := (HN3.out.lt b e).2; omega, by omega, by omega⟩
  obtain ⟨W6, eW6⟩ : ∃ W6, W6 = w5.setCell ⟨w.heap.size, 5, none⟩ (.slice A5 (n + 1) c5) := ⟨_, rfl⟩
  have hg6 : w5.grownBy W6 (some w.heap.size) := by rw [eW6]; exact gb_set _ _ _ _
  have hv6 : Lies W6 w.heap.size 27 [.int .i64 5, .bool false, .int .i64 0, .string ByteArray.empty, .slice A2 (n + 1) c2, .slice A5 (n + 1) c5] := by rw [eW6]; have := hv5.put 5 (.slice A5 (n + 1) c5); simpa using this
  have hz6 := hz5.grown hg6 (by simp)
  have hn6 := hn5.kept hg6 (.inr (fun e => by have := HA2.out _ e; omega))
  have hl6 := hown5.kept hg6 (.inr (fun e => by have := hap5 _ e; omega))
  have hlf : Lies (put6 W6 (w.heap.size + 2) (.int .i64 5) (.bool false) (.int .i64 0) (.string ByteArray.empty) (.slice A2 (n + 1) c2) (.slice A5 (n + 1) c5)) (w.heap.size + 2) 27 [.int .i64 5, .bool false, .int .i64 0, .string ByteArray.empty, .slice A2 (n + 1) c2, .slice A5 (n + 1) c5] := hz6.put6
  obtain ⟨WF, eWF⟩ : ∃ WF, WF = put6 W6 (w.heap.size + 2) (.int .i64 5) (.bool false) (.int .i64 0) (.string ByteArray.empty) (.slice A2 (n + 1) c2) (.slice A5 (n + 1) c5) := ⟨_, rfl⟩
  have hgF : W6.grownBy WF (some (w.heap.size + 2)) := by rw [eWF]; exact gb_put6
  have hnF := hn6.kept hgF (.inr (fun e => by have := HA2.out _ e; omega))
  have hlF := hl6.kept hgF (.inr (fun e => by have := hap5 _ e; omega))
  have far : ∀ k, k < w.heap.size → (Value.slice A9 n c9).ownBlock ≠ some k → (Value.slice A0 n c0).ownBlock ≠ some k → WF.heap[k]? = w.heap[k]? := fun k hk h1 h2 => by
    have hs0 := HS0.out
    have hs6 := hg6.size
    rw [hgF.block k (by omega) (fun e => by injection e with e; omega), hg6.block k (by omega) (fun e => by injection e with e; omega), hgr5.block k (by omega) (fun e => h2 e.symm),
      hb4.block k (by omega), HG3.out.block k (by omega) (fun e => by injection e with e; omega), HG2.out.block k (by omega) (fun e => h1 e.symm), HB1.out.block k (by omega), HB0.out.block k hk]
  have hsF : w.heap.size ≤ WF.heap.size := by have := hg6.size; have := hgF.size; omega
  have hat2 := HAT2.out
  have HE : Hid (WithE B (ns ++ [t]) (l ++ [y]) (.slice A9 n c9) (.slice A0 n c0) w (.returned (jv 5 false 0 ByteArray.empty (.slice A2 (n + 1) c2) (.slice A5 (n + 1) c5))) WF) := by
    refine ⟨_, _, rfl, ⟨Nat.le_trans HSZ.out hsF, by simp [HEN.out, HEM.out], ?_, ?_, ⟨vs ++ [jv y.kind y.bool y.int (strOf y.text) (.slice B1 y.names.length d1) (.slice B2 y.list.length d2)], by simp [HVS.out], ?_, ?_⟩, fun b hb e => (hap5 b e).1 hb⟩, ?_⟩
    · intro p hp
      rcases List.mem_append.1 hp with h | h
      · exact HO.out.texts p h
      · simp at h; subst h; exact HT.out
    · have : tcells (ns ++ [t]) = tcells ns ++ [.string (strOf t)] := by simp [tcells]
      rw [this, List.length_append, HEN.out]
      exact hnF
    · rw [List.flatMap_append, List.length_append, HEM.out]
      simpa using hlF
    · intro i v x h1 h2
      have fK : ∀ b, (Value.slice A9 n c9).ownBlock ≠ some b → (Value.slice A0 n c0).ownBlock ≠ some b → b < w.heap.size → ((Value.slice A2 (n + 1) c2).ownBlock ≠ some b ∧ (Value.slice A5 (n + 1) c5).ownBlock ≠ some b) ∧ WF.heap[b]? = w.heap[b]? := fun b h1 h2 hlt => ⟨⟨fun e => by
        rcases hat2 with h | h
        · rw [h] at e; exact h1 e
        · rw [h] at e; injection e with e; omega, fun e => by
        rcases hat5 with h | h
        · rw [h] at e; exact h2 e
        · rw [h] at e; injection e with e; omega⟩, far b hlt h1 h2⟩
      by_cases hi : i < n
      · rw [List.getElem?_append_left (by rw [HVS.out, HEM.out]; exact hi)] at h1
        rw [List.getElem?_append_left (by rw [HEM.out]; exact hi)] at h2
        exact (HEL.out i v x h1 h2).keep (fun b hb hlt => ⟨⟨hb.1, (fK b hb.2.1 hb.2.2 hlt).1⟩, (fK b hb.2.1 hb.2.2 hlt).2⟩) hsF
      · rw [List.getElem?_append_right (by rw [HVS.out, HEM.out]; omega), HVS.out, HEM.out] at h1
        rw [List.getElem?_append_right (by rw [HEM.out]; omega), HEM.out] at h2
        have hi0 : i - n = 0 := by
          have := (List.getElem?_eq_some_iff.1 h2).1
          simp at this; omega
        rw [hi0] at h1 h2
        simp at h1 h2
        subst h1 h2
        exact HJ.out.keep (fun b hb hlt => ⟨⟨hb.1, (fK b hb.2.1 hb.2.2 hlt).1⟩, (fK b hb.2.1 hb.2.2 hlt).2⟩) hsF
    · refine ⟨?_, ?_, ?_, hsF, fun k hk h1 h2 => ⟨far k hk h1 h2, fun e => ?_, fun e => ?_⟩⟩
      · rw [hgF.os, hg6.os, hgr5.os, hb4.os, HG3.out.os, HG2.out.os, HB1.out.os, HB0.out.os]
      · rw [hgF.tape, hg6.tape, hgr5.tape, hb4.tape, HG3.out.tape, HG2.out.tape, HB1.out.tape, HB0.out.tape]
      · rw [hgF.output, hg6.output, hgr5.output, hb4.output, HG3.out.output, HG2.out.output, HB1.out.output, HB0.out.output]
      · rcases hat2 with h | h
        · rw [h] at e; exact h1 e
        · rw [h] at e; injection e with e; omega
      · rcases hat5 with h | h
        · rw [h] at e; exact h2 e
        · rw [h] at e; injection e with e; omega
  rw [eWF] at HE
  obtain ⟨⟨q0, q1, q2, q3, q4, q5⟩, _⟩ := hlf.six
  obtain ⟨⟨x0, x1, x2, x3, x4, x5⟩, _⟩ := hv6.six
  obtain ⟨_, g0, g1, g2, g3, g4, g5⟩ := hz6.six
  obtain ⟨⟨_, _, _, _, _, w5c⟩, _, _, _, _, _, f5⟩ := hv5.six
  have HW6 := Lib.hid eW6
  clear z5 y0 y1 y2 y3 y4 y5 hown5 hgr5 hat5 hv5 hz5 hn5 hap5 hg6 hn6 hl6 hgF hnF hlF far hsF hat2 hlf hv6 hz6 eWF eW6 hb4 hs4 hnc eW4 hne5 hS1 hS2 hS3 hsz5 hi0 hj0 hj1 hj2
  go_frame
  go_upto_region 7 with (fail)
  rw [← HW6.out]
  clear w5c f5
  go_wp2
  exact bodyPost_ret (v := jv 5 false 0 ByteArray.empty (.slice A2 (n + 1) c2) (.slice A5 (n + 1) c5)) (by simp [results, Tryd.results26, go_sem, q0, q1, q2, q3, q4, q5]) rfl HE.out
end Go.Proofs.YtnbaajdcakjlmaaDoor
