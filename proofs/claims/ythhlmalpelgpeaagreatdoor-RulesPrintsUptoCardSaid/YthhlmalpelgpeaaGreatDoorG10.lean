/-
  G10: ZN4 ZN5 ZPa, side by side.
-/
import Derived.Test.YthhlmalpelgpeaaGreatDoorG09
import Derived.Test.YthhlmalpelgpeaaGreatDoorG24

/-
  The tokens: the first one of a text; advancing.
-/
namespace Go.Proofs.YthhlmalpelgpeaaGreatDoor
open Go.RowKit

abbrev eqB : ByteArray := { data := #[61, 61] }
/-- Do two of these signs stand ahead? -/
def twoEq (l : List Nat) : Bool := decide (l.take 2 = [61, 61])
set_option maxHeartbeats 400000 in
set_option maxRecDepth 100000 in
theorem inPrefix_any (s : ByteArray) (w : World) : Calls Tryz.prog 81 #[.string s, .string eqB] w fun e w' => w = w' ∧ e = .returned (.bool (twoEq (numsOf s))) := by
  have hp := prefix_beq s [61, 61] (by decide)
  have hsz : (strOf [61, 61]).size = 2 := rfl
  rw [hsz, show strOf [61, 61] = eqB from rfl, show List.length [61, 61] = 2 from rfl] at hp
  by_cases h2 : 2 ≤ s.size
  · have d2 : decide ((2 : Int) ≤ (s.size : Int)) = true := decide_eq_true (by omega)
    rw [decide_eq_true h2, Bool.true_and] at hp
    rw [show eqB.toList = [61, 61] from by rw [ByteArray.toList_eq]] at hp
    have HE : Hid (((s.extract 0 2).toList == [61, 61]) = twoEq (numsOf s)) := hp
    have hle : (2 : Int) ≤ (s.size : Int) := by omega
    clear hp
    go_enter Tryz.func81, Tryz.ntmps81
    go_wp2
    go_ret
    exact ⟨rfl, by rw [← HE.out]; rfl⟩
  · have d2 : decide ((2 : Int) ≤ (s.size : Int)) = false := decide_eq_false (by omega)
    rw [decide_eq_false h2, Bool.false_and] at hp
    have HE : Hid (twoEq (numsOf s) = false) := hp.symm
    clear hp
    go_enter Tryz.func81, Tryz.ntmps81
    go_wp2
    go_ret
    exact ⟨rfl, by rw [HE.out]; rfl⟩
set_option maxRecDepth 100000 in
theorem zprefix_any (s : ByteArray) (w : World) : Calls Tryz.prog 62 #[.string s, .string eqB] w fun e w' => w = w' ∧ e = .returned (.bool (twoEq (numsOf s))) := by
  have hC := inPrefix_any s w
  go_enter Tryz.func62, Tryz.ntmps62
  go_wp2_with fail
  refine hC.mono ?_
  rintro e w1 ⟨rfl, rfl⟩
  clear hC
  go_wp2
  go_ret
  exact ⟨rfl, rfl⟩

/-! The first token, plain. -/
theorem next_text {r : List Nat} : Zq.next (39 :: r) = (Zq.textP r).map fun x => (.text x.1, x.2) := by
  unfold Zq.next
  rw [skip_on (by decide)]
  rfl
theorem next_eq {c : Nat} {r : List Nat} (h : twoEq (c :: r) = true) : Zq.next (c :: r) = some (.sign [61, 61], (c :: r).drop 2) := by
  unfold twoEq at h
  rw [decide_eq_true_iff] at h
  match r, h with
  | [], h => simp at h
  | d :: r, h =>
    simp at h
    obtain ⟨rfl, rfl⟩ := h
    unfold Zq.next
    rw [skip_on (by decide)]
    rfl
theorem next_sign {c : Nat} {r : List Nat} (hb : Zq.blank c = false) (hl : Zq.low c = false) (hd : Zq.dig c = false) (hq : c ≠ 39) (he : twoEq (c :: r) = false) :
    (kSign c ≠ 1 ∧ Zq.next (c :: r) = some (.sign [c], r) ∧ Zq.kOf (.sign [c]) = kSign c) ∨ (kSign c = 1 ∧ Zq.next (c :: r) = none) := by
  have hn : Zq.next (c :: r) = if c ∈ Zq.signs then some (.sign [c], r) else none := by
    unfold Zq.next
    rw [skip_on hb]
    simp only [hl, hd]
    rw [if_neg (by decide), if_neg (by decide), if_neg hq, if_neg]
    rintro ⟨rfl, h⟩
    cases r with
    | nil => cases h
    | cons d r => simp at h; subst h; simp [twoEq] at he
  have hs : ∀ c ∈ Zq.signs, kSign c ≠ 1 ∧ Zq.kOf (.sign [c]) = kSign c := by decide
  by_cases hm : c ∈ Zq.signs
  · exact .inl ⟨(hs c hm).1, by rw [hn, if_pos hm], (hs c hm).2⟩
  · refine .inr ⟨?_, by rw [hn, if_neg hm]⟩
    have : ∀ n ∈ [36, 40, 41, 44, 59, 61, 60, 43], n ∈ Zq.signs := by decide
    have hne : ∀ n ∈ [36, 40, 41, 44, 59, 61, 60, 43], c ≠ n := fun n hn e => hm (by rw [e]; exact this n hn)
    unfold kSign
    rw [if_neg (hne _ (by decide)), if_neg (hne _ (by decide)), if_neg (hne _ (by decide)), if_neg (hne _ (by decide)), if_neg (hne _ (by decide)), if_neg (hne _ (by decide)), if_neg (hne _ (by decide)), if_neg (hne _ (by decide))]
theorem skip_head {l r : List Nat} {c : Nat} (h : Zq.skip l = c :: r) : Zq.blank c = false := by
  unfold Zq.skip at h
  have := List.head?_dropWhile_not (p := Zq.blank) (l := l)
  rw [h] at this
  simpa using this
theorem next_skip (l : List Nat) : Zq.next (Zq.skip l) = Zq.next l := by
  have : Zq.skip (Zq.skip l) = Zq.skip l := by
    cases hs : Zq.skip l with
    | nil => rfl
    | cons c r => exact skip_on (skip_head hs)
  unfold Zq.next
  rw [this]
theorem TkEnd.form {S : List Nat} {w w' : World} {e : Ending} (h : TkEnd S w e w') : ∃ a t n, ∃ k : Nat, e = .returned (.tuple #[tokc a t n, .int .i64 (k : Int)]) := by
  rcases h.2 with ⟨x, q, k, _, h, _⟩ | ⟨_, t, n, k, h, _⟩
  · exact ⟨_, _, _, k, h⟩
  · exact ⟨_, _, _, k, h⟩
theorem QtEnd.tk {r : List Nat} {w w' : World} {e : Ending} (h : QtEnd (39 :: r) w e w') : TkEnd (39 :: r) w e w' := by
  obtain ⟨h1, h2⟩ := h
  refine ⟨h1, ?_⟩
  rw [next_text]
  rw [show (39 :: r).drop 1 = r from rfl] at h2
  cases ht : Zq.textP r with
  | none =>
    rw [ht] at h2
    exact .inr ⟨rfl, _, _, 0, h2, Nat.zero_le _⟩
  | some x =>
    obtain ⟨t, q⟩ := x
    rw [ht] at h2
    obtain ⟨k, k1, k2, k3⟩ := h2
    exact .inl ⟨.text t, q, k, rfl, k1, k2, k3⟩
set_option maxHeartbeats 2000000 in
set_option maxRecDepth 100000 in
theorem firstToken_any (s : ByteArray) (w : World) (hs : s.size ≤ 4096) (hH : HeldZ w) (hsk : ∀ c r, numsOf s = c :: r → Zq.blank c = false) :
    Calls Tryz.prog 34 #[.string s] w (TkEnd (numsOf s) w) := by
  have hb0 := box_below w (.cells zeroT.toArray 47)
  have hl0 : Lies (w.alloc (.cells zeroT.toArray 47)) w.heap.size 47 zeroT := Lies.new_ rfl
  have HL0 := Lib.hid hl0
  have HB0 := Lib.hid hb0
  rcases str_cases s with ⟨h1, h2, h3⟩ | ⟨h1, h2⟩
  · have he : s.toList.isEmpty = true := by rw [h1]; rfl
    have HE : Hid (TkEnd (numsOf s) w (.returned (.tuple #[tokc 2 { data := #[] } 0, .int .i64 0])) (w.alloc (.cells #[.int .i64 2, .string { data := #[] }, .int .i64 0] 47))) :=
      ⟨box_below _ _, .inl ⟨.fin, [], 0, by rw [h3]; rfl, rfl, Nat.zero_le _, by rw [h3]; rfl⟩⟩
    clear h3 hb0 hl0 hH
    go_enter Tryz.func34, Tryz.ntmps34
    go_wp2
    exact bodyPost_ret (v := .tuple #[tokc 2 { data := #[] } 0, .int .i64 0]) (by simp [results, Tryz.results34, go_sem]) rfl HE.out
  have he : s.toList.isEmpty = false := by
    cases hh : s.toList with
    | nil => exact absurd hh h1
    | cons a r => rfl
  obtain ⟨c, ec⟩ : ∃ c, s[0].toNat = c := ⟨_, rfl⟩
  have h256 : c < 256 := by rw [← ec]; exact s[0].toNat_lt
  obtain ⟨r, hS⟩ : ∃ r, numsOf s = c :: r := by
    have := head_is h2
    rw [ec] at this
    cases hh : numsOf s with
    | nil => rw [hh] at this; cases this
    | cons a r => rw [hh] at this; simp at this; exact ⟨r, by rw [this]⟩
  have HSK := Lib.hid (hsk c r hS)
  have HS := Lib.hid hS
  have HHW := Lib.hid (hH.below hb0)
  have hHW := hH.below hb0
  clear h1 hsk hb0 hl0
  by_cases h39 : c = 39
  · subst h39
    have hC := (quoted_any s (w.alloc (.cells zeroT.toArray 47)) hs h2)
    have HQ : Hid (∀ e w', QtEnd (numsOf s) (w.alloc (.cells zeroT.toArray 47)) e w' → TkEnd (numsOf s) (w.alloc (.cells zeroT.toArray 47)) e w') := fun e w' h => by
      rw [HS.out] at h ⊢
      exact h.tk
    have hC := hC.mono HQ.out
    clear HQ hS hHW hH
    go_enter Tryz.func34, Tryz.ntmps34
    go_wp2_with fail
    refine hC.mono ?_
    intro e w2 hh
    obtain ⟨a, t, n, k, rfl⟩ := hh.form
    have hb2 := hh.1
    have hl2 := HL0.out.below hb2 HL0.out.lt
    obtain ⟨⟨z0, z1, z2⟩, f0, f1, f2⟩ := hl2.cells3
    obtain ⟨⟨q0, q1, q2⟩, _⟩ := (hl2.tput (.int .i64 a) (.string t) (.int .i64 n)).cells3
    have HE : Hid (TkEnd (numsOf s) w (.returned (.tuple #[tokc a t n, .int .i64 (k : Int)])) (tput w2 w.heap.size (.int .i64 a) (.string t) (.int .i64 n))) := ⟨tput_below (below_more3 HB0.out hb2) (Nat.le_refl _), hh.2⟩
    clear hC hh hb2 hl2
    go_wp2
    exact bodyPost_ret (v := .tuple #[tokc a t n, .int .i64 (k : Int)]) (by simp [results, Tryz.results34, go_sem, q0, q1, q2]) rfl HE.out
  have e39 : ((c : Int) == 39) = false := beq_eq_false_iff_ne.2 (by omega)
  by_cases hlow : 97 ≤ c ∧ c ≤ 122
  · have hlo : Zq.low c = true := by unfold Zq.low; simp; omega
    have d1 : decide ((97 : Int) ≤ (c : Int)) = true := decide_eq_true (by omega)
    have d2 : decide ((c : Int) ≤ 122) = true := decide_eq_true (by omega)
    have hC := word_any s (w.alloc (.cells zeroT.toArray 47)) hs hHW hS hlo
    clear hS hHW hH hlow hlo h39
    go_enter Tryz.func34, Tryz.ntmps34
    go_wp2_with fail
    refine hC.mono ?_
    intro e w2 hh
    obtain ⟨a, t, n, k, rfl⟩ := hh.form
    have hb2 := hh.1
    have hl2 := HL0.out.below hb2 HL0.out.lt
    obtain ⟨⟨z0, z1, z2⟩, f0, f1, f2⟩ := hl2.cells3
    obtain ⟨⟨q0, q1, q2⟩, _⟩ := (hl2.tput (.int .i64 a) (.string t) (.int .i64 n)).cells3
    have HE : Hid (TkEnd (numsOf s) w (.returned (.tuple #[tokc a t n, .int .i64 (k : Int)])) (tput w2 w.heap.size (.int .i64 a) (.string t) (.int .i64 n))) := ⟨tput_below (below_more3 HB0.out hb2) (Nat.le_refl _), hh.2⟩
    clear hC hh hb2 hl2
    go_wp2
    exact bodyPost_ret (v := .tuple #[tokc a t n, .int .i64 (k : Int)]) (by simp [results, Tryz.results34, go_sem, q0, q1, q2]) rfl HE.out
  have hlo : Zq.low c = false := by unfold Zq.low; simp; omega
  have hdl : decide ((97 : Int) ≤ (c : Int)) = false ∨ (decide ((97 : Int) ≤ (c : Int)) = true ∧ decide ((c : Int) ≤ 122) = false) := by
    by_cases h : 97 ≤ c
    · exact .inr ⟨decide_eq_true (by omega), decide_eq_false (by omega)⟩
    · exact .inl (decide_eq_false (by omega))
  by_cases hdig : 48 ≤ c ∧ c ≤ 57
  · have hdi : Zq.dig c = true := by unfold Zq.dig; simp; omega
    have d3 : decide ((48 : Int) ≤ (c : Int)) = true := decide_eq_true (by omega)
    have d4 : decide ((c : Int) ≤ 57) = true := decide_eq_true (by omega)
    have d1 : decide ((97 : Int) ≤ (c : Int)) = false := decide_eq_false (by omega)
    have hC := number_any s (w.alloc (.cells zeroT.toArray 47)) hs hHW hS hdi
    clear hS hHW hH hlow hlo h39 hdl hdig hdi
    go_enter Tryz.func34, Tryz.ntmps34
    go_wp2_with fail
    refine hC.mono ?_
    intro e w2 hh
    obtain ⟨a, t, n, k, rfl⟩ := hh.form
    have hb2 := hh.1
    have hl2 := HL0.out.below hb2 HL0.out.lt
    obtain ⟨⟨z0, z1, z2⟩, f0, f1, f2⟩ := hl2.cells3
    obtain ⟨⟨q0, q1, q2⟩, _⟩ := (hl2.tput (.int .i64 a) (.string t) (.int .i64 n)).cells3
    have HE : Hid (TkEnd (numsOf s) w (.returned (.tuple #[tokc a t n, .int .i64 (k : Int)])) (tput w2 w.heap.size (.int .i64 a) (.string t) (.int .i64 n))) := ⟨tput_below (below_more3 HB0.out hb2) (Nat.le_refl _), hh.2⟩
    clear hC hh hb2 hl2
    go_wp2
    exact bodyPost_ret (v := .tuple #[tokc a t n, .int .i64 (k : Int)]) (by simp [results, Tryz.results34, go_sem, q0, q1, q2]) rfl HE.out
  have hdi : Zq.dig c = false := by unfold Zq.dig; simp; omega
  have hdd : decide ((48 : Int) ≤ (c : Int)) = false ∨ (decide ((48 : Int) ≤ (c : Int)) = true ∧ decide ((c : Int) ≤ 57) = false) := by
    by_cases h : 48 ≤ c
    · exact .inr ⟨decide_eq_true (by omega), decide_eq_false (by omega)⟩
    · exact .inl (decide_eq_false (by omega))
  have hP := zprefix_any s (w.alloc (.cells zeroT.toArray 47))
  obtain ⟨b, eb⟩ : ∃ b, twoEq (numsOf s) = b := ⟨_, rfl⟩
  rw [eb] at hP
  rw [hS] at eb
  cases b with
  | true =>
    have HE : Hid (TkEnd (numsOf s) w (.returned (.tuple #[tokc 11 { data := #[] } 0, .int .i64 2])) (w.alloc (.cells #[.int .i64 11, .string { data := #[] }, .int .i64 0] 47))) :=
      ⟨box_below _ _, .inl ⟨.sign [61, 61], _, 2, by rw [hS]; exact next_eq eb, rfl, by
        rw [hS]
        unfold twoEq at eb
        rw [decide_eq_true_iff] at eb
        have := congrArg List.length eb
        rw [List.length_take] at this
        simp at this ⊢
        omega, by rw [hS]⟩⟩
    clear hS hHW hH hlow hlo h39 hdig hdi eb
    rcases hdl with d1 | ⟨d1, d2⟩
    all_goals
      rcases hdd with d3 | ⟨d3, d4⟩
      all_goals
        go_enter Tryz.func34, Tryz.ntmps34
        go_wp2_with fail
        refine hP.mono ?_
        rintro e w2 ⟨rfl, rfl⟩
        clear hP
        go_wp2
        exact bodyPost_ret (v := .tuple #[tokc 11 { data := #[] } 0, .int .i64 2]) (by simp [results, Tryz.results34, go_sem]) rfl HE.out
  | false =>
    have hSg := sign_any c (w.alloc (.cells zeroT.toArray 47))
    have HE : Hid (TkEnd (numsOf s) w (.returned (.tuple #[tokc (kSign c : Nat) { data := #[] } 0, .int .i64 1])) (w.alloc (.cells #[.int .i64 (kSign c : Nat), .string { data := #[] }, .int .i64 0] 47))) := by
      refine ⟨box_below _ _, ?_⟩
      rw [hS]
      rcases next_sign HSK.out hlo hdi h39 eb with ⟨k1, k2, k3⟩ | ⟨k1, k2⟩
      · exact .inl ⟨.sign [c], r, 1, k2, by rw [k3]; rfl, by simp, rfl⟩
      · exact .inr ⟨k2, { data := #[] }, 0, 1, by rw [k1]; rfl, by simp⟩
    obtain ⟨K, eK⟩ : ∃ K : Nat, kSign c = K := ⟨_, rfl⟩
    rw [eK] at hSg HE
    clear hS hHW hH hlow hlo h39 hdig hdi eb eK
    rcases hdl with d1 | ⟨d1, d2⟩
    all_goals
      rcases hdd with d3 | ⟨d3, d4⟩
      all_goals
        go_enter Tryz.func34, Tryz.ntmps34
        go_wp2_with fail
        refine hP.mono ?_
        rintro e w2 ⟨rfl, rfl⟩
        clear hP
        go_wp2_with fail
        refine hSg.mono ?_
        rintro e w2 ⟨rfl, rfl⟩
        clear hSg
        go_wp2
        exact bodyPost_ret (v := .tuple #[tokc (K : Int) { data := #[] } 0, .int .i64 1]) (by simp [results, Tryz.results34, go_sem]) rfl HE.out
end Go.Proofs.YthhlmalpelgpeaaGreatDoor

/-
  The tokens: advancing.
-/
namespace Go.Proofs.YthhlmalpelgpeaaGreatDoor
open Go.RowKit

theorem gb_high {w w4 : World} {S G : Nat} (h : w.grownBy w4 (some S)) (hG : w.heap.size ≤ G) (i : Nat) (v : Value) : w.grownBy (w4.setCell ⟨G, i, none⟩ v) (some S) :=
  ⟨h.os, h.tape, h.output, by simpa [World.setCell] using h.size, fun k hk hne => (Below.heap_setCell w4 _ v k (fun e => by have : k = G := e; omega)).trans (h.block k hk hne)⟩
set_option maxHeartbeats 2000000 in
set_option maxRecDepth 100000 in
theorem adv_ok : AdvOk := by
  intro S s w w0 hH hB0 hS0 hL hs
  obtain ⟨c0, f0⟩ : w.cell? ⟨S, 0, none⟩ = some (.string s) ∧ w.frozen? ⟨S, 0, none⟩ = false := ⟨hL.cell 0, hL.free 0⟩
  have hltS := hL.lt
  have hG0 := box_below w (.cells zeroT.toArray 47)
  have HLG : Hid (Lies (w.alloc (.cells zeroT.toArray 47)) w.heap.size 47 zeroT) := Lies.new_ rfl
  have HLS := Lib.hid (hL.below hG0 hltS)
  have HG0 := Lib.hid hG0
  have HH : Hid (HeldZ w0) := hH
  have HB0 := Lib.hid hB0
  have HS0 : Hid (w0.heap.size ≤ S ∧ S < w.heap.size) := ⟨hS0, hltS⟩
  have HSM : Hid (s.size ≤ 4096) := hs
  have hT := ztrimBlank s (w.alloc (.cells zeroT.toArray 47))
  clear hL hH hB0 hS0 hG0 hs
  go_enter Tryz.func32, Tryz.ntmps32
  go_wp2_with fail
  refine hT.mono ?_
  rintro e w1 ⟨s1, rfl, hs1, hb⟩
  clear hT c0 f0 hltS
  have HB1 := Lib.hid (below_more3 HG0.out hb)
  have HLG1 := Lib.hid (HLG.out.below hb HLG.out.lt)
  have hl1 := HLS.out.below hb HLS.out.lt
  obtain ⟨c0, f0⟩ : w1.cell? ⟨S, 0, none⟩ = some (.string s) ∧ w1.frozen? ⟨S, 0, none⟩ = false := ⟨hl1.cell 0, hl1.free 0⟩
  have hl2 : Lies (w1.setCell ⟨S, 0, none⟩ (.string s1)) S 9 [.string s1] := by have := hl1.put 0 (.string s1); exact this
  have HGB2 : Hid (w.grownBy (w1.setCell ⟨S, 0, none⟩ (.string s1)) (some S)) := gbz_trans (gbz_below HB1.out) (gbz_set _ _ _ _)
  have HLG2 := Lib.hid (HLG1.out.grown (gbz_set w1 S 0 (.string s1)) (fun e => by have := HS0.out.2; injection e with e; omega))
  have hsz1 : s1.size ≤ s.size := by
    have := (List.dropWhile_sublist Zq.blank (l := numsOf s)).length_le
    have h2 : (numsOf s1).length ≤ (numsOf s).length := by rw [hs1]; exact this
    rw [numsOf_length, numsOf_length] at h2
    exact h2
  have hheld : HeldZ (w1.setCell ⟨S, 0, none⟩ (.string s1)) := HH.out.below ((HB0.out.trans (HB1.out.mono HB0.out.size)).setCell HS0.out.1 _)
  have hC := firstToken_any s1 (w1.setCell ⟨S, 0, none⟩ (.string s1)) (Nat.le_trans hsz1 HSM.out) hheld (fun c r h => skip_head (l := numsOf s) (by rw [← hs1, h]))
  have HNX : Hid (Zq.next (numsOf s1) = Zq.next (numsOf s)) := by unfold Hid; rw [hs1, next_skip]
  have HL2 := Lib.hid hl2
  have HSZ : Hid (s1.size ≤ s.size) := hsz1
  clear hl1 hl2 hheld hs1 hsz1 hb
  go_wp2_with fail
  refine hC.mono ?_
  intro e w3 hh
  clear hC
  obtain ⟨W2, eW2⟩ : ∃ W2, W2 = w1.setCell ⟨S, 0, none⟩ (.string s1) := ⟨_, rfl⟩
  rw [← eW2] at HL2 HGB2 HLG2 hh
  have hb3 := hh.1
  have hl3 := HL2.out.below hb3 HL2.out.lt
  have hlg3 := HLG2.out.below hb3 HLG2.out.lt
  have HGB3 := Lib.hid (gbz_trans HGB2.out (gbz_below (r := some S) hb3))
  obtain ⟨a, t, n, k, rfl⟩ := hh.form
  have hk : k ≤ s1.size := by
    rcases hh.2 with ⟨x, q, k', h1, h2, h3, h4⟩ | ⟨h1, t', n', k', h2, h3⟩
    · simp at h2
      rw [numsOf_length] at h3
      omega
    · simp at h2
      rw [numsOf_length] at h3
      omega
  have hltS := hl3.lt
  have hltG := hlg3.lt
  clear c0 f0
  obtain ⟨c0, f0⟩ : w3.cell? ⟨S, 0, none⟩ = some (.string s1) ∧ w3.frozen? ⟨S, 0, none⟩ = false := ⟨hl3.cell 0, hl3.free 0⟩
  obtain ⟨⟨z0, z1, z2⟩, g0, g1, g2⟩ := hlg3.cells3
  have hk1 : (0 : Int) ≤ (k : Int) := by omega
  have hk2 : (k : Int) ≤ (s1.size : Int) := by omega
  have hne : w.heap.size ≠ S := by have := HS0.out.2; omega
  have hne2 : S ≠ w.heap.size := fun e => hne e.symm
  have hlS4 : Lies (w3.setCell ⟨S, 0, none⟩ (.string (s1.extract k s1.size))) S 9 [.string (s1.extract k s1.size)] := by have := hl3.put 0 (.string (s1.extract k s1.size)); exact this
  have hlG4 : Lies (w3.setCell ⟨S, 0, none⟩ (.string (s1.extract k s1.size))) w.heap.size 47 zeroT := hlg3.far (fun e => hne e) _
  have hgb4 : w.grownBy (w3.setCell ⟨S, 0, none⟩ (.string (s1.extract k s1.size))) (some S) := gbz_trans HGB3.out (gbz_set _ _ _ _)
  obtain ⟨⟨q0, q1, q2⟩, _⟩ := ((hlG4.tput (.int .i64 a) (.string t) (.int .i64 n)).alloc (.cells #[.int .i64 a, .string t, .int .i64 n] 47)).cells3
  have HE : Hid (AdvEnd S s w (.returned (tokc a t n)) ((tput (w3.setCell ⟨S, 0, none⟩ (.string (s1.extract k s1.size))) w.heap.size (.int .i64 a) (.string t) (.int .i64 n)).alloc (.cells #[.int .i64 a, .string t, .int .i64 n] 47))) := by
    refine ⟨gbz_trans (gb_high (gb_high (gb_high hgb4 (Nat.le_refl _) 0 _) (Nat.le_refl _) 1 _) (Nat.le_refl _) 2 _) (gbz_below (box_below _ _)), s1.extract k s1.size, ((hlS4.far (fun e => hne2 e) _).far (fun e => hne2 e) _).far (fun e => hne2 e) _ |>.alloc _, ?_, ?_⟩
    · have := HSZ.out
      rw [ByteArray.size_extract]; omega
    · rw [← HNX.out]
      rcases hh.2 with ⟨x, q, k', h1, h2, h3, h4⟩ | ⟨h1, t', n', k', h2, h3⟩
      · refine .inl ⟨x, q, h1, ?_, ?_⟩
        · simp only [Ending.returned.injEq, Value.tuple.injEq, Array.mk.injEq, List.cons.injEq] at h2
          rw [h2.1]
        · have : k' = k := by simp at h2; omega
          subst this
          rw [nums_from, h4]
      · refine .inr ⟨h1, t', n', ?_⟩
        simp only [Ending.returned.injEq, Value.tuple.injEq, Array.mk.injEq, List.cons.injEq] at h2
        rw [h2.1]
  clear hlS4 hlG4 hgb4 hh hb3 hl3 hlg3
  go_wp2
  exact bodyPost_ret (v := tokc a t n) (by simp [results, Tryz.results32, go_sem, q0, q1, q2]) rfl HE.out
end Go.Proofs.YthhlmalpelgpeaaGreatDoor

/-
  Parse.
-/
namespace Go.Proofs.YthhlmalpelgpeaaGreatDoor
open Go.RowKit
set_option maxRecDepth 100000 in
theorem tokens_any (s : ByteArray) (w : World) : Calls Tryz.prog 21 #[.string s] w fun e w' => e = .returned (.func (.func 32) #[] #[.pointer (some ⟨w.heap.size, 0, none⟩)]) ∧ w' = w.alloc (.cells #[.string s] 9) := by
  have hmf := mf_any
  go_enter Tryz.func21, Tryz.ntmps21
  go_wp2
  go_ret
  exact ⟨rfl, rfl⟩
theorem Ro.below {W0 w : World} {R S B : Nat} {l : List Nat} (h : Ro W0 R S B l w) : Below W0.heap.size W0 w := by
  obtain ⟨W, ns, rfl, h2, h3, k, t, n, nv, s, e1, e2, e3, h4⟩ := h
  exact h4.held.2.1
theorem Rb.below {W0 w : World} {R S B : Nat} (h : Rb W0 R S B w) : Below W0.heap.size W0 w := by
  obtain ⟨W, m, rfl, h2, h3, h5, k, t, n, nv, d, f, s, ns, e1, e2, h4⟩ := h
  exact h4.held.2.1
/-- How Parse ends. -/
def ParseEnd (l : List Nat) (w : World) (e : Ending) (w' : World) : Prop :=
  Below w.heap.size w w' ∧ ((∃ rs lv R S, Zq.parse l = .ok rs ∧ e = .returned (.tuple #[lv, .int .i64 0]) ∧ RowR R S (w.heap.size + 2) rs lv w' ∧ rs.length ≤ 16) ∨
    ((∃ er, Zq.parse l = .error er) ∧ ∃ f, f ≠ 0 ∧ e = .returned (.tuple #[.slice none 0 0, .int .i64 f])))
set_option maxHeartbeats 2000000 in
set_option maxRecDepth 100000 in
theorem parse_any (s : ByteArray) (w : World) (hH : HeldZ w) :
    Calls Tryz.prog 14 #[.string s] w (ParseEnd (numsOf s) w) := by
  have Hlen := Lib.hid (numsOf_length s)
  by_cases hl : 4096 < s.size
  · have d : decide ((4096 : Int) < (s.size : Int)) = true := decide_eq_true (by omega)
    have HE : Hid (ParseEnd (numsOf s) w (.returned (.tuple #[.slice none 0 0, .int .i64 110])) w) := ⟨Below.refl _ _, .inr ⟨⟨110, by unfold Zq.parse; rw [if_pos (by rw [Hlen.out]; exact hl)]⟩, 110, by decide, rfl⟩⟩
    clear hl
    go_enter Tryz.func14, Tryz.ntmps14
    go_wp2
    go_ret2
    exact HE.out
  have d : decide ((4096 : Int) < (s.size : Int)) = false := decide_eq_false (by omega)
  have HP : Hid (Zq.parse (numsOf s) = Zq.rulesP 18 [] (numsOf s)) := by unfold Hid Zq.parse; rw [if_neg (by rw [Hlen.out]; exact hl)]
  have hT := tokens_any s w
  obtain ⟨w1, ew1⟩ : ∃ w1, w1 = w.alloc (.cells #[.string s] 9) := ⟨_, rfl⟩
  obtain ⟨wz, ewz⟩ : ∃ wz, wz = w1.alloc (.cells #[.nilFunc, .int .i64 0, .string { data := #[] }, .int .i64 0, .slice none 0 0, .int .i64 0, .int .i64 0] 49) := ⟨_, rfl⟩
  obtain ⟨w2, ew2⟩ : ∃ w2, w2 = wz.setRow (w.heap.size + 1) (rcells w.heap.size 0 { data := #[] } 0 (.slice none 0 0) 0 0).toArray := ⟨_, rfl⟩
  have hb1 : Below w.heap.size w w1 := by rw [ew1]; exact box_below _ _
  have hs1 : w1.heap.size = w.heap.size + 1 := by rw [ew1]; simp
  have hl1 : Lies w1 w.heap.size 9 [.string s] := by rw [ew1]; exact Lies.new_ rfl
  have hlz : Lies wz (w.heap.size + 1) 49 [.nilFunc, .int .i64 0, .string { data := #[] }, .int .i64 0, .slice none 0 0, .int .i64 0, .int .i64 0] := by rw [ewz]; exact Lies.new_ hs1.symm
  have hb2 : Below w1.heap.size w1 w2 := by rw [ew2, ewz]; exact below_row (box_below _ _) (by omega)
  have hs2 : w2.heap.size = w.heap.size + 2 := by rw [ew2, ewz]; simp [hs1]
  have hl2 : Lies w2 (w.heap.size + 1) 49 (rcells w.heap.size 0 { data := #[] } 0 (.slice none 0 0) 0 0) := by rw [ew2]; exact hlz.row
  have hro : Ro w (w.heap.size + 1) w.heap.size 0 (numsOf s) w2 := by
    refine ⟨⟨w, w2, fun _ => none⟩, [], rfl, fun _ => rfl, Nat.zero_le _, 0, { data := #[] }, 0, .slice none 0 0, s, .inl ⟨rfl, rfl⟩, by decide, by decide, ⟨hH, below_more3 hb1 hb2, by show w.heap.size ≤ _; omega, Nat.le_refl _⟩, hl2, hl1.below hb2 hl1.lt, by omega, ?_, ?_, Fr.refl _ _ _, World.ownsRow_nil _ _ _ _, by omega, fun b o e => by cases e⟩
    · show w.heap.size + 1 < w2.heap.size; omega
    · show w.heap.size < w2.heap.size; omega
  have hC := rules_any adv_ok hro
  rw [hs2] at hC
  have HW2 := Lib.hid ew2
  have HWZ := Lib.hid ewz
  have HLZ := Lib.hid hlz
  have HW1 := Lib.hid ew1
  have HS1 := Lib.hid hs1
  clear hl hb1 hb2 hl1 hl2 hro hs2 hH ew2 ew1 ewz hlz
  go_enter Tryz.func14, Tryz.ntmps14
  go_wp2_with fail
  refine hT.mono ?_
  rintro e w1' ⟨rfl, ew⟩
  clear hT
  rw [← HW1.out] at ew
  subst ew
  repeat ((fail_if_success (with_reducible show wpList _ _ _ (⟨none, _, _, _, _, _⟩ :: _) _ _)); first | go_values | go_skip | go_guarded | go_step | go_upon | go_back | go_simp)
  rw [← HWZ.out]
  refine store_lies rfl 49 (.tmp 4) (.tmp 11) rfl (w.heap.size + 1) (rcells w.heap.size 0 { data := #[] } 0 (.slice none 0 0) 0 0) _ _ HLZ.out rfl rfl (by kernel_rfl) rfl rfl ?_
  rw [← HW2.out]
  go_frame
  go_wp2_with fail
  refine hC.mono ?_
  intro e w3 hh
  clear hC
  rcases hh with ⟨rs, lv, q, hres, rfl, hrow, h16, h3⟩ | ⟨⟨er, hres⟩, ⟨A, n, c, rfl⟩, h3⟩
  · have c6 := h3.cell6
    have HE : Hid (ParseEnd (numsOf s) w (.returned (.tuple #[lv, .int .i64 0])) w3) := ⟨h3.below, .inl ⟨rs, lv, _, _, by rw [HP.out, hres], rfl, hrow, h16⟩⟩
    clear h3 hrow hres
    go_wp2
    go_ret2
    exact HE.out
  · obtain ⟨f, hf, c6⟩ := h3.cell6
    have HE : Hid (∀ w4, Below w3.heap.size w3 w4 → ParseEnd (numsOf s) w (.returned (.tuple #[.slice none 0 0, .int .i64 f])) w4) := fun w4 hb => ⟨below_more3 h3.below hb, .inr ⟨⟨er, by rw [HP.out, hres]⟩, f, hf, rfl⟩⟩
    have hne : (f != 0) = true := bne_int hf
    clear h3 hres hf
    go_upto_region 6 with (fail)
    go_quiet (fail)
    have HX := Lib.hid (HE.out (w3.drewN nq) ⟨rfl, rfl, rfl, Nat.le_refl _, fun _ _ => rfl⟩)
    go_wp2
    go_ret2
    exact HX.out
end Go.Proofs.YthhlmalpelgpeaaGreatDoor
