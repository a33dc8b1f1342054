/-
  QF: JItemO, side by side.
-/
import Derived.Test.YthklgpflaghojaaGreatDoorQD
import Derived.Deep.DeepCutAuto

/-
  The closure of the reader's object: a name and its value more.
-/
namespace Go.Proofs.YthklgpflaghojaaGreatDoor
open Go.RowKit

theorem Jq.itemO_name (elem : List Nat → Jq.R Jq.J) (s : List (List Nat) × List Jq.J) (l : List Nat) : Jq.itemO elem s l =
    match nameP s.1 l with
    | .error e => .error e
    | .ok (t, r) => match mustP 58 r with
      | .error e => .error e
      | .ok (_, r2) => (elem r2).map fun q => ((s.1 ++ [t], s.2 ++ [q.1]), q.2) := by
  rw [Jq.itemO_if, nameP]
  split
  · cases Jq.text ((Jq.skip l).drop 1) with
    | error e => rfl
    | ok p =>
      obtain ⟨t, r⟩ := p
      simp only
      by_cases hn : t ∈ s.1
      · rw [if_pos hn, if_pos hn]
      · rw [if_neg hn, if_neg hn]
        simp only [mustP]
        split <;> rfl
  · rfl

/-- One name more. -/
theorem Box.name {kind : Int} {B Rb V R g cap : Nat} {ns : List (List Nat)} {l : List Jq.J} {nv lv : Value} {t : List Nat} {w1 w2 : World}
    (h : Box kind B Rb V R ns l nv lv w1) (ht : t.length ≤ 4096 ∧ ∀ x ∈ t, x < 256) (hgr : w1.grownBy w2 nv.ownBlock) (hg : nv.ownBlock = some g ∨ g = w1.heap.size)
    (hown : w2.ownsRow B 9 1 (.slice (some ⟨g, 0, none⟩) (ns.length + 1) cap) (ns.length + 1) (tcells ns ++ [.string (strOf t)])) :
    Box kind B Rb V R (ns ++ [t]) l (.slice (some ⟨g, 0, none⟩) (ns.length + 1) cap) lv (w2.setCell ⟨V, 4, none⟩ (.slice (some ⟨g, 0, none⟩) (ns.length + 1) cap)) := by
  have hV := h.hV
  have hRb := h.hRb
  have hnlt := h.names.lt
  have hgB : B ≤ g := (hown.lt g rfl).1
  have hllt : ∀ k, lv.ownBlock = some k → B ≤ k ∧ k < w1.heap.size := by
    obtain ⟨_, _, ho, _⟩ := h.rows
    exact ho.lt
  have key : ∀ k, k < w1.heap.size → k ≠ V → nv.ownBlock ≠ some k → (w2.setCell ⟨V, 4, none⟩ (.slice (some ⟨g, 0, none⟩) (ns.length + 1) cap)).heap[k]? = w1.heap[k]? := fun k h1 h2 h3 => by
    rw [Below.heap_setCell _ _ _ _ h2, hgr.block k h1 (fun e => h3 e.symm)]
  have hs : w1.heap.size ≤ (w2.setCell ⟨V, 4, none⟩ (.slice (some ⟨g, 0, none⟩) (ns.length + 1) cap)).heap.size := by
    have := hgr.size
    simpa [World.setCell] using this
  have lapart : ∀ b, lv.ownBlock = some b → b ≠ g := fun b hb => by
    rcases hg with hg | hg
    · exact fun e => h.apart g hg (by rw [← e]; exact hb)
    · have := (hllt b hb).2; omega
  have hbox : Lies w2 V 26 [.int .i64 kind, .bool false, .int .i64 0, .string ByteArray.empty, nv, lv] := h.box.grown hgr (fun e => by have := (hnlt V e.symm).1; omega)
  refine { h with
    box := by have := hbox.put 4 (.slice (some ⟨g, 0, none⟩) (ns.length + 1) cap); simpa using this
    ptr := (key Rb h.ptr.lt (Ne.symm h.hVRb) (fun e => by have := (hnlt _ e).1; omega)).trans h.ptr
    names := ?_
    nlt := fun p hp => by
      rcases List.mem_append.1 hp with hp | hp
      · exact h.nlt p hp
      · rw [List.mem_singleton.1 hp]; exact ht
    rows := ?_
    apart := fun b hb e => lapart b e (by simpa [Value.ownBlock] using hb.symm)
    size := Nat.le_trans h.size hs }
  · have e : tcells (ns ++ [t]) = tcells ns ++ [.string (strOf t)] := by simp [tcells]
    rw [e, List.length_append]
    exact own_far hown (fun k hk => Below.heap_setCell _ _ _ _ (by
      have hk : g = k := by simpa [Value.ownBlock] using hk
      show k ≠ V
      omega))
  · obtain ⟨vs, hvs, ho, hel⟩ := h.rows
    refine ⟨vs, hvs, own_far ho (fun k hk => key k (hllt k hk).2 (by have := (hllt k hk).1; omega) (fun e => h.apart k e hk)), fun i u y e1 e2 => (hel i u y e1 e2).keep (fun b hb hlt => ⟨⟨hb.1, fun e => ?_, hb.2.2⟩, key b hlt (by have := hb.1; omega) hb.2.1⟩) hs⟩
    have hbg : g = b := by simpa [Value.ownBlock] using e
    rcases hg with hg | hg
    · exact hb.2.1 (by rw [← hbg]; exact hg)
    · omega
/-- The object under way. -/
def ObjSt (B0 B Rb V R : Nat) (p : List (List Nat) × List Jq.J) (w : World) : Prop := ∃ nv lv, Box 5 B Rb V R p.1 p.2 nv lv w ∧ p.1.length = p.2.length ∧ B0 ≤ V ∧ B0 ≤ B
/-- Behind the name. -/
def NameDone (W : World) (R d B0 B Rb V : Nat) (ns : List (List Nat)) (l : List Jq.J) (lv : Value) (NP : Jq.R (List Nat)) (w wc : World) : Prop :=
  ∃ t s1 nv, NP = .ok (t, numsOf s1) ∧ Box 5 B Rb V R (ns ++ [t]) l nv lv wc ∧ Rd W R s1 d wc ∧ Far B0 R w wc
theorem name_done {B0 B Rb V R g cap d : Nat} {ns : List (List Nat)} {l : List Jq.J} {nv lv : Value} {t : List Nat} {W w wA w2 : World} {s1 : ByteArray} {NP : Jq.R (List Nat)}
    (kA : Box 5 B Rb V R ns l nv lv wA) (hRA : Rd W R s1 d wA) (hFA : Far B0 R w wA) (ht : t.length ≤ 4096 ∧ ∀ x ∈ t, x < 256)
    (hgr : wA.grownBy w2 nv.ownBlock) (hg : nv.ownBlock = some g ∨ g = wA.heap.size)
    (hown : w2.ownsRow B 9 1 (.slice (some ⟨g, 0, none⟩) (ns.length + 1) cap) (ns.length + 1) (tcells ns ++ [.string (strOf t)]))
    (hB1 : B0 ≤ V) (hB3 : B0 ≤ B) (hWB : W.heap.size ≤ B0) (hNP : NP = .ok (t, numsOf s1)) :
    NameDone W R d B0 B Rb V ns l lv NP w (w2.setCell ⟨V, 4, none⟩ (.slice (some ⟨g, 0, none⟩) (ns.length + 1) cap)) := by
  have hR := kA.hR
  have hRV := kA.hRV
  have hn := kA.names.lt
  have hle := hRA.le
  have hF2 : Far B0 R wA w2 := Far.of_row hgr (fun k e => (hn k e).1) hB3 (Nat.le_trans hB3 kA.size)
  have hFa := hF2.trans (Far.set (R := R) w2 (i := 4) (.slice (some ⟨g, 0, none⟩) (ns.length + 1) cap) hB1)
  have hR3 : (w2.setCell ⟨V, 4, none⟩ (.slice (some ⟨g, 0, none⟩) (ns.length + 1) cap)).heap[R]? = wA.heap[R]? := by
    rw [Below.heap_setCell _ _ _ _ hRV]
    exact hgr.block R hRA.lt (fun e => by have := (hn R e.symm).1; omega)
  refine ⟨t, s1, _, hNP, kA.name ht hgr hg hown, ⟨hRA.held, ?_, hRA.le, hR3.trans hRA.lies, hRA.small, hRA.deep⟩, hFA.trans hFa⟩
  exact hRA.below.trans ⟨hFa.os, hFa.tape, hFa.output, hFa.size, fun k hk => hFa.block k (by omega) (by omega)⟩
theorem itemO_cut {elem : List Nat → Jq.R Jq.J} {ns : List (List Nat)} {l : List Jq.J} {L : List Nat} {RES : Jq.R (List (List Nat) × List Jq.J)} (h : Jq.itemO elem (ns, l) L = RES) :
    (∀ m, nameP ns L = .error m → RES = .error m) ∧
    (∀ t r m, nameP ns L = .ok (t, r) → mustP 58 r = .error m → RES = .error m) ∧
    (∀ t r r2 m, nameP ns L = .ok (t, r) → mustP 58 r = .ok ((), r2) → elem r2 = .error m → RES = .error m) ∧
    (∀ t r r2 x r3, nameP ns L = .ok (t, r) → mustP 58 r = .ok ((), r2) → elem r2 = .ok (x, r3) → RES = .ok ((ns ++ [t], l ++ [x]), r3)) := by
  rw [Jq.itemO_name] at h
  subst h
  refine ⟨fun m h1 => ?_, fun t r m h1 h2 => ?_, fun t r r2 m h1 h2 h3 => ?_, fun t r r2 x r3 h1 h2 h3 => ?_⟩
  · simp only [h1]
  · simp only [h1, h2]
  · simp only [h1, h2, h3]; rfl
  · simp only [h1, h2, h3]; rfl
theorem after_names {kind : Int} {B Rb V R : Nat} {ns : List (List Nat)} {l : List Jq.J} {nv lv : Value} {wA w2 : World} (kA : Box kind B Rb V R ns l nv lv wA) (hgr : wA.grownBy w2 nv.ownBlock) :
    w2.cell? ⟨V, 4, none⟩ = some nv ∧ w2.frozen? ⟨V, 4, none⟩ = false := by
  have hV := kA.hV
  have hb2 := kA.box.grown hgr (fun e => by have := (kA.names.lt V e.symm).1; omega)
  exact ⟨hb2.cell 4, hb2.free 4⟩
theorem text_new (w : World) (x : Value) : ∀ (j : Nat) u, [x][j]? = some u → (w.alloc (.cells #[x] 9)).cell? ((⟨w.heap.size, 0, none⟩ : Addr).add j) = some u := fun j u hj => new_cells w _ _ j u hj

set_option maxHeartbeats 16000000 in
set_option maxRecDepth 100000 in
theorem itemO_any (n : Nat) (hV : ValueOk n) (W : World) (R B0 B Rb V : Nat) (ns : List (List Nat)) (l : List Jq.J) (s : ByteArray) (w : World) (h : Rd W R s (16 - n) w) (hst : ObjSt B0 B Rb V R (ns, l) w) (hWB : W.heap.size ≤ B0) (hcount : l.length + s.size ≤ 4096) :
    Calls Tryz.prog 140 #[.pointer (some ⟨V, 0, none⟩), .pointer (some ⟨Rb, 0, none⟩)] w fun e w' => ItemEnd W R (16 - n) B0 w (ObjSt B0 B Rb V R) (Jq.itemO (Jq.value n) (ns, l) (numsOf s)) e w' := by
  obtain ⟨nv, lv, hbox, hnl, hB1, hB3⟩ := hst
  have HNL : Hid (ns.length = l.length) := hnl
  have hnc : ns.length ≤ 4096 := by rw [HNL.out]; omega
  clear hnl
  have hbox : Box 5 B Rb V R ns l nv lv w := hbox
  have hnslt : ∀ p ∈ ns, ∀ x ∈ p, x < 256 := fun p hp => (hbox.nlt p hp).2
  obtain ⟨A0, cap0, rfl⟩ : ∃ A0 cap0, lv = .slice A0 l.length cap0 := by
    obtain ⟨_, _, ho, _⟩ := hbox.rows
    exact own_slice ho
  obtain ⟨A9, cap9, rfl⟩ : ∃ A9 cap9, nv = .slice A9 ns.length cap9 := own_slice hbox.names
  obtain ⟨c4, c5, f4, _, p0⟩ := hbox.cells
  obtain ⟨RES, eRES⟩ : ∃ RES, Jq.itemO (Jq.value n) (ns, l) (numsOf s) = RES := ⟨_, rfl⟩
  have hcut := itemO_cut eRES
  rw [eRES]
  clear eRES
  obtain ⟨NP, eNP⟩ : ∃ NP, nameP ns (numsOf s) = NP := ⟨_, rfl⟩
  rw [eNP] at hcut
  have HC := Lib.hid hcut
  clear hcut
  have hVlt := hbox.box.lt
  have hRblt := hbox.ptr.lt
  have hsz : B0 ≤ w.heap.size := Nat.le_trans hB3 hbox.size
  have HV := Lib.hid hV
  have hNM := name_any W R (16 - n) s w.drew h.drew B (.slice A9 ns.length cap9) ns hbox.hR hbox.drew.names hnslt
  rw [eNP] at hNM
  have HNM := Lib.hid hNM
  have hll : (l.length : Int) < (l.length : Int) + 1 := by omega
  clear hV hNM eNP
  go_enter Tryz.func140, Tryz.ntmps140
  go_upto_region 0 with fail
  go_cut [] (fun wx => NameDone W R (16 - n) B0 B Rb V ns l (.slice A0 l.length cap0) NP w wx)
  case first =>
    go_region_law (first
      | (go_simp; go_at_call 141; refine HNM.out.mono ?_; intro e w1 hh; rcases Ends.cases hh with ⟨t, r, v, s1, hres, rfl, hJ, hs1, h1, hg1⟩ | ⟨m, hres, rfl, hg1⟩; rotate_left; exact ⟨rfl, ItemEnd.err (HC.out.1 m hres) (Far.drew (Far.of_gb hg1 hsz))⟩; have k1 : Box 5 B Rb V R ns l (.slice A9 ns.length cap9) (.slice A0 l.length cap0) w1 := hbox.drew.gb hg1; have hF1 : Far B0 R w w1 := Far.drew (Far.of_gb hg1 hsz); obtain ⟨rfl, ht1⟩ := hJ; obtain ⟨d4, _, q4, _, q0⟩ := k1.cells; have hVlt1 : V < w1.heap.size := k1.box.lt; have HR := Lib.hid hres; have HS1 := Lib.hid hs1; have HT1 := Lib.hid ht1; clear hh hres hs1 ht1; simp only [])
      | (have ho := k1.names; refine step_append_at rfl (.tmp 3) (.tmp 8) 23 9 (.string ByteArray.empty) 1 16 rfl Tryz.underlying23 infoText rfl (by decide) B (.slice A9 ns.length cap9) ns.length (tcells ns) _ 1 [.string (strOf t)] (ho.alloc _) rfl (text_new w1 _) (fun u hu => by rw [List.mem_singleton.1 hu]; rfl) rfl rfl (by omega) (by omega) (Nat.le_trans k1.size (by simp)) ?_; intro g cap w2 hown2 hgr2 hg2; obtain ⟨m4, mf4⟩ := after_names (k1.alloc _) hgr2; have HD : Hid (NameDone W R (16 - n) B0 B Rb V ns l (.slice A0 l.length cap0) NP w (w2.setCell ⟨V, 4, none⟩ (.slice (some ⟨g, 0, none⟩) (ns.length + 1) cap))) := (name_done (k1.alloc _) (h1.alloc _) (hF1.trans (Far.of_below ((Below.refl _ _).alloc (Nat.le_trans hB3 k1.size) _))) HT1.out hgr2 hg2 hown2 hB1 hB3 hWB (HR.out.trans (by rw [HS1.out]))); clear k1 hF1 hown2 hgr2 hg2 ho h1 hg1))
    all_goals (go_wp2_with fail; go_meet; exact HD.out)
  case rest =>
    obtain ⟨t, s1, nv1, hN1, k0, h0, hF0⟩ := hcut
    have HN1 := Lib.hid hN1
    have hM := must_any W R (16 - n) s1 wc 58 (by decide) h0
    obtain ⟨_, _, _, _, p1⟩ := k0.cells
    clear hN1 HNM hbox c4 c5 f4 p0 hnslt hVlt hRblt h
    go_wp2_with fail
    refine hM.mono ?_
    intro e w2 hh
    clear hM
    rcases Ends.cases hh with ⟨x, r, v, s2, hres, rfl, hJ, hs2, h2, hg2⟩ | ⟨m, hres, rfl, hg2⟩
    rotate_left
    · exact ⟨rfl, ItemEnd.err (HC.out.2.1 t _ m HN1.out hres) (hF0.trans (Far.of_gb hg2 (Nat.le_trans hB3 k0.size)))⟩
    have k2 : Box 5 B Rb V R (ns ++ [t]) l nv1 (.slice A0 l.length cap0) w2 := k0.gb hg2
    have hF2 : Far B0 R w w2 := hF0.trans (Far.of_gb hg2 (Nat.le_trans hB3 k0.size))
    have hsz2 : B0 ≤ w2.heap.size := Nat.le_trans hB3 k2.size
    have HM1 : Hid (mustP 58 (numsOf s1) = .ok ((), numsOf s2)) := hres.trans (by rw [hs2])
    obtain rfl : v = .tuple #[] := hJ
    clear hh hres hs2 k0 h0 hF0 hsz hg2 p1
    obtain ⟨_, c5, _, _, p0⟩ := k2.cells
    have hVlt := k2.box.lt
    have hRblt := k2.ptr.lt
    have hRlt := h2.lt
    have hlC : ∀ k, (Value.slice A0 l.length cap0).ownBlock = some k → k < w2.heap.size := by
      obtain ⟨_, _, ho, _⟩ := k2.rows
      exact fun k e => (ho.lt k e).2
    go_upto_region 2 with fail
    go_region_law (first
      | (go_simp; go_at_call 95; refine (HV.out W R s2 _ (by first | exact h2.drew | exact h2.drew.alloc _)).mono ?_; intro e w1 hh; rcases Ends.cases hh with ⟨x, r, v, s4, hres, rfl, hJ, hs1, h1, hg1⟩ | ⟨m, hres, rfl, hg1⟩; rotate_left; exact ⟨rfl, ItemEnd.err (HC.out.2.2.1 t _ _ m HN1.out HM1.out hres) (by first | exact hF2.trans (Far.drew (Far.of_gb hg1 hsz2)) | exact hF2.trans (Far.drew (Far.alloc (Far.of_gb hg1 (by simp; omega)) hsz2)))⟩; have k1 : Box 5 B Rb V R (ns ++ [t]) l nv1 (.slice A0 l.length cap0) w1 := (by first | exact k2.drew.gb hg1 | exact (k2.drew.alloc _).gb hg1); have hF1 : Far B0 R w w1 := (by first | exact hF2.trans (Far.drew (Far.of_gb hg1 hsz2)) | exact hF2.trans (Far.drew (Far.alloc (Far.of_gb hg1 (by simp; omega)) hsz2))); have hJ1 := hJ.from (C := w2.heap.size) (by first | exact Nat.le_refl _ | simp); obtain ⟨_, d5, _, f5, q0⟩ := k1.cells; have hVlt1 : V < w1.heap.size := k1.box.lt; obtain ⟨A1, cap1, A2, cap2, rfl⟩ := IsJ.form hJ; have HR := Lib.hid hres; have HS1 := Lib.hid hs1; clear hh hJ hres hs1; simp only [])
      | (obtain ⟨vs, hvs, ho, hel⟩ := k1.rows; refine step_append_at rfl (.tmp 14) (.tmp 18) 24 26 (jv 0 false 0 ByteArray.empty nilS nilS) 6 88 rfl Tryz.underlying24 infoJson rfl (by decide) B (.slice A0 l.length cap0) l.length (vs.flatMap jcells) _ 1 zero6 (by first | exact ho | exact ho.alloc _) rfl (by first | exact new6 w1 | exact new6_gb hg1 hRlt | exact new6_gb (gb_undrew hg1) hRlt) six_one rfl rfl (by omega) (by omega) (by first | exact k1.size | exact Nat.le_trans k1.size (by simp)) ?_; intro g cap w5 hown2 hgr2 hg5; obtain ⟨⟨z0, z1, z2, z3, z4, z5⟩, y0, y1, y2, y3, y4, y5⟩ := six_at hown2 (flat_len ho); obtain ⟨m5, mf5⟩ := after_append (by first | exact k1 | exact k1.alloc _) hgr2; have hgB : B ≤ g := (hown2.lt g rfl).1; have hgV : ¬ g = V := (by have := k2.hV; omega); have hVg : ¬ V = g := (fun e => hgV e.symm); have HD : Hid (∀ w3, Stored w5 w3 V g (l.length * 6) (jv x.kind x.bool x.int (strOf x.text) (.slice A1 x.names.length cap1) (.slice A2 x.list.length cap2)) (.slice (some ⟨g, 0, none⟩) (l.length + 1) cap) → ItemEnd W R (16 - n) B0 w (ObjSt B0 B Rb V R) RES (.returned (.tuple #[])) w3) := (fun w3 hst => by
          obtain ⟨q1, q2, q3⟩ := list_done (d := 16 - n) (B0 := B0) (C := w2.heap.size) (by first | exact k1 | exact k1.alloc _) (by first | exact h1 | exact h1.alloc _) (by first | exact hF1 | exact hF1.trans (Far.of_below ((Below.refl _ _).alloc (Nat.le_trans hB3 k1.size) _))) hvs (by first | exact ho | exact ho.alloc _) (by first | exact hel | exact (fun i u y e1 e2 => (hel i u y e1 e2).keep (fun b hb hlt => ⟨hb, Below.heap_alloc _ _ b hlt⟩) (by simp))) (by first | exact hJ1 | exact hJ1.keep (fun b hb hlt => ⟨hb, Below.heap_alloc _ _ b hlt⟩) (by simp)) k2.size (fun k e => (k2.names.lt k e).2) (fun k e => hlC k e) hown2 hgr2 hg5 hB1 hB3 hWB hst
          exact ItemEnd.ok (HC.out.2.2.2 t _ _ x r HN1.out HM1.out HR.out) ⟨_, _, q1, by simp [HNL.out], hB1, hB3⟩ HS1.out q2 q3); clear k1 hF1 hJ1 hown2 hgr2 hg5 hel ho hvs h1 hg1))
    all_goals (go_end0; refine HD.out _ ?_; first | with_reducible exact stored_a | with_reducible exact stored_b)
end Go.Proofs.YthklgpflaghojaaGreatDoor
