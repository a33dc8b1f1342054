/-
  QX7: JRList, side by side.
-/
import Derived.Test.YthklgpflaghojaaGreatDoorQX5
import Derived.Test.YthklgpflaghojaaGreatDoorQX1

/-
  The document's list: lists and objects.
-/
namespace Go.Proofs.YthklgpflaghojaaGreatDoor
open Go.RowKit

/-- That values are read at so many levels. -/
def RValueOk (n : Nat) : Prop := ∀ (s : ByteArray) (i : Nat) (w : World), i ≤ s.size → s.size ≤ 4096 →
  Calls Tryz.prog 84 #[.string s, .int .i64 i, .int .i64 ((16 - n : Nat) : Int)] w (GotEnd (numsOf s) i (Jq.value n ((numsOf s).drop i)) w)
/-- What is kept while a list is read. -/
structure RSt (kind : Int) (w : World) (ns : List (List Nat)) (l : List Jq.J) (nv lv : Value) (wr : World) : Prop where
  below : Below w.heap.size w wr
  res : Lies wr w.heap.size 117 zero8
  box : RBox kind (w.heap.size + 2) (w.heap.size + 1) ns l nv lv wr
section
variable {kind : Int} {w wr w1 w2 : World} {ns : List (List Nat)} {l : List Jq.J} {nv lv : Value}
theorem RSt.begin {w0 : World} (h : w0 = (w.alloc (.cells zero8.toArray 117)).alloc (.cells #[.int .i64 kind, .bool false, .int .i64 0, .string ByteArray.empty, nilS, nilS] 26)) : RSt kind w [] [] nilS nilS w0 := by
  subst h
  have h1 : Lies (w.alloc (.cells zero8.toArray 117)) w.heap.size 117 zero8 := Lies.new_ rfl
  have h2 : Lies ((w.alloc (.cells zero8.toArray 117)).alloc (.cells #[.int .i64 kind, .bool false, .int .i64 0, .string ByteArray.empty, nilS, nilS] 26)) (w.heap.size + 1) 26 [.int .i64 kind, .bool false, .int .i64 0, .string ByteArray.empty, nilS, nilS] := Lies.new_ (by simp)
  exact ⟨((Below.refl _ _).alloc (Nat.le_refl _) _).alloc (by simp) _, h1.alloc _, RBox.begin (by omega) (by simp) h2⟩
theorem RSt.on (h : RSt kind w ns l nv lv wr) (hb : Below wr.heap.size wr w1) : RSt kind w ns l nv lv w1 :=
  ⟨below_more h.below hb, h.res.below hb h.res.lt, h.box.on hb⟩
theorem RSt.elem {v lv' : Value} {x : Jq.J} {vs : List Value} (h : RSt kind w ns l nv lv wr) (hb : Below wr.heap.size wr w1)
    (hvs : vs.length = l.length) (hel : ∀ (i : Nat) u y, vs[i]? = some u → l[i]? = some y → IsJ w1 (fun b => w.heap.size + 2 ≤ b ∧ nv.ownBlock ≠ some b ∧ lv.ownBlock ≠ some b) u y)
    (hJ : IsJ w1 (wr.heap.size ≤ ·) v x) (ho : w2.ownsRow (w.heap.size + 2) 26 6 lv' (l.length + 1) (vs.flatMap jcells ++ jcells v)) (hgr : w1.grownBy w2 lv.ownBlock) (hat : lv'.ownBlock = lv.ownBlock ∨ lv'.ownBlock = some w1.heap.size) :
    RSt kind w ns (l ++ [x]) nv lv' (w2.setCell ⟨w.heap.size + 1, 5, none⟩ lv') := by
  have h1 := h.on hb
  obtain ⟨_, _, ho0, _⟩ := h.box.rows
  obtain ⟨g, cap, rfl⟩ := own_form ho (by omega)
  have hg : lv.ownBlock = some g ∨ g = w1.heap.size := by
    rcases hat with hat | hat
    · exact .inl (hat.symm.trans rfl)
    · exact .inr (by injection hat)
  refine ⟨?_, ?_, RBox.elem h1.box hvs hel hJ h.box.size (fun k e => (h.box.names.lt k e).2) (fun k e => (ho0.lt k e).2) (fun k e => (ho0.lt k e).1) hgr hg ho⟩
  · exact (h1.below.grown hgr h1.below.size (fun k e => by have := (ho0.lt k e).1; omega)).setCell (Nat.le_succ _) _
  · exact (h1.res.grown hgr (fun e => by have := (ho0.lt _ e.symm).1; omega)).far (show w.heap.size ≠ w.heap.size + 1 by omega) _
theorem RSt.name {nv' : Value} {t : List Nat} (h : RSt kind w ns l nv lv wr) (ht : t.length ≤ 140737488355328 ∧ ∀ x ∈ t, x < 256)
    (ho : w2.ownsRow (w.heap.size + 2) 9 1 nv' (ns.length + 1) (tcells ns ++ [.string (strOf t)])) (hgr : wr.grownBy w2 nv.ownBlock) (hat : nv'.ownBlock = nv.ownBlock ∨ nv'.ownBlock = some wr.heap.size) :
    RSt kind w (ns ++ [t]) l nv' lv (w2.setCell ⟨w.heap.size + 1, 4, none⟩ nv') :=
  ⟨(h.below.grown hgr h.below.size (fun k e => by have := (h.box.names.lt k e).1; omega)).setCell (Nat.le_succ _) _,
   (h.res.grown hgr (fun e => by have := (h.box.names.lt _ e.symm).1; omega)).far (show w.heap.size ≠ w.heap.size + 1 by omega) _, h.box.name ht ho hgr hat⟩
/-- A row's first block, once it is grown. -/
theorem RSt.out {S : List Nat} {i j : Nat} {RES : Jq.R Jq.J} {A1 A2 : Option Addr} {c1 c2 : Nat} {a0 a1 a2 a3 a4 a5 a6 a7 : Value} (h : RSt kind w ns l (.slice A1 ns.length c1) (.slice A2 l.length c2) wr) (hk : 0 ≤ kind ∧ kind ≤ 9) (hl : l.length ≤ 20000) (hn : ns.length ≤ 20000) (hR : RES = .ok (.mk kind false 0 [] ns l, S.drop j)) (hj : j ≤ S.length) (hij : i ≤ j) :
    GotEnd S i RES w (.returned (gotV kind false 0 ByteArray.empty (.slice A1 ns.length c1) (.slice A2 l.length c2) j 0)) (put8 wr w.heap.size a0 a1 a2 a3 a4 a5 a6 a7) :=
  got_ok (x := .mk kind false 0 [] ns l) (C := w.heap.size + 2) hR (h.box.isJ hk hl hn (Nat.le_refl _)) (by omega) rfl hj hij h.below
end
theorem text_ok {R : Jq.R (List Nat)} {x : Jq.J} {r : List Nat} (h : (R.map fun q => (Jq.textJ q.1, q.2) : Jq.R Jq.J) = .ok (x, r)) : ∃ t, R = .ok (t, r) ∧ x = .mk 3 false 0 t [] [] := by
  cases R with
  | error e => cases h
  | ok p =>
    obtain ⟨t, q⟩ := p
    simp only [Except.map, Except.ok.injEq, Prod.mk.injEq] at h
    obtain ⟨h1, h2⟩ := h
    exact ⟨t, by rw [h2], h1.symm⟩
theorem text_err {R : Jq.R (List Nat)} {n : Nat} (h : (R.map fun q => (Jq.textJ q.1, q.2) : Jq.R Jq.J) = .error n) : R = .error n := by
  cases R with
  | error e => simpa [Except.map] using h
  | ok p => cases h
theorem got_ones (k : Int) (b : Bool) (n : Int) (t : ByteArray) (A1 A2 : Option Addr) (n1 n2 c1 c2 : Nat) : ∀ u ∈ jcells (jv k b n t (.slice A1 n1 c1) (.slice A2 n2 c2)), u.oneCell' = true := by
  intro u hu
  simp [jcells] at hu
  rcases hu with rfl | rfl | rfl | rfl | rfl | rfl <;> rfl
def ListRel (s : ByteArray) (elem : List Nat → Jq.R Jq.J) (RES : Jq.R Jq.J) (i : Nat) (w : World) (i' : Value) (wr : World) : Prop :=
  ∃ (k : Nat) (l : List Jq.J) (lv : Value), i' = .int .i64 k ∧ i < k ∧ k ≤ s.size ∧ l.length ≤ k ∧ RSt 4 w [] l nilS lv wr ∧ Hid (ListAt elem RES (numsOf s) k l)
def ObjRel (s : ByteArray) (elem : List Nat → Jq.R Jq.J) (RES : Jq.R Jq.J) (i : Nat) (w : World) (i' : Value) (wr : World) : Prop :=
  ∃ (k : Nat) (ns : List (List Nat)) (l : List Jq.J) (nv lv : Value), i' = .int .i64 k ∧ i < k ∧ k ≤ s.size ∧ l.length ≤ k ∧ ns.length ≤ k ∧ RSt 5 w ns l nv lv wr ∧ Hid (MembersAt elem RES (numsOf s) k ns l)

set_option maxHeartbeats 8000000 in
set_option maxRecDepth 100000 in
theorem refList_step (n : Nat) (hn : n + 1 ≤ 16) (hV : RValueOk n) (s : ByteArray) (i : Nat) (hi : i < s.size) (hs : s.size ≤ 4096) (w : World) (hb : (numsOf s).getD i 0 = 91) :
    Calls Tryz.prog 107 #[.string s, .int .i64 i, .int .i64 ((16 - (n + 1) : Nat) : Int)] w (GotEnd (numsOf s) i (Jq.listOf (Jq.value n) ((numsOf s).drop (i + 1))) w) := by
  obtain ⟨RES, eRES⟩ : ∃ RES, Jq.listOf (Jq.value n) ((numsOf s).drop (i + 1)) = RES := ⟨_, rfl⟩
  rw [eRES]
  obtain ⟨D, eD⟩ : ∃ D : Int, ((16 - (n + 1) : Nat) : Int) = D := ⟨_, rfl⟩
  rw [eD]
  have HV : Hid (∀ (k : Nat) (w' : World), k ≤ s.size → Calls Tryz.prog 84 #[.string s, .int .i64 k, .int .i64 (D + 1)] w' (GotEnd (numsOf s) k (Jq.value n ((numsOf s).drop k)) w')) := fun k w' hk => by
    have := hV s k w' hk hs
    rw [show ((16 - n : Nat) : Int) = D + 1 from by omega] at this
    exact this
  have hd16 : (D == 16) = false := by rw [beq_eq_false_iff_ne]; omega
  have hD1 : 0 ≤ D := by omega
  have hD2 : D ≤ 16 := by omega
  have hx : s[i].toNat = 91 := by rw [← nums_at s i hi, hb]
  have hxb : ((s[i].toNat : Int) == 123) = false := by rw [hx]; rfl
  have Hlen := Lib.hid (numsOf_length s)
  obtain ⟨W0, eW0⟩ : ∃ W0, W0 = (w.alloc (.cells zero8.toArray 117)).alloc (.cells #[.int .i64 4, .bool false, .int .i64 0, .string ByteArray.empty, nilS, nilS] 26) := ⟨_, rfl⟩
  have HST0 := Lib.hid (RSt.begin eW0)
  have HBL := fun (k : Nat) (hk : k ≤ s.size) (w' : World) => blanks_any s k hk (by omega) w'
  have HBLH := Lib.hid HBL
  have hB0 := HBL (i + 1) hi W0
  obtain ⟨q, eq⟩ : ∃ q, past (numsOf s) (i + 1) = q := ⟨_, rfl⟩
  have hq1 : i + 1 ≤ q ∧ q ≤ s.size := by
    rw [← eq]
    exact ⟨past_ge (by rw [Hlen.out]; exact hi), by rw [← Hlen.out]; exact past_le _ _⟩
  obtain ⟨hq1, hq2⟩ := hq1
  rw [eq, show ((i + 1 : Nat) : Int) = (i : Int) + 1 from by omega] at hB0
  obtain ⟨hBeg, hGo⟩ := list_begin (elem := Jq.value n) eRES.symm
  rw [eq] at hBeg hGo
  have HBEG := Lib.hid hBeg
  have HGO := Lib.hid hGo
  have hA0 := at_any s q W0
  obtain ⟨c, ec⟩ : ∃ c, (numsOf s).getD q 0 = c := ⟨_, rfl⟩
  rw [ec] at hA0
  have EC := Lib.hid ec
  have HW0 := Lib.hid eW0
  rw [eW0] at hB0
  clear eRES eD hV hb hx HBL eq hBeg hGo ec eW0
  go_enter Tryz.func107, Tryz.ntmps107
  go_wp2_with fail
  refine hB0.mono ?_
  rintro e w1 ⟨rfl, rfl⟩
  rw [← HW0.out]
  clear hB0
  go_wp2_with fail
  refine hA0.mono ?_
  rintro e w1 ⟨rfl, rfl⟩
  clear hA0
  by_cases hcf : c = 93
  · have hdc : ((c : Int) == 93) = true := by rw [hcf]; rfl
    have hqs : q < s.size := by
      rcases Nat.lt_or_ge q s.size with h | h
      · exact h
      · exfalso
        have := EC.out
        rw [List.getD_eq_getElem?_getD, List.getElem?_eq_none (by rw [Hlen.out]; exact h), hcf] at this
        cases this
    have HE : Hid (GotEnd (numsOf s) i RES w (.returned (gotV 4 false 0 ByteArray.empty nilS nilS ((q : Int) + 1) 0)) (put8 W0 w.heap.size (.int .i64 4) (.bool false) (.int .i64 0) (.string ByteArray.empty) nilS nilS (.int .i64 ((q : Int) + 1)) (.int .i64 0))) :=
      RSt.out (j := q + 1) HST0.out (by decide) (by simp) (by simp) (HBEG.out (by rw [EC.out, hcf])) (by rw [Hlen.out]; exact hqs) (by omega)
    have HZ := Lib.hid (put8_lies (a := .int .i64 4) (b := .bool false) (c := .int .i64 0) (d := .string ByteArray.empty) (e := nilS) (f := nilS) (h := .int .i64 ((q : Int) + 1)) (k := .int .i64 0) HST0.out.res)
    obtain ⟨⟨z0, z1, z2, z3, z4, z5, z6, z7⟩, f0, f1, f2, f3, f4, f5, f6, f7⟩ := HST0.out.res.eight
    obtain ⟨⟨v0, v1, v2, v3, v4, v5⟩, g4, g5⟩ := HST0.out.box.cells
    clear hcf
    go_wp2
    refine bodyPost_ret (v := gotV 4 false 0 ByteArray.empty nilS nilS ((q : Int) + 1) 0) ?_ rfl ?_
    · have hz := HZ.out
      unfold put8 at hz
      generalize World.setCell (World.setCell (World.setCell (World.setCell (World.setCell (World.setCell (World.setCell (World.setCell W0 _ _) _ _) _ _) _ _) _ _) _ _) _ _) _ _ = w9 at hz ⊢
      obtain ⟨⟨z0, z1, z2, z3, z4, z5, z6, z7⟩, _⟩ := hz.eight
      simp [results, Tryz.results107, go_sem, z0, z1, z2, z3, z4, z5, z6, z7] <;> rfl
    · exact HE.out
  have hdc : ((c : Int) == 93) = false := by rw [beq_eq_false_iff_ne]; omega
  have HG := Lib.hid (HGO.out (by rw [EC.out]; exact hcf))
  clear hcf
  go_wp2_with fail
  go_loopw [1] (fun i' wr => ListRel s (Jq.value n) RES i w i' wr) (fun i' _ => s.size - (intOf i').toNat)
  case atStart => exact ⟨q, [], nilS, rfl, hq1, hq2, Nat.zero_le _, HST0.out, HG⟩
  case round =>
    obtain ⟨q, l, lv, rfl, hiq, hqs, hlq, hst, hat⟩ := hrel
    obtain ⟨A0, c0, rfl⟩ := hst.box.forms.2
    have hle : decide ((q : Int) ≤ (s.size : Int)) = true := decide_eq_true (by omega)
    have HAT := hat
    have HST := Lib.hid hst
    have hV := HV.out q wr hqs
    clear hat hst
    go_wp2_with fail
    refine hV.mono ?_
    intro e w1 hh
    clear hV
    rcases GotEnd.cases hh with ⟨x, r, X1, y1, X2, y2, j, he, rfl, hJ, hr, hj, hqj, hb1⟩ | ⟨m, he, hm, ⟨k0, b0, m0, t0, X1, n1, y1, X2, n2, y2, at0, rfl⟩, hb1⟩
    rotate_left
    · have hd5 : ((m : Int) != 0) = true := by rw [bne_iff_ne]; omega
      have HB1 := Lib.hid hb1
      have HRE := Lib.hid (show RES = .error m from HAT.out.err he)
      have hne : w.heap.size < w1.heap.size := (HST.out.on hb1).res.lt
      clear hh he hb1
      repeat ((fail_if_success (with_reducible show wpList _ _ _ (⟨some 84, _, _, _, _, _⟩ :: _) _ _)); first | go_values | go_skip | go_guarded | go_step | go_upon | go_back | go_simp)
      generalize hW1 : World.alloc w1 _ = W1
      have hbW : Below wr.heap.size wr W1 := by rw [← hW1]; exact below_alloc HB1.out _
      have hXs : Lies W1 w1.heap.size 117 [.int .i64 k0, .bool b0, .int .i64 m0, .string t0, .slice X1 n1 y1, .slice X2 n2 y2, .int .i64 at0, .int .i64 m] := by rw [← hW1]; exact Lies.new_ rfl
      have hG := (HST.out.on hbW).res
      have HE : Hid (GotEnd (numsOf s) i RES w (.returned (gotV k0 b0 m0 t0 (.slice X1 n1 y1) (.slice X2 n2 y2) at0 m)) (put8 W1 w.heap.size (.int .i64 k0) (.bool b0) (.int .i64 m0) (.string t0) (.slice X1 n1 y1) (.slice X2 n2 y2) (.int .i64 at0) (.int .i64 m))) := got_err HRE.out hm (below_more HST.out.below hbW)
      have HZ : Hid (Lies (put8 W1 w.heap.size (.int .i64 k0) (.bool b0) (.int .i64 m0) (.string t0) (.slice X1 n1 y1) (.slice X2 n2 y2) (.int .i64 at0) (.int .i64 m)) w.heap.size 117 _) := put8_lies hG
      obtain ⟨⟨z0, z1, z2, z3, z4, z5, z6, z7⟩, f0, f1, f2, f3, f4, f5, f6, f7⟩ := hG.eight
      obtain ⟨⟨x0, x1, x2, x3, x4, x5, x6, x7⟩, _⟩ := hXs.eight
      clear hW1 hXs hG hbW HB1 HRE HST hm
      go_wp2
      refine bodyPost_ret (v := gotV k0 b0 m0 t0 (.slice X1 n1 y1) (.slice X2 n2 y2) at0 m) ?_ rfl ?_
      · have hz := HZ.out
        unfold put8 at hz
        generalize World.setCell (World.setCell (World.setCell (World.setCell (World.setCell (World.setCell (World.setCell (World.setCell W1 _ _) _ _) _ _) _ _) _ _) _ _) _ _) _ _ = w9 at hz ⊢
        obtain ⟨⟨z0, z1, z2, z3, z4, z5, z6, z7⟩, _⟩ := hz.eight
        simp [results, Tryz.results107, go_sem, z0, z1, z2, z3, z4, z5, z6, z7] <;> rfl
      · exact HE.out
    have HNX := Lib.hid (HAT.out.next he hr hqj hj)
    have hjs : j ≤ s.size := by rw [← Hlen.out]; exact hj
    have hst1 := HST.out.on hb1
    have HJ := Lib.hid hJ
    have HB1 := Lib.hid hb1
    obtain ⟨⟨v0, v1, v2, v3, v4, v5⟩, g4, g5⟩ := hst1.box.cells
    have hne : w.heap.size + 1 < w1.heap.size := hst1.box.box.lt
    obtain ⟨i0, hi0, hz0, hz1, hz2⟩ := info_parts infoJson
    have HLC : Hid (∀ k, (Value.slice A0 l.length c0).ownBlock = some k → w.heap.size + 2 ≤ k ∧ k < wr.heap.size) := by
      obtain ⟨_, _, ho0, _⟩ := HST.out.box.rows
      exact ho0.lt
    clear hh he hJ hr hj hst1 hb1
    repeat ((fail_if_success (with_reducible show wpList _ _ _ (⟨some 92, _, _, _, _, _⟩ :: _) _ _)); first | go_values | go_skip | go_guarded | go_step | go_upon | go_back | go_simp)
    generalize hW2 : World.alloc (World.alloc w1 _) _ = W2
    have hbW : Below wr.heap.size wr W2 := by rw [← hW2]; exact below_alloc (below_alloc HB1.out _) _
    have hb12 : Below w1.heap.size w1 W2 := by rw [← hW2]; exact below_alloc (below_alloc (Below.refl _ _) _) _
    have hXs : Lies W2 w1.heap.size 117 [.int .i64 x.kind, .bool x.bool, .int .i64 x.int, .string (strOf x.text), .slice X1 x.names.length y1, .slice X2 x.list.length y2, .int .i64 j, .int .i64 0] := by rw [← hW2]; exact (Lies.new_ rfl).alloc _
    have hc6 : ∀ (k : Nat) u, (jcells (jv x.kind x.bool x.int (strOf x.text) (.slice X1 x.names.length y1) (.slice X2 x.list.length y2)))[k]? = some u → W2.cell? ((⟨w1.heap.size + 1, 0, none⟩ : Addr).add k) = some u := by
      intro k u hk
      rw [← hW2]
      have h := new_cells (w1.alloc (.cells #[.int .i64 x.kind, .bool x.bool, .int .i64 x.int, .string (strOf x.text), .slice X1 x.names.length y1, .slice X2 x.list.length y2, .int .i64 j, .int .i64 0] 117)) #[.int .i64 x.kind, .bool x.bool, .int .i64 x.int, .string (strOf x.text), .slice X1 x.names.length y1, .slice X2 x.list.length y2] 26 k u hk
      rwa [show (w1.alloc (.cells #[.int .i64 x.kind, .bool x.bool, .int .i64 x.int, .string (strOf x.text), .slice X1 x.names.length y1, .slice X2 x.list.length y2, .int .i64 j, .int .i64 0] 117)).heap.size = w1.heap.size + 1 from by simp] at h
    have hst2 := HST.out.on hbW
    obtain ⟨vs, hvs, ho, hel⟩ := hst2.box.rows
    have hJ2 := HJ.out.on hb12
    have hs2 := hst2.box.size
    have hVl := hst2.box.box
    clear hW2 v0 v1 v2 v3 v4 v5 g4 g5 hb12
    with_reducible refine wpList_append_own_at _ rfl (.tmp 88) (.tmp 91) 24 rfl (w.heap.size + 2) 26 i0 (jv 0 false 0 ByteArray.empty nilS nilS) 6 88 Tryz.underlying24 hi0 hz0 hz1 hz2 rfl (by decide) _ l.length (vs.flatMap jcells) ?s1 ho ⟨w1.heap.size + 1, 0, none⟩ 1 1 (jcells (jv x.kind x.bool x.int (strOf x.text) (.slice X1 x.names.length y1) (.slice X2 x.list.length y2))) ?s2 rfl hc6 (got_ones _ _ _ _ _ _ _ _ _ _) ?s4 ?s5 ?s6 ?_
    case s1 => rfl
    case s2 => rfl
    case s4 => unfold maxLen; omega
    case s5 => omega
    case s6 => exact hs2
    intro lv5 w5 hown5 hgr5 _ hat5
    have HST5 := Lib.hid (HST.out.elem hbW hvs hel hJ2 hown5 hgr5 hat5)
    have hX6 := (hXs.grown hgr5 (fun e => by have := (HLC.out _ e.symm).2; have := HB1.out.size; omega)).far (p := ⟨w.heap.size + 1, 5, none⟩) (show w1.heap.size ≠ w.heap.size + 1 by omega) lv5
    have hV5 := hVl.grown hgr5 (fun e => by have := (HLC.out _ e.symm).1; omega)
    have u5 := hV5.cell 5
    have g5 := hV5.free 5
    obtain ⟨A6, c6, e6⟩ := HST5.out.box.forms.2
    obtain ⟨L, eL⟩ : ∃ L, l ++ [x] = L := ⟨_, rfl⟩
    rw [eL] at e6
    subst e6
    have hLl : L.length ≤ q + 1 := by rw [← eL, List.length_append, List.length_singleton]; omega
    rw [eL] at HST5
    obtain ⟨W6, eW6⟩ : ∃ W6, W6 = w5.setCell ⟨w.heap.size + 1, 5, none⟩ (.slice A6 L.length c6) := ⟨_, rfl⟩
    rw [← eW6] at HST5 hX6
    have HST6 := HST5
    rw [eL] at HNX
    obtain ⟨p, ep⟩ : ∃ p, past (numsOf s) j = p := ⟨_, rfl⟩
    rw [ep] at HNX
    obtain ⟨hp1, hp2⟩ : j ≤ p ∧ p ≤ s.size := by
      rw [← ep]
      exact ⟨past_ge (by rw [Hlen.out]; exact hjs), by rw [← Hlen.out]; exact past_le _ _⟩
    have hB6 := HBLH.out j hjs W6
    rw [ep, eW6] at hB6
    have HW6 := Lib.hid eW6
    have hA := at_any s p W6
    obtain ⟨c, ec⟩ : ∃ c, (numsOf s).getD p 0 = c := ⟨_, rfl⟩
    rw [ec] at hA HNX
    obtain ⟨⟨x0, x1, x2, x3, x4, x5, x6, x7⟩, _⟩ := hX6.eight
    have HECP := Lib.hid ec
    have hx6' := x6
    rw [eW6] at x6
    clear hown5 hgr5 hat5 hbW hvs hel hJ2 ho hs2 hVl hX6 hV5 hXs hc6 hst2 HST5 HJ HB1 HLC eL eW6 ep ec hi0 hz0 hz1 hz2 x0 x1 x2 x3 x4 x5 x7 hx6' HST
    go_frame
    go_wp2_with fail
    refine hB6.mono ?_
    rintro e w7 ⟨rfl, rfl⟩
    rw [← HW6.out]
    clear hB6 x6 u5 g5 hne
    go_wp2_with fail
    refine hA.mono ?_
    rintro e w7 ⟨rfl, rfl⟩
    by_cases hcf : c = 93
    · have hdc : ((c : Int) == 93) = true := by rw [hcf]; rfl
      have hps : p < s.size := by
        rw [← Hlen.out]
        exact lt_of_get HECP.out (by omega)
      have HE : Hid (GotEnd (numsOf s) i RES w (.returned (gotV 4 false 0 ByteArray.empty nilS (.slice A6 L.length c6) ((p : Int) + 1) 0)) (put8 W6 w.heap.size (.int .i64 4) (.bool false) (.int .i64 0) (.string ByteArray.empty) nilS (.slice A6 L.length c6) (.int .i64 ((p : Int) + 1)) (.int .i64 0))) :=
        RSt.out (j := p + 1) HST6.out (by decide) (by omega) (by simp) (HNX.out.1 hcf) (by rw [Hlen.out]; exact hps) (by omega)
      have HZ := Lib.hid (put8_lies (a := .int .i64 4) (b := .bool false) (c := .int .i64 0) (d := .string ByteArray.empty) (e := nilS) (f := (.slice A6 L.length c6)) (h := .int .i64 ((p : Int) + 1)) (k := .int .i64 0) HST6.out.res)
      obtain ⟨⟨z0, z1, z2, z3, z4, z5, z6, z7⟩, f0, f1, f2, f3, f4, f5, f6, f7⟩ := HST6.out.res.eight
      obtain ⟨⟨v0, v1, v2, v3, v4, v5⟩, g4, g5⟩ := HST6.out.box.cells

      clear hcf hA
      go_wp2
      refine bodyPost_ret (v := gotV 4 false 0 ByteArray.empty nilS (.slice A6 L.length c6) ((p : Int) + 1) 0) ?_ rfl ?_
      · have hz := HZ.out
        unfold put8 at hz
        generalize World.setCell (World.setCell (World.setCell (World.setCell (World.setCell (World.setCell (World.setCell (World.setCell W6 _ _) _ _) _ _) _ _) _ _) _ _) _ _) _ _ = w9 at hz ⊢
        obtain ⟨⟨z0, z1, z2, z3, z4, z5, z6, z7⟩, _⟩ := hz.eight
        simp [results, Tryz.results107, go_sem, z0, z1, z2, z3, z4, z5, z6, z7] <;> rfl
      · exact HE.out
    have hdc : ((c : Int) == 93) = false := by rw [beq_eq_false_iff_ne]; omega
    by_cases hc44 : c = 44
    rotate_left
    · have hdd : ((c : Int) != 44) = true := by rw [bne_iff_ne]; omega
      have HE := Lib.hid (got_no (S := numsOf s) (i := i) (m := 51) (n := 51) (HNX.out.2.2 hcf hc44) rfl (by decide) HST6.out.below)
      have HZ := Lib.hid (put8_lies (a := .int .i64 0) (b := .bool false) (c := .int .i64 0) (d := .string { data := #[] }) (e := nilS) (f := nilS) (h := .int .i64 0) (k := .int .i64 51) HST6.out.res)
      obtain ⟨⟨z0, z1, z2, z3, z4, z5, z6, z7⟩, f0, f1, f2, f3, f4, f5, f6, f7⟩ := HST6.out.res.eight

      clear hcf hc44
      go_wp2_with fail
      refine hA.mono ?_
      rintro e w7 ⟨rfl, rfl⟩
      clear hA
      go_wp2
      refine bodyPost_ret (v := errV 51) ?_ rfl ?_
      · have hz := HZ.out
        unfold put8 at hz
        generalize World.setCell (World.setCell (World.setCell (World.setCell (World.setCell (World.setCell (World.setCell (World.setCell W6 _ _) _ _) _ _) _ _) _ _) _ _) _ _) _ _ = w9 at hz ⊢
        obtain ⟨⟨z0, z1, z2, z3, z4, z5, z6, z7⟩, _⟩ := hz.eight
        simp [results, Tryz.results107, go_sem, z0, z1, z2, z3, z4, z5, z6, z7] <;> rfl
      · exact HE.out
    have hdd : ((c : Int) != 44) = false := by rw [hc44]; rfl
    have HAT2 := Lib.hid (HNX.out.2.1 hc44)
    have hps : p < s.size := by
      rw [← Hlen.out]
      exact lt_of_get HECP.out (by omega)
    have hB7 := HBLH.out (p + 1) hps W6
    obtain ⟨k2, ek2⟩ : ∃ k2, past (numsOf s) (p + 1) = k2 := ⟨_, rfl⟩
    have hk2 : p + 1 ≤ k2 ∧ k2 ≤ s.size := by
      rw [← ek2]
      exact ⟨past_ge (by rw [Hlen.out]; exact hps), by rw [← Hlen.out]; exact past_le _ _⟩
    obtain ⟨hk2, hk3⟩ := hk2
    rw [ek2] at HAT2 hB7
    rw [show ((p + 1 : Nat) : Int) = (p : Int) + 1 from by omega] at hB7
    clear hcf hc44 ek2
    go_wp2_with fail
    refine hA.mono ?_
    rintro e w7 ⟨rfl, rfl⟩
    clear hA
    go_wp2_with fail
    refine hB7.mono ?_
    rintro e w7 ⟨rfl, rfl⟩
    clear hB7
    go_wp2
    go_roundw
    case rel => exact ⟨k2, L, _, rfl, by omega, hk3, by omega, HST6.out, HAT2⟩
    case measure => simp [intOf]; omega

set_option maxHeartbeats 8000000 in
set_option maxRecDepth 100000 in
theorem refObject_step (n : Nat) (hn : n + 1 ≤ 16) (hV : RValueOk n) (s : ByteArray) (i : Nat) (hi : i < s.size) (hs : s.size ≤ 4096) (w : World) (hb : (numsOf s).getD i 0 = 123) :
    Calls Tryz.prog 107 #[.string s, .int .i64 i, .int .i64 ((16 - (n + 1) : Nat) : Int)] w (GotEnd (numsOf s) i (Jq.objectOf (Jq.value n) ((numsOf s).drop (i + 1))) w) := by
  obtain ⟨RES, eRES⟩ : ∃ RES, Jq.objectOf (Jq.value n) ((numsOf s).drop (i + 1)) = RES := ⟨_, rfl⟩
  rw [eRES]
  obtain ⟨D, eD⟩ : ∃ D : Int, ((16 - (n + 1) : Nat) : Int) = D := ⟨_, rfl⟩
  rw [eD]
  have HV : Hid (∀ (k : Nat) (w' : World), k ≤ s.size → Calls Tryz.prog 84 #[.string s, .int .i64 k, .int .i64 (D + 1)] w' (GotEnd (numsOf s) k (Jq.value n ((numsOf s).drop k)) w')) := fun k w' hk => by
    have := hV s k w' hk hs
    rw [show ((16 - n : Nat) : Int) = D + 1 from by omega] at this
    exact this
  have hd16 : (D == 16) = false := by rw [beq_eq_false_iff_ne]; omega
  have hD1 : 0 ≤ D := by omega
  have hD2 : D ≤ 16 := by omega
  have hx : s[i].toNat = 123 := by rw [← nums_at s i hi, hb]
  have hxb : ((s[i].toNat : Int) == 123) = true := by rw [hx]; rfl
  have Hlen := Lib.hid (numsOf_length s)
  obtain ⟨W0, eW0⟩ : ∃ W0, W0 = (w.alloc (.cells zero8.toArray 117)).alloc (.cells #[.int .i64 5, .bool false, .int .i64 0, .string ByteArray.empty, nilS, nilS] 26) := ⟨_, rfl⟩
  have HST0 := Lib.hid (RSt.begin eW0)
  have HBL := fun (k : Nat) (hk : k ≤ s.size) (w' : World) => blanks_any s k hk (by omega) w'
  have HBLH := Lib.hid HBL
  have hB0 := HBL (i + 1) hi W0
  obtain ⟨q, eq⟩ : ∃ q, past (numsOf s) (i + 1) = q := ⟨_, rfl⟩
  have hq1 : i + 1 ≤ q ∧ q ≤ s.size := by
    rw [← eq]
    exact ⟨past_ge (by rw [Hlen.out]; exact hi), by rw [← Hlen.out]; exact past_le _ _⟩
  obtain ⟨hq1, hq2⟩ := hq1
  rw [eq, show ((i + 1 : Nat) : Int) = (i : Int) + 1 from by omega] at hB0
  obtain ⟨hBeg, hGo⟩ := object_begin (elem := Jq.value n) eRES.symm
  rw [eq] at hBeg hGo
  have HBEG := Lib.hid hBeg
  have HGO := Lib.hid hGo
  have hA0 := at_any s q W0
  obtain ⟨c, ec⟩ : ∃ c, (numsOf s).getD q 0 = c := ⟨_, rfl⟩
  rw [ec] at hA0
  have EC := Lib.hid ec
  have HW0 := Lib.hid eW0
  rw [eW0] at hB0
  clear eRES eD hV hb hx HBL eq hBeg hGo ec eW0
  go_enter Tryz.func107, Tryz.ntmps107
  go_wp2_with fail
  refine hB0.mono ?_
  rintro e w1 ⟨rfl, rfl⟩
  rw [← HW0.out]
  clear hB0
  go_wp2_with fail
  refine hA0.mono ?_
  rintro e w1 ⟨rfl, rfl⟩
  clear hA0
  by_cases hcf : c = 125
  · have hdc : ((c : Int) == 125) = true := by rw [hcf]; rfl
    have hqs : q < s.size := by
      rcases Nat.lt_or_ge q s.size with h | h
      · exact h
      · exfalso
        have := EC.out
        rw [List.getD_eq_getElem?_getD, List.getElem?_eq_none (by rw [Hlen.out]; exact h), hcf] at this
        cases this
    have HE : Hid (GotEnd (numsOf s) i RES w (.returned (gotV 5 false 0 ByteArray.empty nilS nilS ((q : Int) + 1) 0)) (put8 W0 w.heap.size (.int .i64 5) (.bool false) (.int .i64 0) (.string ByteArray.empty) nilS nilS (.int .i64 ((q : Int) + 1)) (.int .i64 0))) :=
      RSt.out (j := q + 1) HST0.out (by decide) (by simp) (by simp) (HBEG.out (by rw [EC.out, hcf])) (by rw [Hlen.out]; exact hqs) (by omega)
    have HZ := Lib.hid (put8_lies (a := .int .i64 5) (b := .bool false) (c := .int .i64 0) (d := .string ByteArray.empty) (e := nilS) (f := nilS) (h := .int .i64 ((q : Int) + 1)) (k := .int .i64 0) HST0.out.res)
    obtain ⟨⟨z0, z1, z2, z3, z4, z5, z6, z7⟩, f0, f1, f2, f3, f4, f5, f6, f7⟩ := HST0.out.res.eight
    obtain ⟨⟨v0, v1, v2, v3, v4, v5⟩, g4, g5⟩ := HST0.out.box.cells
    clear hcf
    go_wp2
    refine bodyPost_ret (v := gotV 5 false 0 ByteArray.empty nilS nilS ((q : Int) + 1) 0) ?_ rfl ?_
    · have hz := HZ.out
      unfold put8 at hz
      generalize World.setCell (World.setCell (World.setCell (World.setCell (World.setCell (World.setCell (World.setCell (World.setCell W0 _ _) _ _) _ _) _ _) _ _) _ _) _ _) _ _ = w9 at hz ⊢
      obtain ⟨⟨z0, z1, z2, z3, z4, z5, z6, z7⟩, _⟩ := hz.eight
      simp [results, Tryz.results107, go_sem, z0, z1, z2, z3, z4, z5, z6, z7] <;> rfl
    · exact HE.out
  have hdc : ((c : Int) == 125) = false := by rw [beq_eq_false_iff_ne]; omega
  have HG := Lib.hid (HGO.out (by rw [EC.out]; exact hcf))
  clear hcf
  go_wp2_with fail
  go_loopw [1] (fun i' wr => ObjRel s (Jq.value n) RES i w i' wr) (fun i' _ => s.size - (intOf i').toNat)
  case atStart => exact ⟨q, [], [], nilS, nilS, rfl, hq1, hq2, Nat.zero_le _, Nat.zero_le _, HST0.out, HG⟩
  case round =>
    obtain ⟨q, ns, l, nv, lv, rfl, hiq, hqs, hlq, hnq, hst, hat⟩ := hrel
    obtain ⟨⟨A9, c9, rfl⟩, A0, c0, rfl⟩ := hst.box.forms
    have hle : decide ((q : Int) ≤ (s.size : Int)) = true := decide_eq_true (by omega)
    have HAT := hat
    have HST := Lib.hid hst
    have hA := at_any s q wr
    obtain ⟨c, ec⟩ : ∃ c, (numsOf s).getD q 0 = c := ⟨_, rfl⟩
    rw [ec] at hA
    have HEC := Lib.hid ec
    clear ec hat
    by_cases h34 : c = 34
    rotate_left
    · have hdd : ((c : Int) != 34) = true := by rw [bne_iff_ne]; omega
      have HST6 := HST
      have HE := Lib.hid (got_no (S := numsOf s) (i := i) (m := 51) (n := 51) (HAT.out.noName (by rw [HEC.out]; exact h34)) rfl (by decide) HST6.out.below)
      have HZ := Lib.hid (put8_lies (a := .int .i64 0) (b := .bool false) (c := .int .i64 0) (d := .string { data := #[] }) (e := nilS) (f := nilS) (h := .int .i64 0) (k := .int .i64 51) HST6.out.res)
      obtain ⟨⟨z0, z1, z2, z3, z4, z5, z6, z7⟩, f0, f1, f2, f3, f4, f5, f6, f7⟩ := HST6.out.res.eight

      clear h34 hst
      go_wp2_with fail
      refine hA.mono ?_
      rintro e w7 ⟨rfl, rfl⟩
      clear hA
      go_wp2
      refine bodyPost_ret (v := errV 51) ?_ rfl ?_
      · have hz := HZ.out
        unfold put8 at hz
        generalize World.setCell (World.setCell (World.setCell (World.setCell (World.setCell (World.setCell (World.setCell (World.setCell wr _ _) _ _) _ _) _ _) _ _) _ _) _ _) _ _ = w9 at hz ⊢
        obtain ⟨⟨z0, z1, z2, z3, z4, z5, z6, z7⟩, _⟩ := hz.eight
        simp [results, Tryz.results107, go_sem, z0, z1, z2, z3, z4, z5, z6, z7] <;> rfl
      · exact HE.out
    have hdd : ((c : Int) != 34) = false := by rw [h34]; rfl
    have hqlt : q < s.size := by
      rw [← Hlen.out]
      exact lt_of_get HEC.out (by omega)
    have hT := readText_any s q hqlt hs wr
    have HNM := Lib.hid (HAT.out.name (by rw [HEC.out]; exact h34))
    clear h34 hst
    go_wp2_with fail
    refine hA.mono ?_
    rintro e w7 ⟨rfl, rfl⟩
    clear hA
    go_wp2_with fail
    refine hT.mono ?_
    intro e w1 hh
    clear hT
    rcases GotEnd.cases hh with ⟨y, r, X1, y1, X2, y2, j, he, rfl, hJ, hr, hj, hqj, hb1⟩ | ⟨m, he, hm, ⟨k0, b0, m0, t0, X1, n1, y1, X2, n2, y2, at0, rfl⟩, hb1⟩
    rotate_left
    · have hd5 : ((m : Int) != 0) = true := by rw [bne_iff_ne]; omega
      have HB1 := Lib.hid hb1
      have HRE := Lib.hid (show RES = .error m from HNM.out.1 m (text_err he))
      have hne : w.heap.size < w1.heap.size := (HST.out.on hb1).res.lt
      clear hh he hb1
      repeat ((fail_if_success (with_reducible show wpList _ _ _ (⟨some 49, _, _, _, _, _⟩ :: _) _ _)); first | go_values | go_skip | go_guarded | go_step | go_upon | go_back | go_simp)
      generalize hW1 : World.alloc w1 _ = W1
      have hbW : Below wr.heap.size wr W1 := by rw [← hW1]; exact below_alloc HB1.out _
      have hXs : Lies W1 w1.heap.size 117 [.int .i64 k0, .bool b0, .int .i64 m0, .string t0, .slice X1 n1 y1, .slice X2 n2 y2, .int .i64 at0, .int .i64 m] := by rw [← hW1]; exact Lies.new_ rfl
      have hG := (HST.out.on hbW).res
      have HE : Hid (GotEnd (numsOf s) i RES w (.returned (gotV k0 b0 m0 t0 (.slice X1 n1 y1) (.slice X2 n2 y2) at0 m)) (put8 W1 w.heap.size (.int .i64 k0) (.bool b0) (.int .i64 m0) (.string t0) (.slice X1 n1 y1) (.slice X2 n2 y2) (.int .i64 at0) (.int .i64 m))) := got_err HRE.out hm (below_more HST.out.below hbW)
      have HZ : Hid (Lies (put8 W1 w.heap.size (.int .i64 k0) (.bool b0) (.int .i64 m0) (.string t0) (.slice X1 n1 y1) (.slice X2 n2 y2) (.int .i64 at0) (.int .i64 m)) w.heap.size 117 _) := put8_lies hG
      obtain ⟨⟨z0, z1, z2, z3, z4, z5, z6, z7⟩, f0, f1, f2, f3, f4, f5, f6, f7⟩ := hG.eight
      obtain ⟨⟨x0, x1, x2, x3, x4, x5, x6, x7⟩, _⟩ := hXs.eight
      clear hW1 hXs hG hbW HB1 HRE HST hm
      go_wp2
      refine bodyPost_ret (v := gotV k0 b0 m0 t0 (.slice X1 n1 y1) (.slice X2 n2 y2) at0 m) ?_ rfl ?_
      · have hz := HZ.out
        unfold put8 at hz
        generalize World.setCell (World.setCell (World.setCell (World.setCell (World.setCell (World.setCell (World.setCell (World.setCell W1 _ _) _ _) _ _) _ _) _ _) _ _) _ _) _ _ = w9 at hz ⊢
        obtain ⟨⟨z0, z1, z2, z3, z4, z5, z6, z7⟩, _⟩ := hz.eight
        simp [results, Tryz.results107, go_sem, z0, z1, z2, z3, z4, z5, z6, z7] <;> rfl
      · exact HE.out
    obtain ⟨t, hRT, rfl⟩ := text_ok he
    have HNA := Lib.hid (HNM.out.2 t r j hRT hr)
    have hjs : j ≤ s.size := by rw [← Hlen.out]; exact hj
    have hst1 := HST.out.on hb1
    obtain ⟨nv1, lv1, ev1, _, _, ht, _⟩ := hJ.parts
    have HTB : Hid (t.length ≤ 140737488355328 ∧ ∀ x ∈ t, x < 256) := ht
    have HB1 := Lib.hid hb1
    have hne : w.heap.size + 1 < w1.heap.size := hst1.box.box.lt
    clear hh he hJ hr hj hst1 hb1 hRT ev1 ht
    repeat ((fail_if_success (with_reducible show wpList _ _ _ (⟨some 49, _, _, _, _, _⟩ :: _) _ _)); first | go_values | go_skip | go_guarded | go_step | go_upon | go_back | go_simp)
    generalize hW1 : World.alloc w1 _ = W1
    have hbW : Below wr.heap.size wr W1 := by rw [← hW1]; exact below_alloc HB1.out _
    have hXs : Lies W1 w1.heap.size 117 [.int .i64 3, .bool false, .int .i64 0, .string (strOf t), .slice X1 0 y1, .slice X2 0 y2, .int .i64 j, .int .i64 0] := by rw [← hW1]; exact Lies.new_ rfl
    have HST1 := Lib.hid (HST.out.on hbW)
    have HSZ1 : Hid (W1.heap.size = w1.heap.size + 1) := by unfold Hid; rw [← hW1]; simp
    have HX1 := Lib.hid hXs
    have hN := named_any ns t _ W1 HST1.out.box.slis (by omega) (fun p hp => (HST1.out.box.nlt p hp).2) HTB.out.2
    obtain ⟨⟨x0, x1, x2, x3, x4, x5, x6, x7⟩, _⟩ := hXs.eight
    obtain ⟨⟨v0, v1, v2, v3, v4, v5⟩, g4, g5⟩ := HST1.out.box.cells
    clear hW1 hXs hbW HST HB1
    by_cases htn : t ∈ ns
    · rw [decide_eq_true htn] at hN
      have HST6 := HST1
      have HE := Lib.hid (got_no (S := numsOf s) (i := i) (m := 54) (n := 54) (HNA.out.twice htn) rfl (by decide) HST6.out.below)
      have HZ := Lib.hid (put8_lies (a := .int .i64 0) (b := .bool false) (c := .int .i64 0) (d := .string { data := #[] }) (e := nilS) (f := nilS) (h := .int .i64 0) (k := .int .i64 54) HST6.out.res)
      obtain ⟨⟨z0, z1, z2, z3, z4, z5, z6, z7⟩, f0, f1, f2, f3, f4, f5, f6, f7⟩ := HST6.out.res.eight

      clear htn
      go_wp2_with fail
      refine hN.mono ?_
      rintro e w7 ⟨rfl, rfl⟩
      clear hN
      go_wp2
      refine bodyPost_ret (v := errV 54) ?_ rfl ?_
      · have hz := HZ.out
        unfold put8 at hz
        generalize World.setCell (World.setCell (World.setCell (World.setCell (World.setCell (World.setCell (World.setCell (World.setCell W1 _ _) _ _) _ _) _ _) _ _) _ _) _ _) _ _ = w9 at hz ⊢
        obtain ⟨⟨z0, z1, z2, z3, z4, z5, z6, z7⟩, _⟩ := hz.eight
        simp [results, Tryz.results107, go_sem, z0, z1, z2, z3, z4, z5, z6, z7] <;> rfl
      · exact HE.out
    rw [decide_eq_false htn] at hN
    have HTN := Lib.hid htn
    have hB6 := HBLH.out j hjs W1
    obtain ⟨p, ep⟩ : ∃ p, past (numsOf s) j = p := ⟨_, rfl⟩
    obtain ⟨hp1, hp2⟩ : j ≤ p ∧ p ≤ s.size := by
      rw [← ep]
      exact ⟨past_ge (by rw [Hlen.out]; exact hjs), by rw [← Hlen.out]; exact past_le _ _⟩
    rw [ep] at hB6
    have hA := at_any s p W1
    obtain ⟨c', ec'⟩ : ∃ c', (numsOf s).getD p 0 = c' := ⟨_, rfl⟩
    rw [ec'] at hA
    have EP := Lib.hid ep
    have HECP := Lib.hid ec'
    clear htn ep ec'
    go_wp2_with fail
    refine hN.mono ?_
    rintro e w7 ⟨rfl, rfl⟩
    clear hN
    go_wp2_with fail
    refine hB6.mono ?_
    rintro e w7 ⟨rfl, rfl⟩
    clear hB6
    by_cases h58 : c' = 58
    rotate_left
    · have hd58 : ((c' : Int) != 58) = true := by rw [bne_iff_ne]; omega
      have HST6 := HST1
      have HE := Lib.hid (got_no (S := numsOf s) (i := i) (m := 51) (n := 51) (HNA.out.noColon HTN.out (by rw [EP.out, HECP.out]; exact h58)) rfl (by decide) HST6.out.below)
      have HZ := Lib.hid (put8_lies (a := .int .i64 0) (b := .bool false) (c := .int .i64 0) (d := .string { data := #[] }) (e := nilS) (f := nilS) (h := .int .i64 0) (k := .int .i64 51) HST6.out.res)
      obtain ⟨⟨z0, z1, z2, z3, z4, z5, z6, z7⟩, f0, f1, f2, f3, f4, f5, f6, f7⟩ := HST6.out.res.eight

      clear h58
      go_wp2_with fail
      refine hA.mono ?_
      rintro e w7 ⟨rfl, rfl⟩
      clear hA
      go_wp2
      refine bodyPost_ret (v := errV 51) ?_ rfl ?_
      · have hz := HZ.out
        unfold put8 at hz
        generalize World.setCell (World.setCell (World.setCell (World.setCell (World.setCell (World.setCell (World.setCell (World.setCell W1 _ _) _ _) _ _) _ _) _ _) _ _) _ _) _ _ = w9 at hz ⊢
        obtain ⟨⟨z0, z1, z2, z3, z4, z5, z6, z7⟩, _⟩ := hz.eight
        simp [results, Tryz.results107, go_sem, z0, z1, z2, z3, z4, z5, z6, z7] <;> rfl
      · exact HE.out
    have hd58 : ((c' : Int) != 58) = false := by rw [h58]; rfl
    have HCOL : Hid ((numsOf s).getD (past (numsOf s) j) 0 = 58) := by unfold Hid; rw [EP.out, HECP.out]; exact h58
    have hps0 : p < s.size := by
      rw [← Hlen.out]
      exact lt_of_get HECP.out (by omega)
    clear h58
    go_wp2_with fail
    refine hA.mono ?_
    rintro e w7 ⟨rfl, rfl⟩
    clear hA
    obtain ⟨i1, hi1, hy0, hy1, hy2⟩ := info_parts infoText
    repeat ((fail_if_success (with_reducible show wpList _ _ _ (⟨some 74, _, _, _, _, _⟩ :: _) _ _)); first | go_values | go_skip | go_guarded | go_step | go_upon | go_back | go_simp)
    have hstA := HST1.out.on ((Below.refl _ W1).alloc (Nat.le_refl _) (.cells #[.string (strOf t)] 9))
    have hsA := hstA.box.size
    have hVl := hstA.box.box
    with_reducible refine wpList_append_own_at _ rfl (.tmp 69) (.tmp 73) 23 rfl (w.heap.size + 2) 9 i1 (.string ByteArray.empty) 1 16 Tryz.underlying23 hi1 hy0 hy1 hy2 rfl (by decide) _ ns.length (tcells ns) ?s1 hstA.box.names ⟨W1.heap.size, 0, none⟩ 1 1 [.string (strOf t)] ?s2 rfl ?s3 ?s7 ?s4 ?s5 ?s6 ?_
    case s1 => rfl
    case s2 => rfl
    case s3 => exact fun k u hk => new_cells W1 _ _ k u hk
    case s7 => intro u hu; rw [List.mem_singleton.1 hu]; rfl
    case s4 => unfold maxLen; omega
    case s5 => omega
    case s6 => exact hsA
    intro nv5 w5 hown5 hgr5 _ hat5
    have HST5 := Lib.hid (hstA.name HTB.out hown5 hgr5 hat5)
    have hV5 := hVl.grown hgr5 (fun e => by have := (hstA.box.names.lt _ e.symm).1; omega)
    have u4 := hV5.cell 4
    have g4' := hV5.free 4
    obtain ⟨A10, c10, e10⟩ := HST5.out.box.forms.1
    obtain ⟨NS, eNS⟩ : ∃ NS, ns ++ [t] = NS := ⟨_, rfl⟩
    rw [eNS] at e10
    subst e10
    have hNS : NS.length ≤ q + 1 := by rw [← eNS, List.length_append, List.length_singleton]; omega
    have HENS := Lib.hid eNS
    rw [eNS] at HST5
    obtain ⟨W6n, eW6n⟩ : ∃ W6n, W6n = w5.setCell ⟨w.heap.size + 1, 4, none⟩ (.slice A10 NS.length c10) := ⟨_, rfl⟩
    rw [← eW6n] at HST5
    have HW6n := Lib.hid eW6n
    obtain ⟨p1, ep1⟩ : ∃ p1, p + 1 = p1 := ⟨_, rfl⟩
    have hpp : (p : Int) + 1 = (p1 : Int) := by omega
    have hV := HV.out p1 W6n (by omega)
    rw [eW6n] at hV
    have hst := HST5.out
    have HST := HST5
    have HPP : Hid (past (numsOf s) j + 1 = p1) := by unfold Hid; rw [EP.out, ep1]
    have hp1s : p1 ≤ s.size ∧ q ≤ p1 := by omega
    obtain ⟨hp1s, hqp1⟩ := hp1s
    clear hown5 hgr5 hat5 hstA hsA hVl hV5 eNS eW6n ep1 hi1 hy0 hy1 hy2 HST5 hst x0 x1 x2 x3 x4 x5 x6 x7 v0 v1 v2 v3 v4 v5 g4 g5
    go_frame
    go_wp2_with fail
    refine hV.mono ?_
    intro e w1 hh
    rw [← HW6n.out] at hh
    clear hV u4 g4' hne
    rcases GotEnd.cases hh with ⟨x, r, X1, y1, X2, y2, j, he, rfl, hJ, hr, hj, hqj, hb1⟩ | ⟨m, he, hm, ⟨k0, b0, m0, t0, X1, n1, y1, X2, n2, y2, at0, rfl⟩, hb1⟩
    rotate_left
    · have hd5 : ((m : Int) != 0) = true := by rw [bne_iff_ne]; omega
      have HB1 := Lib.hid hb1
      have HRE := Lib.hid (show RES = .error m from HNA.out.err HTN.out HCOL.out (by rw [HPP.out]; exact he))
      have hne : w.heap.size < w1.heap.size := (HST.out.on hb1).res.lt
      clear hh he hb1
      repeat ((fail_if_success (with_reducible show wpList _ _ _ (⟨some 84, _, _, _, _, _⟩ :: _) _ _)); first | go_values | go_skip | go_guarded | go_step | go_upon | go_back | go_simp)
      generalize hW1 : World.alloc w1 _ = W1
      have hbW : Below W6n.heap.size W6n W1 := by rw [← hW1]; exact below_alloc HB1.out _
      have hXs : Lies W1 w1.heap.size 117 [.int .i64 k0, .bool b0, .int .i64 m0, .string t0, .slice X1 n1 y1, .slice X2 n2 y2, .int .i64 at0, .int .i64 m] := by rw [← hW1]; exact Lies.new_ rfl
      have hG := (HST.out.on hbW).res
      have HE : Hid (GotEnd (numsOf s) i RES w (.returned (gotV k0 b0 m0 t0 (.slice X1 n1 y1) (.slice X2 n2 y2) at0 m)) (put8 W1 w.heap.size (.int .i64 k0) (.bool b0) (.int .i64 m0) (.string t0) (.slice X1 n1 y1) (.slice X2 n2 y2) (.int .i64 at0) (.int .i64 m))) := got_err HRE.out hm (below_more HST.out.below hbW)
      have HZ : Hid (Lies (put8 W1 w.heap.size (.int .i64 k0) (.bool b0) (.int .i64 m0) (.string t0) (.slice X1 n1 y1) (.slice X2 n2 y2) (.int .i64 at0) (.int .i64 m)) w.heap.size 117 _) := put8_lies hG
      obtain ⟨⟨z0, z1, z2, z3, z4, z5, z6, z7⟩, f0, f1, f2, f3, f4, f5, f6, f7⟩ := hG.eight
      obtain ⟨⟨x0, x1, x2, x3, x4, x5, x6, x7⟩, _⟩ := hXs.eight
      clear hW1 hXs hG hbW HB1 HRE HST hm
      go_wp2
      refine bodyPost_ret (v := gotV k0 b0 m0 t0 (.slice X1 n1 y1) (.slice X2 n2 y2) at0 m) ?_ rfl ?_
      · have hz := HZ.out
        unfold put8 at hz
        generalize World.setCell (World.setCell (World.setCell (World.setCell (World.setCell (World.setCell (World.setCell (World.setCell W1 _ _) _ _) _ _) _ _) _ _) _ _) _ _) _ _ = w9 at hz ⊢
        obtain ⟨⟨z0, z1, z2, z3, z4, z5, z6, z7⟩, _⟩ := hz.eight
        simp [results, Tryz.results107, go_sem, z0, z1, z2, z3, z4, z5, z6, z7] <;> rfl
      · exact HE.out
    have HNX := Lib.hid (HNA.out.next HTN.out HCOL.out (by rw [HPP.out]; exact he) hr (by omega) hj)
    have hjs : j ≤ s.size := by rw [← Hlen.out]; exact hj
    have hst1 := HST.out.on hb1
    have HJ := Lib.hid hJ
    have HB1 := Lib.hid hb1
    obtain ⟨⟨v0, v1, v2, v3, v4, v5⟩, g4, g5⟩ := hst1.box.cells
    have hne : w.heap.size + 1 < w1.heap.size := hst1.box.box.lt
    obtain ⟨i0, hi0, hz0, hz1, hz2⟩ := info_parts infoJson
    have HLC : Hid (∀ k, (Value.slice A0 l.length c0).ownBlock = some k → w.heap.size + 2 ≤ k ∧ k < W6n.heap.size) := by
      obtain ⟨_, _, ho0, _⟩ := HST.out.box.rows
      exact ho0.lt
    clear hh he hJ hr hj hst1 hb1
    repeat ((fail_if_success (with_reducible show wpList _ _ _ (⟨some 92, _, _, _, _, _⟩ :: _) _ _)); first | go_values | go_skip | go_guarded | go_step | go_upon | go_back | go_simp)
    generalize hW2 : World.alloc (World.alloc w1 _) _ = W2
    have hbW : Below W6n.heap.size W6n W2 := by rw [← hW2]; exact below_alloc (below_alloc HB1.out _) _
    have hb12 : Below w1.heap.size w1 W2 := by rw [← hW2]; exact below_alloc (below_alloc (Below.refl _ _) _) _
    have hXs : Lies W2 w1.heap.size 117 [.int .i64 x.kind, .bool x.bool, .int .i64 x.int, .string (strOf x.text), .slice X1 x.names.length y1, .slice X2 x.list.length y2, .int .i64 j, .int .i64 0] := by rw [← hW2]; exact (Lies.new_ rfl).alloc _
    have hc6 : ∀ (k : Nat) u, (jcells (jv x.kind x.bool x.int (strOf x.text) (.slice X1 x.names.length y1) (.slice X2 x.list.length y2)))[k]? = some u → W2.cell? ((⟨w1.heap.size + 1, 0, none⟩ : Addr).add k) = some u := by
      intro k u hk
      rw [← hW2]
      have h := new_cells (w1.alloc (.cells #[.int .i64 x.kind, .bool x.bool, .int .i64 x.int, .string (strOf x.text), .slice X1 x.names.length y1, .slice X2 x.list.length y2, .int .i64 j, .int .i64 0] 117)) #[.int .i64 x.kind, .bool x.bool, .int .i64 x.int, .string (strOf x.text), .slice X1 x.names.length y1, .slice X2 x.list.length y2] 26 k u hk
      rwa [show (w1.alloc (.cells #[.int .i64 x.kind, .bool x.bool, .int .i64 x.int, .string (strOf x.text), .slice X1 x.names.length y1, .slice X2 x.list.length y2, .int .i64 j, .int .i64 0] 117)).heap.size = w1.heap.size + 1 from by simp] at h
    have hst2 := HST.out.on hbW
    obtain ⟨vs, hvs, ho, hel⟩ := hst2.box.rows
    have hJ2 := HJ.out.on hb12
    have hs2 := hst2.box.size
    have hVl := hst2.box.box
    clear hW2 v0 v1 v2 v3 v4 v5 g4 g5 hb12
    with_reducible refine wpList_append_own_at _ rfl (.tmp 88) (.tmp 91) 24 rfl (w.heap.size + 2) 26 i0 (jv 0 false 0 ByteArray.empty nilS nilS) 6 88 Tryz.underlying24 hi0 hz0 hz1 hz2 rfl (by decide) _ l.length (vs.flatMap jcells) ?s1 ho ⟨w1.heap.size + 1, 0, none⟩ 1 1 (jcells (jv x.kind x.bool x.int (strOf x.text) (.slice X1 x.names.length y1) (.slice X2 x.list.length y2))) ?s2 rfl hc6 (got_ones _ _ _ _ _ _ _ _ _ _) ?s4 ?s5 ?s6 ?_
    case s1 => rfl
    case s2 => rfl
    case s4 => unfold maxLen; omega
    case s5 => omega
    case s6 => exact hs2
    intro lv5 w5 hown5 hgr5 _ hat5
    have HST5 := Lib.hid (HST.out.elem hbW hvs hel hJ2 hown5 hgr5 hat5)
    have hX6 := (hXs.grown hgr5 (fun e => by have := (HLC.out _ e.symm).2; have := HB1.out.size; omega)).far (p := ⟨w.heap.size + 1, 5, none⟩) (show w1.heap.size ≠ w.heap.size + 1 by omega) lv5
    have hV5 := hVl.grown hgr5 (fun e => by have := (HLC.out _ e.symm).1; omega)
    have u5 := hV5.cell 5
    have g5 := hV5.free 5
    obtain ⟨A6, c6, e6⟩ := HST5.out.box.forms.2
    obtain ⟨L, eL⟩ : ∃ L, l ++ [x] = L := ⟨_, rfl⟩
    rw [eL] at e6
    subst e6
    have hLl : L.length ≤ p1 + 1 := by rw [← eL, List.length_append, List.length_singleton]; omega
    rw [eL] at HST5
    obtain ⟨W6, eW6⟩ : ∃ W6, W6 = w5.setCell ⟨w.heap.size + 1, 5, none⟩ (.slice A6 L.length c6) := ⟨_, rfl⟩
    rw [← eW6] at HST5 hX6
    have HST6 := HST5
    rw [eL, HENS.out] at HNX
    obtain ⟨p, ep⟩ : ∃ p, past (numsOf s) j = p := ⟨_, rfl⟩
    rw [ep] at HNX
    obtain ⟨hp1, hp2⟩ : j ≤ p ∧ p ≤ s.size := by
      rw [← ep]
      exact ⟨past_ge (by rw [Hlen.out]; exact hjs), by rw [← Hlen.out]; exact past_le _ _⟩
    have hB6 := HBLH.out j hjs W6
    rw [ep, eW6] at hB6
    have HW6 := Lib.hid eW6
    have hA := at_any s p W6
    obtain ⟨c, ec⟩ : ∃ c, (numsOf s).getD p 0 = c := ⟨_, rfl⟩
    rw [ec] at hA HNX
    obtain ⟨⟨x0, x1, x2, x3, x4, x5, x6, x7⟩, _⟩ := hX6.eight
    have HECP := Lib.hid ec
    have hx6' := x6
    rw [eW6] at x6
    clear hown5 hgr5 hat5 hbW hvs hel hJ2 ho hs2 hVl hX6 hV5 hXs hc6 hst2 HST5 HJ HB1 HLC eL eW6 ep ec hi0 hz0 hz1 hz2 x0 x1 x2 x3 x4 x5 x7 hx6' HST
    go_frame
    go_wp2_with fail
    refine hB6.mono ?_
    rintro e w7 ⟨rfl, rfl⟩
    rw [← HW6.out]
    clear hB6 x6 u5 g5 hne
    go_wp2_with fail
    refine hA.mono ?_
    rintro e w7 ⟨rfl, rfl⟩
    by_cases hcf : c = 125
    · have hdc : ((c : Int) == 125) = true := by rw [hcf]; rfl
      have hps : p < s.size := by
        rw [← Hlen.out]
        exact lt_of_get HECP.out (by omega)
      have HE : Hid (GotEnd (numsOf s) i RES w (.returned (gotV 5 false 0 ByteArray.empty (.slice A10 NS.length c10) (.slice A6 L.length c6) ((p : Int) + 1) 0)) (put8 W6 w.heap.size (.int .i64 5) (.bool false) (.int .i64 0) (.string ByteArray.empty) (.slice A10 NS.length c10) (.slice A6 L.length c6) (.int .i64 ((p : Int) + 1)) (.int .i64 0))) :=
        RSt.out (j := p + 1) HST6.out (by decide) (by omega) (by omega) (HNX.out.1 hcf) (by rw [Hlen.out]; exact hps) (by omega)
      have HZ := Lib.hid (put8_lies (a := .int .i64 5) (b := .bool false) (c := .int .i64 0) (d := .string ByteArray.empty) (e := (.slice A10 NS.length c10)) (f := (.slice A6 L.length c6)) (h := .int .i64 ((p : Int) + 1)) (k := .int .i64 0) HST6.out.res)
      obtain ⟨⟨z0, z1, z2, z3, z4, z5, z6, z7⟩, f0, f1, f2, f3, f4, f5, f6, f7⟩ := HST6.out.res.eight
      obtain ⟨⟨v0, v1, v2, v3, v4, v5⟩, g4, g5⟩ := HST6.out.box.cells

      clear hcf hA
      go_wp2
      refine bodyPost_ret (v := gotV 5 false 0 ByteArray.empty (.slice A10 NS.length c10) (.slice A6 L.length c6) ((p : Int) + 1) 0) ?_ rfl ?_
      · have hz := HZ.out
        unfold put8 at hz
        generalize World.setCell (World.setCell (World.setCell (World.setCell (World.setCell (World.setCell (World.setCell (World.setCell W6 _ _) _ _) _ _) _ _) _ _) _ _) _ _) _ _ = w9 at hz ⊢
        obtain ⟨⟨z0, z1, z2, z3, z4, z5, z6, z7⟩, _⟩ := hz.eight
        simp [results, Tryz.results107, go_sem, z0, z1, z2, z3, z4, z5, z6, z7] <;> rfl
      · exact HE.out
    have hdc : ((c : Int) == 125) = false := by rw [beq_eq_false_iff_ne]; omega
    by_cases hc44 : c = 44
    rotate_left
    · have hdd : ((c : Int) != 44) = true := by rw [bne_iff_ne]; omega
      have HE := Lib.hid (got_no (S := numsOf s) (i := i) (m := 51) (n := 51) (HNX.out.2.2 hcf hc44) rfl (by decide) HST6.out.below)
      have HZ := Lib.hid (put8_lies (a := .int .i64 0) (b := .bool false) (c := .int .i64 0) (d := .string { data := #[] }) (e := nilS) (f := nilS) (h := .int .i64 0) (k := .int .i64 51) HST6.out.res)
      obtain ⟨⟨z0, z1, z2, z3, z4, z5, z6, z7⟩, f0, f1, f2, f3, f4, f5, f6, f7⟩ := HST6.out.res.eight

      clear hcf hc44
      go_wp2_with fail
      refine hA.mono ?_
      rintro e w7 ⟨rfl, rfl⟩
      clear hA
      go_wp2
      refine bodyPost_ret (v := errV 51) ?_ rfl ?_
      · have hz := HZ.out
        unfold put8 at hz
        generalize World.setCell (World.setCell (World.setCell (World.setCell (World.setCell (World.setCell (World.setCell (World.setCell W6 _ _) _ _) _ _) _ _) _ _) _ _) _ _) _ _ = w9 at hz ⊢
        obtain ⟨⟨z0, z1, z2, z3, z4, z5, z6, z7⟩, _⟩ := hz.eight
        simp [results, Tryz.results107, go_sem, z0, z1, z2, z3, z4, z5, z6, z7] <;> rfl
      · exact HE.out
    have hdd : ((c : Int) != 44) = false := by rw [hc44]; rfl
    have HAT2 := Lib.hid (HNX.out.2.1 hc44)
    have hps : p < s.size := by
      rw [← Hlen.out]
      exact lt_of_get HECP.out (by omega)
    have hB7 := HBLH.out (p + 1) hps W6
    obtain ⟨k2, ek2⟩ : ∃ k2, past (numsOf s) (p + 1) = k2 := ⟨_, rfl⟩
    have hk2 : p + 1 ≤ k2 ∧ k2 ≤ s.size := by
      rw [← ek2]
      exact ⟨past_ge (by rw [Hlen.out]; exact hps), by rw [← Hlen.out]; exact past_le _ _⟩
    obtain ⟨hk2, hk3⟩ := hk2
    rw [ek2] at HAT2 hB7
    rw [show ((p + 1 : Nat) : Int) = (p : Int) + 1 from by omega] at hB7
    clear hcf hc44 ek2
    go_wp2_with fail
    refine hA.mono ?_
    rintro e w7 ⟨rfl, rfl⟩
    clear hA
    go_wp2_with fail
    refine hB7.mono ?_
    rintro e w7 ⟨rfl, rfl⟩
    clear hB7
    go_wp2
    go_roundw
    case rel => exact ⟨k2, NS, L, _, _, rfl, by omega, hk3, by omega, by omega, HST6.out, HAT2⟩
    case measure => simp [intOf]; omega

end Go.Proofs.YthklgpflaghojaaGreatDoor
