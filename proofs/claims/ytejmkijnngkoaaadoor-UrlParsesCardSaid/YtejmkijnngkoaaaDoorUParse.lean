/-
  The contract of Parse.
-/
import Derived.Test.YtejmkijnngkoaaaDoorUHost
import Derived.Test.YtejmkijnngkoaaaDoorPSame
namespace Go.Proofs.YtejmkijnngkoaaaDoor
open Go.RowKit

theorem front_hit {b : Nat} {l : List Nat} (h : (Uq.front b l).length < l.length) : l.getD (Uq.front b l).length 0 = b := by
  induction l with
  | nil => simp [Uq.front] at h
  | cons c r ih =>
    by_cases hc : c = b
    · subst hc
      simp [Uq.front]
    · have e : Uq.front b (c :: r) = c :: Uq.front b r := by unfold Uq.front; rw [List.takeWhile_cons, if_pos (by simpa using hc)]
      rw [e] at h ⊢
      simp only [List.length_cons] at h ⊢
      have := ih (by omega)
      simpa using this

/-- An address as a value. -/
abbrev uval (H P : ByteArray) (A : Option Addr) (n c : Nat) : Value := .agg #[.string H, .string P, .slice A n c]
/-- What Parse answers. -/
def UrlEnd (S : List Nat) (w : World) (e : Ending) (w' : World) : Prop :=
  ∃ (A : Option Addr) (c : Nat), e = .returned (.tuple #[uval (strOf ((Uq.parse S).getD ([], [], [])).1) (strOf ((Uq.parse S).getD ([], [], [])).2.1) A ((Uq.parse S).getD ([], [], [])).2.2.length c, .bool (Uq.parse S).isSome]) ∧ Row w' A (pcells ((Uq.parse S).getD ([], [], [])).2.2) ∧ Below w.heap.size w w'
theorem UrlEnd.no {S : List Nat} {w w' : World} (h : Uq.parse S = none) (hb : Below w.heap.size w w') : UrlEnd S w (.returned (.tuple #[uval { data := #[] } { data := #[] } none 0 0, .bool false])) w' :=
  ⟨none, 0, by rw [h]; rfl, by rw [h]; exact Row.nil _ _, hb⟩
theorem UrlEnd.yes {S : List Nat} {w w' : World} {H P : ByteArray} {A : Option Addr} {n c : Nat} {u : Uq.U} (h : Uq.parse S = some u) (hH : H = strOf u.1) (hP : P = strOf u.2.1) (hn : u.2.2.length = n) (hr : Row w' A (pcells u.2.2)) (hb : Below w.heap.size w w') : UrlEnd S w (.returned (.tuple #[uval H P A n c, .bool true])) w' :=
  ⟨A, c, by rw [h, ← hn, hH, hP]; rfl, by rw [h]; exact hr, hb⟩

section
variable {w w' : World} {g : Nat} {t : TypeId} {a b c : Value}
theorem keep3 (h : Lies w g t [a, b, c]) (hb : Below w.heap.size w w') : w'.cell? ⟨g, 0, none⟩ = some a ∧ w'.cell? ⟨g, 1, none⟩ = some b ∧ w'.cell? ⟨g, 2, none⟩ = some c ∧ w'.frozen? ⟨g, 0, none⟩ = false ∧ w'.frozen? ⟨g, 1, none⟩ = false ∧ w'.frozen? ⟨g, 2, none⟩ = false := by
  have h' := h.below hb h.lt
  exact ⟨h'.cell 0, h'.cell 1, h'.cell 2, h'.free 0, h'.free 1, h'.free 2⟩
theorem three_put (h : Lies w g t [a, b, c]) (x y z : Value) : (((w.setCell ⟨g, 0, none⟩ x).setCell ⟨g, 1, none⟩ y).setCell ⟨g, 2, none⟩ z).cell? ⟨g, 0, none⟩ = some x ∧ (((w.setCell ⟨g, 0, none⟩ x).setCell ⟨g, 1, none⟩ y).setCell ⟨g, 2, none⟩ z).cell? ⟨g, 1, none⟩ = some y ∧ (((w.setCell ⟨g, 0, none⟩ x).setCell ⟨g, 1, none⟩ y).setCell ⟨g, 2, none⟩ z).cell? ⟨g, 2, none⟩ = some z :=
  ⟨(((h.put 0 x).put 1 y).put 2 z).cell 0, (((h.put 0 x).put 1 y).put 2 z).cell 1, (((h.put 0 x).put 1 y).put 2 z).cell 2⟩
end
/-- A struct's three cells are written into a block of the call's own. -/
theorem below_three {w wa w' : World} {o : Obj} {x y z : Value} (ha : wa = w.alloc o) (hb : Below wa.heap.size wa w') : Below w.heap.size w (((w'.setCell ⟨w.heap.size, 0, none⟩ x).setCell ⟨w.heap.size, 1, none⟩ y).setCell ⟨w.heap.size, 2, none⟩ z) := by
  subst ha
  exact (((((Below.refl _ _).alloc (Nat.le_refl _) o).trans (hb.mono (by simp))).setCell (by simp) _).setCell (by simp) _).setCell (by simp) _
theorem row_three {w' : World} {g : Nat} {A : Option Addr} {cs : List Value} (h : Row w' A cs) (hg : ∀ b off, A = some ⟨b, off, none⟩ → 0 < cs.length → b ≠ g) (x y z : Value) : Row (((w'.setCell ⟨g, 0, none⟩ x).setCell ⟨g, 1, none⟩ y).setCell ⟨g, 2, none⟩ z) A cs := fun hp => by
  obtain ⟨b, off, e, hb, hc⟩ := h hp
  have hne := hg b off e hp
  refine ⟨b, off, e, by simpa using hb, fun j v hj => ?_⟩
  have := hc j v hj
  rw [← this]
  simp [World.cell?, World.setCell, Array.getElem?_modify, Ne.symm hne]

set_option maxHeartbeats 4000000 in
set_option maxRecDepth 100000 in
theorem urlParse_any (s : ByteArray) (w : World) (hs : s.size ≤ 140737488351232) (hH : Held w) :
    Calls Tryd.prog 9 #[.string s] w fun e w' => UrlEnd (numsOf s) w e w' := by
  have Hlen := Lib.hid (numsOf_length s)
  have HH := Lib.hid (hH.alloc (.cells #[.string ByteArray.empty, .string ByteArray.empty, .slice none 0 0] 24))
  have hcp := fun w => cutPrefix_any s w
  have hL := Lies.made w 24 [.string ByteArray.empty, .string ByteArray.empty, .slice none 0 0]
  clear hH
  go_enter Tryd.func9, Tryd.ntmps9
  go_wp2_with fail
  refine (hcp _).mono ?_
  rintro e w1 ⟨rfl, hcase⟩
  clear hcp
  rcases hcase with ⟨R, eR, h8, rfl⟩ | ⟨h8, x, rfl⟩
  · obtain ⟨k0, k1, k2, f0, f1, f2⟩ := keep3 hL (Below.refl _ _)
    by_cases hlong : 4096 < s.size
    · have hd : decide ((4096 : Int) < (s.size : Int)) = true := decide_eq_true (by omega)
      have HN := Lib.hid (Uq.parse_no (S := numsOf s) fun h => by have := h.1; rw [Hlen.out] at this; omega)
      clear h8 eR
      go_wp2
      exact bodyPost_ret (v := .tuple #[uval { data := #[] } { data := #[] } none 0 0, .bool false]) (by simp [results, Tryd.results9, go_sem]) rfl (UrlEnd.no HN.out ((Below.refl _ _).alloc (Nat.le_refl _) _))
    · have hd : decide ((4096 : Int) < (s.size : Int)) = false := decide_eq_false (by omega)
      have hsl4 : s.size ≤ 4096 := by omega
      have hR : numsOf R = (numsOf s).drop 8 := by rw [eR]; exact nums_from s 8
      have hRl : R.size ≤ s.size := by rw [eR, ByteArray.size_extract]; omega
      have hC := fun w => cutB_any 63 R w (by omega)
      unfold CutEndB at hC
      have c63 : (63 : UInt8).toNat = 63 := rfl
      rw [c63, hR] at hC
      have hTx : ∀ x ∈ Uq.textOf (numsOf s), x < 256 := drop_lt (drop_lt (numsOf_lt s) _) _
      have hT4 : (Uq.textOf (numsOf s)).length ≤ s.size := by unfold Uq.textOf Uq.behind; rw [List.length_drop, List.length_drop, Hlen.out]; omega
      have hPT := fun w => parseNew_any (strOf (Uq.textOf (numsOf s))) w (by rw [strOf_size]; omega)
      rw [numsOf_strOf hTx] at hPT
      have hFl : (Uq.front 63 ((numsOf s).drop 8)).length ≤ s.size := by have := Uq.front_le 63 ((numsOf s).drop 8); rw [List.length_drop, Hlen.out] at this; omega
      have hFx : ∀ x ∈ Uq.front 63 ((numsOf s).drop 8), x < 256 := fun x hx => drop_lt (numsOf_lt s) 8 x (Uq.front_mem hx)
      have hSl := fun w => slash_any (strOf (Uq.front 63 ((numsOf s).drop 8))) w
      rw [numsOf_strOf hFx, strOf_size] at hSl
      have hdT : strOf (Uq.behind 63 ((numsOf s).drop 8)) = strOf (Uq.textOf (numsOf s)) := rfl
      rw [hdT] at hC
      have hNo : Hid (¬ (Uq.hostOk (Uq.hostOf (numsOf s)) = true ∧ Uq.pathOk (Uq.pathOf (numsOf s)) = true) → Uq.parse (numsOf s) = none) := fun h => Uq.parse_no fun h' => h h'.2.2
      have hNone : Hid (Pq.parse (Uq.textOf (numsOf s)) = none → Uq.parse (numsOf s) = none) := Uq.parse_none
      have hYes : Hid (∀ q, Uq.hostOk (Uq.hostOf (numsOf s)) = true → Uq.pathOk (Uq.pathOf (numsOf s)) = true → Pq.parse (Uq.textOf (numsOf s)) = some q → Uq.parse (numsOf s) = some (Uq.hostOf (numsOf s), Uq.pathOf (numsOf s), q)) := fun q h1 h2 hq => Uq.parse_yes ⟨by rw [Hlen.out]; exact hsl4, h8, h1, h2⟩ hq
      have hFr := front_hit (b := 47) (l := Uq.front 63 ((numsOf s).drop 8))
      have hHo : Uq.front 47 (Uq.front 63 ((numsOf s).drop 8)) = Uq.hostOf (numsOf s) := rfl
      have hPo : (Uq.front 63 ((numsOf s).drop 8)).drop (Uq.hostOf (numsOf s)).length = Uq.pathOf (numsOf s) := rfl
      have hTk : (Uq.front 63 ((numsOf s).drop 8)).take (Uq.hostOf (numsOf s)).length = Uq.hostOf (numsOf s) := Uq.front_take _ _
      rw [hHo] at hSl hFr
      obtain ⟨F, eF⟩ : ∃ F, Uq.front 63 ((numsOf s).drop 8) = F := ⟨_, rfl⟩
      rw [eF] at hC hFl hFx hSl hFr hHo hPo hTk
      obtain ⟨d, ed⟩ : ∃ d, decide (F.length < ((numsOf s).drop 8).length) = d := ⟨_, rfl⟩
      rw [ed] at hC
      obtain ⟨T, eT⟩ : ∃ T, Uq.textOf (numsOf s) = T := ⟨_, rfl⟩
      rw [eT] at hC hPT hNone hYes
      obtain ⟨TB, eTB⟩ : ∃ TB, strOf T = TB := ⟨_, rfl⟩
      rw [eTB] at hC hPT
      obtain ⟨Ho, eHo⟩ : ∃ Ho, Uq.hostOf (numsOf s) = Ho := ⟨_, rfl⟩
      rw [eHo] at hSl hFr hHo hPo hTk hNo hYes
      obtain ⟨Pa, ePa⟩ : ∃ Pa, Uq.pathOf (numsOf s) = Pa := ⟨_, rfl⟩
      rw [ePa] at hPo hNo hYes
      obtain ⟨FB, eFB⟩ : ∃ FB, strOf F = FB := ⟨_, rfl⟩
      have hFB : numsOf FB = F := by rw [← eFB]; exact numsOf_strOf hFx
      have hFz : F.length = FB.size := by rw [← hFB]; exact numsOf_length FB
      rw [eFB] at hC hSl
      rw [hFz] at hSl hFr hFl
      obtain ⟨i, ei⟩ : ∃ i, Ho.length = i := ⟨_, rfl⟩
      rw [ei] at hSl hFr hPo hTk
      have Hi := Lib.hid ei
      have HFr := Lib.hid hFr
      have HPo := Lib.hid hPo
      have HTk := Lib.hid hTk
      have HFB := Lib.hid hFB
      have hFB4 : FB.size ≤ 4096 := by omega
      clear ei eF ed eT eTB eHo ePa eFB hFr hHo hPo hTk hFB hFz h8 hR eR hT4 hTx hFx c63 hdT hsl4 hlong
      go_wp2_with fail
      refine (hC _).mono ?_
      rintro e w1 ⟨rfl, hb1⟩
      clear hC
      go_wp2_with fail
      refine (hSl _).mono ?_
      rintro e w2 ⟨rfl, hcase⟩
      clear hSl hd hRl
      rcases hcase with ⟨hi, rfl⟩ | ⟨hi, rfl⟩
      · have hHn : numsOf (FB.extract 0 i) = Ho := by rw [nums_to, HFB.out, HTk.out]
        have hPn : numsOf (FB.extract i FB.size) = Pa := by rw [nums_from, HFB.out, HPo.out]
        have eH := Lib.hid (eq_strOf hHn)
        have eP := Lib.hid (eq_strOf hPn)
        have hRH := fun w h => rightHost_any (FB.extract 0 i) (by rw [ByteArray.size_extract]; omega) w h
        have hPS := fun w => pathSize_any (FB.extract i FB.size) (by rw [ByteArray.size_extract]; omega) w
        rw [hHn] at hRH
        unfold PathEnd at hPS
        have hPsz : (FB.extract i FB.size).size = FB.size - i := by rw [ByteArray.size_extract]; omega
        rw [hPn, hPsz] at hPS
        have hpk : Uq.pathOk Pa = Uq.pathRest Pa := by
          have hl : Pa.length = FB.size - i := by rw [← hPn, numsOf_length, hPsz]
          refine path_head (fun e => by rw [e] at hl; simp at hl; omega) ?_
          have := HFr.out hi
          rw [← HPo.out, List.getD_eq_getElem?_getD, List.getElem?_drop, ← List.getD_eq_getElem?_getD]
          exact this
        have HRH := Lib.hid hRH
        have HPS := Lib.hid hPS
        clear hRH hPS hHn hPn hPsz HPo HTk HFr
        unfold ParseEndN at hPT
        have c1 : (0 : Int) ≤ ↑i := by omega
        have c2 : (↑i : Int) ≤ ↑FB.size := by omega
        cases hq : Pq.parse T with
        | none =>
          have HN := Lib.hid (hNone.out hq)
          simp only [hq, Option.getD_none, Option.isSome_none] at hPT
          clear hq hpk HRH HPS
          go_wp2
          go_quiet (fail)
          go_wp2_with fail
          refine (hPT _).mono ?_
          rintro e w3 ⟨A, c, rfl, hrow, _, _, hb3, hfr⟩
          have hb13 := (below_drewN hb1 nq).trans (hb3.mono hb1.size)
          clear hPT hrow hb3 hfr
          obtain ⟨k0, k1, k2, f0, f1, f2⟩ := keep3 hL hb13
          obtain ⟨q0, q1, q2⟩ := three_put (hL.below hb13 hL.lt) (.string { data := #[] }) (.string { data := #[] }) (.slice none 0 0)
          go_wp2
          exact bodyPost_ret (v := .tuple #[uval { data := #[] } { data := #[] } none 0 0, .bool false]) (by simp [results, Tryd.results9, go_sem, q0, q1, q2]) rfl (UrlEnd.no HN.out (below_three rfl hb13))
        | some q =>
          simp only [hq, Option.getD_some, Option.isSome_some] at hPT
          have HQ := Lib.hid hq
          clear hq
          cases hh : Uq.hostOk Ho with
          | false =>
            have HN := Lib.hid (hNo.out fun h => by rw [hh] at h; cases h.1)
            rw [hh] at HRH
            clear hh hpk HPS
            go_wp2
            go_quiet (fail)
            go_wp2_with fail
            refine (hPT _).mono ?_
            rintro e w3 ⟨A, c, rfl, hrow, _, _, hb3, hfr⟩
            have hb13 := (below_drewN hb1 nq).trans (hb3.mono hb1.size)
            have hRH := HRH.out w3 (HH.out.below hb13)
            clear hPT hrow hb3 hfr
            go_wp2_with fail
            refine hRH.mono ?_
            rintro e w4 ⟨rfl, hb4⟩
            have hb14 := hb13.trans (hb4.mono hb13.size)
            clear hRH hb4
            obtain ⟨k0, k1, k2, f0, f1, f2⟩ := keep3 hL hb14
            obtain ⟨q0, q1, q2⟩ := three_put (hL.below hb14 hL.lt) (.string { data := #[] }) (.string { data := #[] }) (.slice none 0 0)
            go_wp2
            exact bodyPost_ret (v := .tuple #[uval { data := #[] } { data := #[] } none 0 0, .bool false]) (by simp [results, Tryd.results9, go_sem, q0, q1, q2]) rfl (UrlEnd.no HN.out (below_three rfl hb14))
          | true =>
            rw [hh] at HRH
            go_wp2
            go_quiet (fail)
            go_wp2_with fail
            refine (hPT _).mono ?_
            rintro e w3 ⟨A, c, rfl, hrow, _, _, hb3, hfr⟩
            have hb13 := (below_drewN hb1 nq).trans (hb3.mono hb1.size)
            have hRH := HRH.out w3 (HH.out.below hb13)
            have HFA : Hid (∀ b off, A = some ⟨b, off, none⟩ → 0 < (pcells q).length → b ≠ w.heap.size) := fun b off e _ => by
              have h1 := hfr b off e
              have h2 := hb1.size
              have h3 : w.heap.size < (w.alloc (.cells #[.string { data := #[] }, .string { data := #[] }, .slice none 0 0] 24)).heap.size := by simp
              have h4 : (w1.drewN nq).heap.size = w1.heap.size := rfl
              omega
            clear hPT hb3 hfr
            go_wp2_with fail
            refine hRH.mono ?_
            rintro e w4 ⟨rfl, hb4⟩
            have hb14 := hb13.trans (hb4.mono hb13.size)
            have hrow4 := hrow.below hb4 (Nat.le_refl _)
            have hPS := HPS.out w4
            clear hRH hb4 hrow
            go_wp2_with fail
            refine hPS.mono ?_
            rintro e w5 ⟨⟨k, rfl, hk, hkk⟩, hb5⟩
            have hb15 := hb14.trans (hb5.mono hb14.size)
            have hrow5 := hrow4.below hb5 (Nat.le_refl _)
            have HKK := Lib.hid hkk
            clear hPS hb5 hrow4 hkk
            have HPK := Lib.hid hpk
            clear hpk
            by_cases hkl : k < FB.size - i
            · have hdk : decide (k < FB.size - i) = true := decide_eq_true hkl
              have HN := Lib.hid (hNo.out fun h => by rw [HPK.out, HKK.out.1 hkl] at h; cases h.2)
              clear hrow5 hkl
              obtain ⟨k0, k1, k2, f0, f1, f2⟩ := keep3 hL hb15
              obtain ⟨q0, q1, q2⟩ := three_put (hL.below hb15 hL.lt) (.string { data := #[] }) (.string { data := #[] }) (.slice none 0 0)
              go_wp2
              exact bodyPost_ret (v := .tuple #[uval { data := #[] } { data := #[] } none 0 0, .bool false]) (by simp [results, Tryd.results9, go_sem, q0, q1, q2]) rfl (UrlEnd.no HN.out (below_three rfl hb15))
            · have hdk : decide (k < FB.size - i) = false := decide_eq_false hkl
              have hpt : Uq.pathOk Pa = true := by
                rw [HPK.out]
                cases hpr : Uq.pathRest Pa with
                | true => rfl
                | false => exact absurd (HKK.out.2 hpr) hkl
              have HY := Lib.hid (hYes.out q hh hpt HQ.out)
              obtain ⟨k0, k1, k2, f0, f1, f2⟩ := keep3 hL hb15
              obtain ⟨q0, q1, q2⟩ := three_put (hL.below hb15 hL.lt) (.string (FB.extract 0 i)) (.string (FB.extract i FB.size)) (.slice A q.length c)
              have hrow6 := row_three hrow5 HFA.out (.string (FB.extract 0 i)) (.string (FB.extract i FB.size)) (.slice A q.length c)
              clear hrow5 hkl hh hpt
              go_wp2
              exact bodyPost_ret (v := .tuple #[uval (FB.extract 0 i) (FB.extract i FB.size) A q.length c, .bool true]) (by simp [results, Tryd.results9, go_sem, q0, q1, q2]) rfl (UrlEnd.yes HY.out eH.out eP.out rfl hrow6 (below_three rfl hb15))
      · have HN : Hid (Uq.parse (numsOf s) = none) := hNo.out fun h => by
          have : Pa = [] := by rw [← HPo.out]; exact List.drop_eq_nil_of_le (by rw [← Hi.out, hi]; exact Nat.le_refl _)
          rw [this] at h
          exact absurd h.2 (by decide)
        clear hi hPT
        obtain ⟨k0, k1, k2, f0, f1, f2⟩ := keep3 hL hb1
        obtain ⟨q0, q1, q2⟩ := three_put (hL.below hb1 hL.lt) (.string { data := #[] }) (.string { data := #[] }) (.slice none 0 0)
        go_wp2
        exact bodyPost_ret (v := .tuple #[uval { data := #[] } { data := #[] } none 0 0, .bool false]) (by simp [results, Tryd.results9, go_sem, q0, q1, q2]) rfl (UrlEnd.no HN.out (below_three rfl hb1))
  · have HN := Lib.hid (Uq.parse_no (S := numsOf s) fun h => h8 h.2.1)
    obtain ⟨k0, k1, k2, f0, f1, f2⟩ := keep3 hL (Below.refl _ _)
    clear h8
    go_wp2
    exact bodyPost_ret (v := .tuple #[uval { data := #[] } { data := #[] } none 0 0, .bool false]) (by simp [results, Tryd.results9, go_sem]) rfl (UrlEnd.no HN.out ((Below.refl _ _).alloc (Nat.le_refl _) _))
end Go.Proofs.YtejmkijnngkoaaaDoor
