/-
  The contract of the document's Parse: the walk.
-/
import Derived.Test.YtejmkijnngkoaaaDoorURefParse
namespace Go.Proofs.YtejmkijnngkoaaaDoor
open Go.RowKit

theorem below_drew' {B : Nat} {w w' : World} (h : Below B w w') : Below B w w'.drew := ⟨h.os, h.tape, h.output, h.size, h.block⟩
theorem three_put_alloc {w : World} {g : Nat} {t : TypeId} {a b c : Value} (h : Lies w g t [a, b, c]) (x y z : Value) (o : Obj) : ((((w.setCell ⟨g, 0, none⟩ x).setCell ⟨g, 1, none⟩ y).setCell ⟨g, 2, none⟩ z).alloc o).cell? ⟨g, 0, none⟩ = some x ∧ ((((w.setCell ⟨g, 0, none⟩ x).setCell ⟨g, 1, none⟩ y).setCell ⟨g, 2, none⟩ z).alloc o).cell? ⟨g, 1, none⟩ = some y ∧ ((((w.setCell ⟨g, 0, none⟩ x).setCell ⟨g, 1, none⟩ y).setCell ⟨g, 2, none⟩ z).alloc o).cell? ⟨g, 2, none⟩ = some z :=
  ⟨((((h.put 0 x).put 1 y).put 2 z).alloc o).cell 0, ((((h.put 0 x).put 1 y).put 2 z).alloc o).cell 1, ((((h.put 0 x).put 1 y).put 2 z).alloc o).cell 2⟩
theorem row_put {w' : World} {A : Option Addr} {cs : List Value} {p : Addr} (h : Row w' A cs) (hg : ∀ b off, A = some ⟨b, off, none⟩ → 0 < cs.length → b ≠ p.block) (z : Value) : Row (w'.setCell p z) A cs := fun hp => by
  obtain ⟨b, off, e, hb, hc⟩ := h hp
  have hne := hg b off e hp
  refine ⟨b, off, e, by simpa using hb, fun j v hj => ?_⟩
  have := hc j v hj
  rw [← this]
  simp [World.cell?, World.setCell, Array.getElem?_modify, Ne.symm hne]

set_option maxHeartbeats 20000000 in
set_option maxRecDepth 100000 in
theorem refUrlParse_any (s : ByteArray) (w : World) (hs : s.size ≤ 140737488351232) :
    Calls Tryd.prog 10 #[.string s] w fun e w' => UrlEnd (numsOf s) w e w' := by
  by_cases hok : s.size ≤ 4096 ∧ (numsOf s).take 8 = Uq.scheme
  · obtain ⟨h4, h8⟩ := hok
    have Hlen := Lib.hid (numsOf_length s)
    have hL := Lies.made w 24 [.string ByteArray.empty, .string ByteArray.empty, .slice none 0 0]
    have hl8 : 8 ≤ s.size := by
      have := congrArg List.length h8
      rw [List.length_take, Hlen.out] at this
      have e : Uq.scheme.length = 8 := rfl
      omega
    have hd : decide ((4096 : Int) < (s.size : Int)) = false := decide_eq_false (by omega)
    have hd8 : decide ((s.size : Int) < 8) = false := decide_eq_false (by omega)
    have hs8 : ((s.extract 0 8).toList == schemeB.toList) = true := by
      have hp := prefix_beq s Uq.scheme scheme_lt
      rw [decide_eq_true (show (numsOf s).take Uq.scheme.length = Uq.scheme from h8), decide_eq_true (show (strOf Uq.scheme).size ≤ s.size from by rw [strOf_size]; show 8 ≤ s.size; omega), Bool.true_and] at hp
      exact hp
    rw [scheme_list] at hs8
    have HNo : Hid (¬ (Uq.hostOk (Uq.hostOf (numsOf s)) = true ∧ Uq.pathOk (Uq.pathOf (numsOf s)) = true) → Uq.parse (numsOf s) = none) := fun h => Uq.parse_no fun h' => h h'.2.2
    have HNone : Hid (Pq.parse (Uq.textOf (numsOf s)) = none → Uq.parse (numsOf s) = none) := Uq.parse_none
    have HYes : Hid (∀ q, Uq.hostOk (Uq.hostOf (numsOf s)) = true → Uq.pathOk (Uq.pathOf (numsOf s)) = true → Pq.parse (Uq.textOf (numsOf s)) = some q → Uq.parse (numsOf s) = some (Uq.hostOf (numsOf s), Uq.pathOf (numsOf s), q)) := fun q h1 h2 hq => Uq.parse_yes ⟨by rw [Hlen.out]; exact h4, h8, h1, h2⟩ hq
    clear h8
    have c1 : (8 : Int) ≤ ↑s.size := by omega
    go_enter Tryd.func10, Tryd.ntmps10
    go_wp2_with fail
    clear hd hd8 hs8 hs
    go_loop [4] (fun i => ∃ q : Nat, i = .int .i64 q ∧ 8 ≤ q ∧ q ≤ s.size ∧ ∀ j, j < q - 8 → ((numsOf s).drop 8).getD j 0 ≠ 63) (fun i => s.size - (intOf i).toNat)
    case atStart => exact ⟨8, rfl, Nat.le_refl _, hl8, fun j hj => by omega⟩
    case round =>
      obtain ⟨q, rfl, hq8, hqs, hno⟩ := hrel
      have Hno := Lib.hid hno
      clear hno
      by_cases hmore : ∃ h : q < s.size, s[q].toNat ≠ 63
      · obtain ⟨hlt, hne⟩ := hmore
        have hX := Lib.hid (nums_at s q hlt)
        have hd1 : ((s[q].toNat : Int) != 63) = true := by simp; omega
        have HN := Lib.hid (free_step (m := q + 1 - 8) Hno.out (by rw [drop_getD, show 8 + (q - 8) = q from by omega, hX.out]; exact hne) (by omega))
        clear hne
        go_wp2
        go_round
        case rel => exact ⟨q + 1, by go_num, by omega, by omega, HN.out⟩
        case measure => simp [intOf]; omega
      · have HQ : Hid (AtQ s q) := by
          by_cases hlt : q < s.size
          · refine AtQ.mark hq8 hlt Hno.out ?_
            by_cases h : s[q].toNat = 63
            · exact h
            · exact absurd ⟨hlt, h⟩ hmore
          · obtain rfl : q = s.size := by omega
            exact AtQ.out hq8 Hno.out
        have hend : (∃ h : q < s.size, ((s[q].toNat : Int) != 63) = false) ∨ q = s.size := by
          by_cases hlt : q < s.size
          · refine .inl ⟨hlt, ?_⟩
            by_cases h : s[q].toNat = 63
            · simp; omega
            · exact absurd ⟨hlt, h⟩ hmore
          · exact .inr (by omega)
        clear hmore Hno
        rcases hend with ⟨hlt, hd1⟩ | hqe0
        · have hdq : decide (q < s.size) = true := decide_eq_true hlt
          have hql := hqs
          go_wp2_with fail
          clear hd1
          go_loop [5] (fun i => ∃ k : Nat, i = .int .i64 k ∧ 8 ≤ k ∧ k ≤ q ∧ ∀ j, j < k - 8 → ((numsOf s).drop 8).getD j 0 ≠ 47) (fun i => q - (intOf i).toNat)
          case atStart => exact ⟨8, rfl, Nat.le_refl _, hq8, fun j hj => by omega⟩
          case round =>
            obtain ⟨k, rfl, hk8, hkq, hno⟩ := hrel
            have Hno := Lib.hid hno
            clear hno
            by_cases hmore : k < q ∧ ∃ h : k < s.size, s[k].toNat ≠ 47
            · obtain ⟨hltq, hltk, hne⟩ := hmore
              have hX := Lib.hid (nums_at s k hltk)
              have hd1 : ((s[k].toNat : Int) != 47) = true := by simp; omega
              have HN := Lib.hid (free_step (m := k + 1 - 8) Hno.out (by rw [drop_getD, show 8 + (k - 8) = k from by omega, hX.out]; exact hne) (by omega))
              clear hne
              go_wp2
              go_round
              case rel => exact ⟨k + 1, by go_num, by omega, by omega, HN.out⟩
              case measure => simp [intOf]; omega
            · have HK : Hid (AtK s q k) := by
                by_cases hltq : k < q
                · have hltk : k < s.size := by omega
                  refine AtK.mark HQ.out hk8 hltq hltk Hno.out ?_
                  by_cases h : s[k].toNat = 47
                  · exact h
                  · exact absurd ⟨hltq, hltk, h⟩ hmore
                · obtain rfl : k = q := by omega
                  exact AtK.out HQ.out Hno.out
              have hend : (∃ h : k < s.size, k < q ∧ ((s[k].toNat : Int) != 47) = false) ∨ k = q := by
                by_cases hltq : k < q
                · have hltk : k < s.size := by omega
                  refine .inl ⟨hltk, hltq, ?_⟩
                  by_cases h : s[k].toNat = 47
                  · simp; omega
                  · exact absurd ⟨hltq, hltk, h⟩ hmore
                · exact .inr (by omega)
              clear hmore Hno
              rcases hend with ⟨hltk, hltq, hd2⟩ | hke0
              · have hdl : decide (k < q) = true := decide_eq_true hltq
                have hRH := fun w => refHost_any (s.extract 8 k) (by rw [ByteArray.size_extract]; omega) w
                have hRP := fun w => refPath_any (s.extract k q) (by rw [ByteArray.size_extract]; omega) w
                rw [HK.out.host] at hRH
                rw [HK.out.path] at hRP
                have eH := Lib.hid (eq_strOf HK.out.host)
                have eP := Lib.hid (eq_strOf HK.out.path)
                have b1 : (8 : Int) ≤ ↑k := by omega
                have b2 : (↑k : Int) ≤ ↑s.size := by omega
                have b3 : (0 : Int) ≤ ↑k := by omega
                have b4 : (↑k : Int) ≤ ↑q := by omega
                have b5 : (↑q : Int) ≤ ↑s.size := by omega
                cases hh : Uq.hostOk (Uq.hostOf (numsOf s)) with
                | false =>
                  have HN := Lib.hid (HNo.out fun h => by rw [hh] at h; cases h.1)
                  rw [hh] at hRH
                  clear hh hRP
                  go_wp2_with fail
                  refine (hRH _).mono ?_
                  rintro e w1 ⟨rfl, hb1⟩
                  clear hRH
                  obtain ⟨k0, k1, k2, f0, f1, f2⟩ := keep3 hL hb1
                  obtain ⟨q0, q1, q2⟩ := three_put (hL.below hb1 hL.lt) (.string { data := #[] }) (.string { data := #[] }) (.slice none 0 0)
                  go_wp2
                  exact bodyPost_ret (v := .tuple #[uval { data := #[] } { data := #[] } none 0 0, .bool false]) (by simp [results, Tryd.results10, go_sem, q0, q1, q2]) rfl (UrlEnd.no HN.out (below_three rfl hb1))
                | true =>
                  rw [hh] at hRH
                  cases hp : Uq.pathOk (Uq.pathOf (numsOf s)) with
                  | false =>
                    have HN := Lib.hid (HNo.out fun h => by rw [hp] at h; cases h.2)
                    rw [hp] at hRP
                    clear hh hp
                    go_wp2_with fail
                    refine (hRH _).mono ?_
                    rintro e w1 ⟨rfl, hb1⟩
                    clear hRH
                    go_wp2_with fail
                    refine (hRP _).mono ?_
                    rintro e w2 ⟨rfl, rfl⟩
                    clear hRP
                    obtain ⟨k0, k1, k2, f0, f1, f2⟩ := keep3 hL hb1
                    obtain ⟨q0, q1, q2⟩ := three_put (hL.below hb1 hL.lt) (.string { data := #[] }) (.string { data := #[] }) (.slice none 0 0)
                    go_wp2
                    exact bodyPost_ret (v := .tuple #[uval { data := #[] } { data := #[] } none 0 0, .bool false]) (by simp [results, Tryd.results10, go_sem, q0, q1, q2]) rfl (UrlEnd.no HN.out (below_three rfl hb1))
                  | true =>
                    rw [hp] at hRP
                    have HY := Lib.hid (fun q h => HYes.out q hh hp h)
                    clear hh hp
                    go_wp2_with fail
                    refine (hRH _).mono ?_
                    rintro e w1 ⟨rfl, hb1⟩
                    clear hRH
                    go_wp2_with fail
                    refine (hRP _).mono ?_
                    rintro e w2 ⟨rfl, rfl⟩
                    clear hRP
                    have hPT := fun w => refParseNew_any (s.extract (q + 1) s.size) w (by rw [ByteArray.size_extract]; omega)
                    rw [nums_from, ← HQ.out.more hlt] at hPT
                    have hg1 := hb1.size
                    have hg2 : w.heap.size < (w.alloc (.cells #[.string { data := #[] }, .string { data := #[] }, .slice none 0 0] 24)).heap.size := by simp
                    have hg3 : w.heap.size < w1.heap.size := by omega
                    have hne1 : ¬ w1.heap.size = w.heap.size := by omega
                    have hne2 : ¬ w.heap.size = w1.heap.size := by omega
                    have hL6 := (Lies.made w1 24 [.string (s.extract 8 k), .string (s.extract k q), .slice none 0 0]).drew
                    have hb6 := below_drew' (hb1.alloc hb1.size (.cells #[.string (s.extract 8 k), .string (s.extract k q), .slice none 0 0] 24))
                    have hz6 : (w1.alloc (.cells #[.string (s.extract 8 k), .string (s.extract k q), .slice none 0 0] 24)).drew.heap.size = w1.heap.size + 1 := by
                      have : (w1.alloc (.cells #[.string (s.extract 8 k), .string (s.extract k q), .slice none 0 0] 24)).heap.size = w1.heap.size + 1 := by simp
                      exact this
                    have HL6 := Lib.hid hL6
                    have HB6 := Lib.hid hb6
                    have HZ6 := Lib.hid hz6
                    have HG := Lib.hid (And.intro hne1 hne2)
                    clear hg1 hg2 hL6 hb6 hz6 hne1 hne2
                    cases hq : Pq.parse (Uq.textOf (numsOf s)) with
                    | none =>
                      have HN := Lib.hid (HNone.out hq)
                      simp only [hq, Option.getD_none, Option.isSome_none] at hPT
                      clear hq
                      go_wp2
                      go_region
                      all_goals
                        go_wp2_with fail
                        refine (hPT _).mono ?_
                        rintro e w3 ⟨A, c, rfl, hrow, hb3, hfr⟩
                        have hb7 := HB6.out.trans (hb3.mono HB6.out.size)
                        clear hPT hrow hb3 hfr
                        obtain ⟨k0, k1, k2, f0, f1, f2⟩ := keep3 hL hb7
                        obtain ⟨q0, q1, q2⟩ := three_put (hL.below hb7 hL.lt) (.string { data := #[] }) (.string { data := #[] }) (.slice none 0 0)
                        go_wp2
                        exact bodyPost_ret (v := .tuple #[uval { data := #[] } { data := #[] } none 0 0, .bool false]) (by simp [results, Tryd.results10, go_sem, q0, q1, q2]) rfl (UrlEnd.no HN.out (below_three rfl hb7))
                    | some Y =>
                      have HYY := Lib.hid (HY.out Y hq)
                      simp only [hq, Option.getD_some, Option.isSome_some] at hPT
                      clear hq
                      go_wp2
                      go_region
                      all_goals
                        go_wp2_with fail
                        refine (hPT _).mono ?_
                        rintro e w3 ⟨A, c, rfl, hrow, hb3, hfr⟩
                        have hb7 := HB6.out.trans (hb3.mono HB6.out.size)
                        have hL7 := HL6.out.below hb3 HL6.out.lt
                        have hres := hL.below hb7 hL.lt
                        obtain ⟨j0, j1, j2, _, _, g2⟩ := keep3 hL7 (Below.refl _ _)
                        obtain ⟨k0, k1, k2, f0, f1, f2⟩ := keep3 hL hb7
                        obtain ⟨hne1, hne2⟩ := HG.out
                        obtain ⟨q0, q1, q2⟩ := three_put (hres.far (p := ⟨w1.heap.size, 2, none⟩) hne2 (.slice A Y.length c)) (.string (s.extract 8 k)) (.string (s.extract k q)) (.slice A Y.length c)
                        have hb8 := hb7.setCell (p := ⟨w1.heap.size, 2, none⟩) hb1.size (.slice A Y.length c)
                        have hfa : ∀ b off, A = some ⟨b, off, none⟩ → 0 < (pcells Y).length → b ≠ w1.heap.size ∧ b ≠ w.heap.size := fun b off e _ => by
                          have h1 := hfr b off e
                          rw [HZ6.out] at h1
                          omega
                        have hrow8 := row_three (row_put hrow (p := ⟨w1.heap.size, 2, none⟩) (fun b off e h => (hfa b off e h).1) (.slice A Y.length c)) (fun b off e h => (hfa b off e h).2) (.string (s.extract 8 k)) (.string (s.extract k q)) (.slice A Y.length c)
                        have HR := Lib.hid hrow8
                        have HB8 := Lib.hid hb8
                        clear hPT hrow hb3 hfr hfa hrow8 hb8 hL7 hres hb7
                        go_wp2
                        exact bodyPost_ret (v := .tuple #[uval (s.extract 8 k) (s.extract k q) A Y.length c, .bool true]) (by simp [results, Tryd.results10, go_sem, q0, q1, q2]) rfl (UrlEnd.yes HYY.out eH.out eP.out rfl HR.out (below_three rfl HB8.out))
              · have hdl : decide (k < q) = false := decide_eq_false (by omega)
                have hke := Lib.hid hke0
                clear hke0
                have hRH := fun w => refHost_any (s.extract 8 k) (by rw [ByteArray.size_extract]; omega) w
                have hRP := fun w => refPath_any (s.extract k q) (by rw [ByteArray.size_extract]; omega) w
                rw [HK.out.host] at hRH
                rw [HK.out.path] at hRP
                have eH := Lib.hid (eq_strOf HK.out.host)
                have eP := Lib.hid (eq_strOf HK.out.path)
                have b1 : (8 : Int) ≤ ↑k := by omega
                have b2 : (↑k : Int) ≤ ↑s.size := by omega
                have b3 : (0 : Int) ≤ ↑k := by omega
                have b4 : (↑k : Int) ≤ ↑q := by omega
                have b5 : (↑q : Int) ≤ ↑s.size := by omega
                cases hh : Uq.hostOk (Uq.hostOf (numsOf s)) with
                | false =>
                  have HN := Lib.hid (HNo.out fun h => by rw [hh] at h; cases h.1)
                  rw [hh] at hRH
                  clear hh hRP
                  go_wp2_with fail
                  refine (hRH _).mono ?_
                  rintro e w1 ⟨rfl, hb1⟩
                  clear hRH
                  obtain ⟨k0, k1, k2, f0, f1, f2⟩ := keep3 hL hb1
                  obtain ⟨q0, q1, q2⟩ := three_put (hL.below hb1 hL.lt) (.string { data := #[] }) (.string { data := #[] }) (.slice none 0 0)
                  go_wp2
                  exact bodyPost_ret (v := .tuple #[uval { data := #[] } { data := #[] } none 0 0, .bool false]) (by simp [results, Tryd.results10, go_sem, q0, q1, q2]) rfl (UrlEnd.no HN.out (below_three rfl hb1))
                | true =>
                  rw [hh] at hRH
                  cases hp : Uq.pathOk (Uq.pathOf (numsOf s)) with
                  | false =>
                    have HN := Lib.hid (HNo.out fun h => by rw [hp] at h; cases h.2)
                    rw [hp] at hRP
                    clear hh hp
                    go_wp2_with fail
                    refine (hRH _).mono ?_
                    rintro e w1 ⟨rfl, hb1⟩
                    clear hRH
                    go_wp2_with fail
                    refine (hRP _).mono ?_
                    rintro e w2 ⟨rfl, rfl⟩
                    clear hRP
                    obtain ⟨k0, k1, k2, f0, f1, f2⟩ := keep3 hL hb1
                    obtain ⟨q0, q1, q2⟩ := three_put (hL.below hb1 hL.lt) (.string { data := #[] }) (.string { data := #[] }) (.slice none 0 0)
                    go_wp2
                    exact bodyPost_ret (v := .tuple #[uval { data := #[] } { data := #[] } none 0 0, .bool false]) (by simp [results, Tryd.results10, go_sem, q0, q1, q2]) rfl (UrlEnd.no HN.out (below_three rfl hb1))
                  | true =>
                    rw [hp] at hRP
                    have HY := Lib.hid (fun q h => HYes.out q hh hp h)
                    clear hh hp
                    go_wp2_with fail
                    refine (hRH _).mono ?_
                    rintro e w1 ⟨rfl, hb1⟩
                    clear hRH
                    go_wp2_with fail
                    refine (hRP _).mono ?_
                    rintro e w2 ⟨rfl, rfl⟩
                    clear hRP
                    have hPT := fun w => refParseNew_any (s.extract (q + 1) s.size) w (by rw [ByteArray.size_extract]; omega)
                    rw [nums_from, ← HQ.out.more hlt] at hPT
                    have hg1 := hb1.size
                    have hg2 : w.heap.size < (w.alloc (.cells #[.string { data := #[] }, .string { data := #[] }, .slice none 0 0] 24)).heap.size := by simp
                    have hg3 : w.heap.size < w1.heap.size := by omega
                    have hne1 : ¬ w1.heap.size = w.heap.size := by omega
                    have hne2 : ¬ w.heap.size = w1.heap.size := by omega
                    have hL6 := (Lies.made w1 24 [.string (s.extract 8 k), .string (s.extract k q), .slice none 0 0]).drew
                    have hb6 := below_drew' (hb1.alloc hb1.size (.cells #[.string (s.extract 8 k), .string (s.extract k q), .slice none 0 0] 24))
                    have hz6 : (w1.alloc (.cells #[.string (s.extract 8 k), .string (s.extract k q), .slice none 0 0] 24)).drew.heap.size = w1.heap.size + 1 := by
                      have : (w1.alloc (.cells #[.string (s.extract 8 k), .string (s.extract k q), .slice none 0 0] 24)).heap.size = w1.heap.size + 1 := by simp
                      exact this
                    have HL6 := Lib.hid hL6
                    have HB6 := Lib.hid hb6
                    have HZ6 := Lib.hid hz6
                    have HG := Lib.hid (And.intro hne1 hne2)
                    clear hg1 hg2 hL6 hb6 hz6 hne1 hne2
                    cases hq : Pq.parse (Uq.textOf (numsOf s)) with
                    | none =>
                      have HN := Lib.hid (HNone.out hq)
                      simp only [hq, Option.getD_none, Option.isSome_none] at hPT
                      clear hq
                      go_wp2
                      go_region
                      all_goals
                        go_wp2_with fail
                        refine (hPT _).mono ?_
                        rintro e w3 ⟨A, c, rfl, hrow, hb3, hfr⟩
                        have hb7 := HB6.out.trans (hb3.mono HB6.out.size)
                        clear hPT hrow hb3 hfr
                        obtain ⟨k0, k1, k2, f0, f1, f2⟩ := keep3 hL hb7
                        obtain ⟨q0, q1, q2⟩ := three_put (hL.below hb7 hL.lt) (.string { data := #[] }) (.string { data := #[] }) (.slice none 0 0)
                        go_wp2
                        exact bodyPost_ret (v := .tuple #[uval { data := #[] } { data := #[] } none 0 0, .bool false]) (by simp [results, Tryd.results10, go_sem, q0, q1, q2]) rfl (UrlEnd.no HN.out (below_three rfl hb7))
                    | some Y =>
                      have HYY := Lib.hid (HY.out Y hq)
                      simp only [hq, Option.getD_some, Option.isSome_some] at hPT
                      clear hq
                      go_wp2
                      go_region
                      all_goals
                        go_wp2_with fail
                        refine (hPT _).mono ?_
                        rintro e w3 ⟨A, c, rfl, hrow, hb3, hfr⟩
                        have hb7 := HB6.out.trans (hb3.mono HB6.out.size)
                        have hL7 := HL6.out.below hb3 HL6.out.lt
                        have hres := hL.below hb7 hL.lt
                        obtain ⟨j0, j1, j2, _, _, g2⟩ := keep3 hL7 (Below.refl _ _)
                        obtain ⟨k0, k1, k2, f0, f1, f2⟩ := keep3 hL hb7
                        obtain ⟨hne1, hne2⟩ := HG.out
                        obtain ⟨q0, q1, q2⟩ := three_put (hres.far (p := ⟨w1.heap.size, 2, none⟩) hne2 (.slice A Y.length c)) (.string (s.extract 8 k)) (.string (s.extract k q)) (.slice A Y.length c)
                        have hb8 := hb7.setCell (p := ⟨w1.heap.size, 2, none⟩) hb1.size (.slice A Y.length c)
                        have hfa : ∀ b off, A = some ⟨b, off, none⟩ → 0 < (pcells Y).length → b ≠ w1.heap.size ∧ b ≠ w.heap.size := fun b off e _ => by
                          have h1 := hfr b off e
                          rw [HZ6.out] at h1
                          omega
                        have hrow8 := row_three (row_put hrow (p := ⟨w1.heap.size, 2, none⟩) (fun b off e h => (hfa b off e h).1) (.slice A Y.length c)) (fun b off e h => (hfa b off e h).2) (.string (s.extract 8 k)) (.string (s.extract k q)) (.slice A Y.length c)
                        have HR := Lib.hid hrow8
                        have HB8 := Lib.hid hb8
                        clear hPT hrow hb3 hfr hfa hrow8 hb8 hL7 hres hb7
                        go_wp2
                        exact bodyPost_ret (v := .tuple #[uval (s.extract 8 k) (s.extract k q) A Y.length c, .bool true]) (by simp [results, Tryd.results10, go_sem, q0, q1, q2]) rfl (UrlEnd.yes HYY.out eH.out eP.out rfl HR.out (below_three rfl HB8.out))

        · have hdq : decide (q < s.size) = false := decide_eq_false (by omega)
          have HQE := Lib.hid hqe0
          clear hqe0
          have hql := hqs
          go_wp2_with fail
          skip
          go_loop [5] (fun i => ∃ k : Nat, i = .int .i64 k ∧ 8 ≤ k ∧ k ≤ q ∧ ∀ j, j < k - 8 → ((numsOf s).drop 8).getD j 0 ≠ 47) (fun i => q - (intOf i).toNat)
          case atStart => exact ⟨8, rfl, Nat.le_refl _, hq8, fun j hj => by omega⟩
          case round =>
            obtain ⟨k, rfl, hk8, hkq, hno⟩ := hrel
            have Hno := Lib.hid hno
            clear hno
            by_cases hmore : k < q ∧ ∃ h : k < s.size, s[k].toNat ≠ 47
            · obtain ⟨hltq, hltk, hne⟩ := hmore
              have hX := Lib.hid (nums_at s k hltk)
              have hd1 : ((s[k].toNat : Int) != 47) = true := by simp; omega
              have HN := Lib.hid (free_step (m := k + 1 - 8) Hno.out (by rw [drop_getD, show 8 + (k - 8) = k from by omega, hX.out]; exact hne) (by omega))
              clear hne
              go_wp2
              go_round
              case rel => exact ⟨k + 1, by go_num, by omega, by omega, HN.out⟩
              case measure => simp [intOf]; omega
            · have HK : Hid (AtK s q k) := by
                by_cases hltq : k < q
                · have hltk : k < s.size := by omega
                  refine AtK.mark HQ.out hk8 hltq hltk Hno.out ?_
                  by_cases h : s[k].toNat = 47
                  · exact h
                  · exact absurd ⟨hltq, hltk, h⟩ hmore
                · obtain rfl : k = q := by omega
                  exact AtK.out HQ.out Hno.out
              have hend : (∃ h : k < s.size, k < q ∧ ((s[k].toNat : Int) != 47) = false) ∨ k = q := by
                by_cases hltq : k < q
                · have hltk : k < s.size := by omega
                  refine .inl ⟨hltk, hltq, ?_⟩
                  by_cases h : s[k].toNat = 47
                  · simp; omega
                  · exact absurd ⟨hltq, hltk, h⟩ hmore
                · exact .inr (by omega)
              clear hmore Hno
              rcases hend with ⟨hltk, hltq, hd2⟩ | hke0
              · have hdl : decide (k < q) = true := decide_eq_true hltq
                have hRH := fun w => refHost_any (s.extract 8 k) (by rw [ByteArray.size_extract]; omega) w
                have hRP := fun w => refPath_any (s.extract k q) (by rw [ByteArray.size_extract]; omega) w
                rw [HK.out.host] at hRH
                rw [HK.out.path] at hRP
                have eH := Lib.hid (eq_strOf HK.out.host)
                have eP := Lib.hid (eq_strOf HK.out.path)
                have b1 : (8 : Int) ≤ ↑k := by omega
                have b2 : (↑k : Int) ≤ ↑s.size := by omega
                have b3 : (0 : Int) ≤ ↑k := by omega
                have b4 : (↑k : Int) ≤ ↑q := by omega
                have b5 : (↑q : Int) ≤ ↑s.size := by omega
                cases hh : Uq.hostOk (Uq.hostOf (numsOf s)) with
                | false =>
                  have HN := Lib.hid (HNo.out fun h => by rw [hh] at h; cases h.1)
                  rw [hh] at hRH
                  clear hh hRP
                  go_wp2_with fail
                  refine (hRH _).mono ?_
                  rintro e w1 ⟨rfl, hb1⟩
                  clear hRH
                  obtain ⟨k0, k1, k2, f0, f1, f2⟩ := keep3 hL hb1
                  obtain ⟨q0, q1, q2⟩ := three_put (hL.below hb1 hL.lt) (.string { data := #[] }) (.string { data := #[] }) (.slice none 0 0)
                  go_wp2
                  exact bodyPost_ret (v := .tuple #[uval { data := #[] } { data := #[] } none 0 0, .bool false]) (by simp [results, Tryd.results10, go_sem, q0, q1, q2]) rfl (UrlEnd.no HN.out (below_three rfl hb1))
                | true =>
                  rw [hh] at hRH
                  cases hp : Uq.pathOk (Uq.pathOf (numsOf s)) with
                  | false =>
                    have HN := Lib.hid (HNo.out fun h => by rw [hp] at h; cases h.2)
                    rw [hp] at hRP
                    clear hh hp
                    go_wp2_with fail
                    refine (hRH _).mono ?_
                    rintro e w1 ⟨rfl, hb1⟩
                    clear hRH
                    go_wp2_with fail
                    refine (hRP _).mono ?_
                    rintro e w2 ⟨rfl, rfl⟩
                    clear hRP
                    obtain ⟨k0, k1, k2, f0, f1, f2⟩ := keep3 hL hb1
                    obtain ⟨q0, q1, q2⟩ := three_put (hL.below hb1 hL.lt) (.string { data := #[] }) (.string { data := #[] }) (.slice none 0 0)
                    go_wp2
                    exact bodyPost_ret (v := .tuple #[uval { data := #[] } { data := #[] } none 0 0, .bool false]) (by simp [results, Tryd.results10, go_sem, q0, q1, q2]) rfl (UrlEnd.no HN.out (below_three rfl hb1))
                  | true =>
                    rw [hp] at hRP
                    have HY := Lib.hid (fun q h => HYes.out q hh hp h)
                    clear hh hp
                    go_wp2_with fail
                    refine (hRH _).mono ?_
                    rintro e w1 ⟨rfl, hb1⟩
                    clear hRH
                    go_wp2_with fail
                    refine (hRP _).mono ?_
                    rintro e w2 ⟨rfl, rfl⟩
                    clear hRP
                    have hq0 : Pq.parse (Uq.textOf (numsOf s)) = some [] := by rw [HQ.out.none HQE.out]; rfl
                    have HYY := Lib.hid (HY.out [] hq0)
                    have hg1 := hb1.size
                    have hg2 : w.heap.size < (w.alloc (.cells #[.string { data := #[] }, .string { data := #[] }, .slice none 0 0] 24)).heap.size := by simp
                    have hg3 : w.heap.size < w1.heap.size := by omega
                    have HB6 := Lib.hid (below_three (x := .string (s.extract 8 k)) (y := .string (s.extract k q)) (z := .slice none 0 0) rfl hb1)
                    obtain ⟨k0, k1, k2, f0, f1, f2⟩ := keep3 hL hb1
                    obtain ⟨q0, q1, q2⟩ := three_put_alloc (hL.below hb1 hL.lt) (.string (s.extract 8 k)) (.string (s.extract k q)) (.slice none 0 0) (.cells #[.string (s.extract 8 k), .string (s.extract k q), .slice none 0 0] 24)
                    clear hg1 hg2 hq0
                    go_wp2
                    go_region
                    all_goals
                      go_wp2
                      exact bodyPost_ret (v := .tuple #[uval (s.extract 8 k) (s.extract k q) none 0 0, .bool true]) (by simp [results, Tryd.results10, go_sem, q0, q1, q2]) rfl (UrlEnd.yes HYY.out eH.out eP.out rfl (Row.nil _ _) (below_drew' (HB6.out.alloc HB6.out.size _)))
              · have hdl : decide (k < q) = false := decide_eq_false (by omega)
                have hke := Lib.hid hke0
                clear hke0
                have hRH := fun w => refHost_any (s.extract 8 k) (by rw [ByteArray.size_extract]; omega) w
                have hRP := fun w => refPath_any (s.extract k q) (by rw [ByteArray.size_extract]; omega) w
                rw [HK.out.host] at hRH
                rw [HK.out.path] at hRP
                have eH := Lib.hid (eq_strOf HK.out.host)
                have eP := Lib.hid (eq_strOf HK.out.path)
                have b1 : (8 : Int) ≤ ↑k := by omega
                have b2 : (↑k : Int) ≤ ↑s.size := by omega
                have b3 : (0 : Int) ≤ ↑k := by omega
                have b4 : (↑k : Int) ≤ ↑q := by omega
                have b5 : (↑q : Int) ≤ ↑s.size := by omega
                cases hh : Uq.hostOk (Uq.hostOf (numsOf s)) with
                | false =>
                  have HN := Lib.hid (HNo.out fun h => by rw [hh] at h; cases h.1)
                  rw [hh] at hRH
                  clear hh hRP
                  go_wp2_with fail
                  refine (hRH _).mono ?_
                  rintro e w1 ⟨rfl, hb1⟩
                  clear hRH
                  obtain ⟨k0, k1, k2, f0, f1, f2⟩ := keep3 hL hb1
                  obtain ⟨q0, q1, q2⟩ := three_put (hL.below hb1 hL.lt) (.string { data := #[] }) (.string { data := #[] }) (.slice none 0 0)
                  go_wp2
                  exact bodyPost_ret (v := .tuple #[uval { data := #[] } { data := #[] } none 0 0, .bool false]) (by simp [results, Tryd.results10, go_sem, q0, q1, q2]) rfl (UrlEnd.no HN.out (below_three rfl hb1))
                | true =>
                  rw [hh] at hRH
                  cases hp : Uq.pathOk (Uq.pathOf (numsOf s)) with
                  | false =>
                    have HN := Lib.hid (HNo.out fun h => by rw [hp] at h; cases h.2)
                    rw [hp] at hRP
                    clear hh hp
                    go_wp2_with fail
                    refine (hRH _).mono ?_
                    rintro e w1 ⟨rfl, hb1⟩
                    clear hRH
                    go_wp2_with fail
                    refine (hRP _).mono ?_
                    rintro e w2 ⟨rfl, rfl⟩
                    clear hRP
                    obtain ⟨k0, k1, k2, f0, f1, f2⟩ := keep3 hL hb1
                    obtain ⟨q0, q1, q2⟩ := three_put (hL.below hb1 hL.lt) (.string { data := #[] }) (.string { data := #[] }) (.slice none 0 0)
                    go_wp2
                    exact bodyPost_ret (v := .tuple #[uval { data := #[] } { data := #[] } none 0 0, .bool false]) (by simp [results, Tryd.results10, go_sem, q0, q1, q2]) rfl (UrlEnd.no HN.out (below_three rfl hb1))
                  | true =>
                    rw [hp] at hRP
                    have HY := Lib.hid (fun q h => HYes.out q hh hp h)
                    clear hh hp
                    go_wp2_with fail
                    refine (hRH _).mono ?_
                    rintro e w1 ⟨rfl, hb1⟩
                    clear hRH
                    go_wp2_with fail
                    refine (hRP _).mono ?_
                    rintro e w2 ⟨rfl, rfl⟩
                    clear hRP
                    have hq0 : Pq.parse (Uq.textOf (numsOf s)) = some [] := by rw [HQ.out.none HQE.out]; rfl
                    have HYY := Lib.hid (HY.out [] hq0)
                    have hg1 := hb1.size
                    have hg2 : w.heap.size < (w.alloc (.cells #[.string { data := #[] }, .string { data := #[] }, .slice none 0 0] 24)).heap.size := by simp
                    have hg3 : w.heap.size < w1.heap.size := by omega
                    have HB6 := Lib.hid (below_three (x := .string (s.extract 8 k)) (y := .string (s.extract k q)) (z := .slice none 0 0) rfl hb1)
                    obtain ⟨k0, k1, k2, f0, f1, f2⟩ := keep3 hL hb1
                    obtain ⟨q0, q1, q2⟩ := three_put_alloc (hL.below hb1 hL.lt) (.string (s.extract 8 k)) (.string (s.extract k q)) (.slice none 0 0) (.cells #[.string (s.extract 8 k), .string (s.extract k q), .slice none 0 0] 24)
                    clear hg1 hg2 hq0
                    go_wp2
                    go_region
                    all_goals
                      go_wp2
                      exact bodyPost_ret (v := .tuple #[uval (s.extract 8 k) (s.extract k q) none 0 0, .bool true]) (by simp [results, Tryd.results10, go_sem, q0, q1, q2]) rfl (UrlEnd.yes HYY.out eH.out eP.out rfl (Row.nil _ _) (below_drew' (HB6.out.alloc HB6.out.size _)))

  · exact refUrlParse_short s w hok
end Go.Proofs.YtejmkijnngkoaaaDoor
