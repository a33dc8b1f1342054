/-
  The law RulesJoins: its walk.
-/
import Derived.Test.YthhlmalpelgpeaaGreatDoorZZJo
import Derived.Deep.DeepCutAuto
import Derived.Lib.Bytealg
namespace Go.Proofs.YthhlmalpelgpeaaGreatDoor
open Go.RowKit

theorem conv11_at {ops : Array Oper} {rest : List Oper} {o : Oper} {a : Act} {Q : Exit → Act → World → Prop} {w : World} (hgd : o.guard = none) (x : Operand) (ho : o.op = .convert 9 31 x) (X : ByteArray) (hx : a.eval x = .string X)
    (hK : ∀ w' c, (∀ j, j < X.size → w'.cell? ⟨w.heap.size, j, none⟩ = some (.int .u8 ((numsOf X).getD j 0 : Nat))) → Below w.heap.size w w' → wpList Tryz.prog ops Q rest (a.put o.dst (.slice (some ⟨w.heap.size, 0, none⟩) X.size c)) w') : wpList Tryz.prog ops Q (o :: rest) a w := by
  refine wpList_plain hgd fun K hK' => ?_
  have hr := Lib.run_convert_string_bytes (P := Tryz.prog) w 9 31 5 X Tryz.underlying9 Tryz.underlying31 Tryz.underlying5
  unfold Oper.wp
  rw [execOp, ho]
  simp [hx, hr, Result.andThen]
  refine hK' _ _ (hK _ _ (fun j hj => ?_) (Lib.bytesWorld_below _ _ _))
  rw [Lib.bytesWorld_cell w _ X j hj, nums_at X j hj]
  have h' : j < X.data.toList.length := by simpa using hj
  rw [List.getD_eq_getElem?_getD, List.getElem?_eq_getElem h']
  rfl
/-- Is there nothing to be said of these two? -/
def joinOut (ea eb : Int) (la : Nat) (n m : Nat) : Bool := ea != 0 || (eb != 0 || (decide (la = 59) || decide (16 < n + m)))
set_option maxHeartbeats 4000000 in
set_option maxRecDepth 100000 in
theorem lawJoins11_any (s t : ByteArray) (w : World) (hH : HeldZ w) :
    Calls Tryz.prog 7 #[.string s, .string t] w (True11 w) := by
  have HH := Lib.hid hH
  by_cases hbig : 2000 < s.size ∨ 2000 < t.size
  · have hdd : decide ((2000 : Int) < (s.size : Int)) = true ∨ (decide ((2000 : Int) < (s.size : Int)) = false ∧ decide ((2000 : Int) < (t.size : Int)) = true) := by
      by_cases h : 2000 < s.size
      · exact .inl (decide_eq_true (by omega))
      · exact .inr ⟨decide_eq_false (by omega), decide_eq_true (by omega)⟩
    have hA := alive11_any w hH
    clear hbig hH
    rcases hdd with d1 | ⟨d1, d2⟩
    all_goals
      go_enter Tryz.func7, Tryz.ntmps7
      go_wp2_with fail
      refine hA.mono ?_
      rintro e w1 ⟨rfl, hb1⟩
      have HE : Hid (True11 w (.returned (.bool true)) w1) := ⟨rfl, hb1⟩
      clear hA hb1
      go_wp2
      go_ret
      exact HE.out
  have d1 : decide ((2000 : Int) < (s.size : Int)) = false := decide_eq_false (by omega)
  have d2 : decide ((2000 : Int) < (t.size : Int)) = false := decide_eq_false (by omega)
  have hs2 : s.size ≤ 2000 := by omega
  have ht2 : t.size ≤ 2000 := by omega
  have HS2 : Hid ((numsOf s).length ≤ 2000 ∧ (numsOf t).length ≤ 2000) := by unfold Hid; rw [numsOf_length, numsOf_length]; omega
  have hC := parseW_any s w hH
  clear hbig hH
  go_enter Tryz.func7, Tryz.ntmps7
  go_wp2_with fail
  refine hC.mono ?_
  intro e w1 hh
  have hb1 := hh.1
  have hh2 : ∃ (rs : List Zq.Rl) (A : Option Addr) (c n : Nat) (f : Int), rs.length = n ∧ n ≤ 16 ∧ e = .returned (.tuple #[.slice A n c, .int .i64 f]) ∧ (f = 0 → Zq.parse (numsOf s) = .ok rs ∧ RsE w1 (fun _ => True) (.slice A n c) rs) := by
    obtain ⟨_, ⟨rs, A, c, hp, he, hR, hn⟩ | ⟨_, f, hf, he⟩⟩ := hh
    · exact ⟨rs, A, c, _, 0, rfl, hn, he, fun _ => ⟨hp, hR.toE.any⟩⟩
    · exact ⟨[], none, 0, 0, f, rfl, by decide, he, fun h => absurd h hf⟩
  clear hC hh
  obtain ⟨rs, A, c, n, f, hrn, hn16, rfl, hP⟩ := hh2
  have HP := Lib.hid hP
  have HRN := Lib.hid hrn
  have HB1 := Lib.hid hb1
  have hC := parseW_any t w1 (HH.out.below hb1)
  clear hP hrn hb1
  go_wp2_with fail
  refine hC.mono ?_
  intro e w2 hh
  have hb2 := hh.1
  have hh2 : ∃ (qs : List Zq.Rl) (A : Option Addr) (c n : Nat) (f : Int), qs.length = n ∧ n ≤ 16 ∧ e = .returned (.tuple #[.slice A n c, .int .i64 f]) ∧ (f = 0 → Zq.parse (numsOf t) = .ok qs ∧ RsE w2 (fun _ => True) (.slice A n c) qs) := by
    obtain ⟨_, ⟨rs, A, c, hp, he, hR, hn⟩ | ⟨_, f, hf, he⟩⟩ := hh
    · exact ⟨rs, A, c, _, 0, rfl, hn, he, fun _ => ⟨hp, hR.toE.any⟩⟩
    · exact ⟨[], none, 0, 0, f, rfl, by decide, he, fun h => absurd h hf⟩
  clear hC hh
  obtain ⟨qs, A2, c2, m, f2, hqm, hm16, rfl, hQ⟩ := hh2
  have HQ := Lib.hid hQ
  have HQM := Lib.hid hqm
  have HB2 := Lib.hid (below_onZ HB1.out hb2)
  have HP2 : Hid (f = 0 → Zq.parse (numsOf s) = .ok rs ∧ RsE w2 (fun _ => True) (.slice A n c) rs) := fun h => ⟨(HP.out h).1, (HP.out h).2.more hb2⟩
  clear hQ hqm hb2 HP
  repeat ((fail_if_success (with_reducible show wpList _ _ _ (⟨some 34, _, _, _, _, _⟩ :: _) _ _)); first | go_values | go_skip | go_guarded | go_step | go_upon | go_back | go_simp)
  refine conv11_at rfl (.tmp 33) rfl s rfl ?_
  intro w3 c3 hcells hb3
  have HB3 := Lib.hid (below_onZ HB2.out hb3)
  have HP3 : Hid (f = 0 → Zq.parse (numsOf s) = .ok rs ∧ RsE w3 (fun _ => True) (.slice A n c) rs) := fun h => ⟨(HP2.out h).1, (HP2.out h).2.more hb3⟩
  have HQ3 : Hid (f2 = 0 → Zq.parse (numsOf t) = .ok qs ∧ RsE w3 (fun _ => True) (.slice A2 m c2) qs) := fun h => ⟨(HQ.out h).1, (HQ.out h).2.more hb3⟩
  have HC := Lib.hid hcells
  have Hlen := Lib.hid (numsOf_length s)
  obtain ⟨g, eg⟩ : ∃ g, w2.heap.size = g := ⟨_, rfl⟩
  rw [eg] at HC ⊢
  clear hcells hb3 HP2 HQ eg
  go_frame
  go_wp2_with fail
  go_loop [9, 36] (fun lv i => ∃ k x : Nat, i = .int .i64 k ∧ k ≤ s.size ∧ lv = .int .u8 (x : Nat) ∧ x < 256 ∧ Hid (Zq.lastB ((numsOf s).take k) = x)) (fun _ i => s.size - (intOf i).toNat)
  case atStart => exact ⟨0, 59, rfl, Nat.zero_le _, rfl, by decide, Lib.hid rfl⟩
  case round =>
    obtain ⟨k, x, rfl, hk, rfl, hx, Hla⟩ := hrel
    by_cases hlt : k < s.size
    · have hlt' : k < (numsOf s).length := by rw [Hlen.out]; exact hlt
      have hc := HC.out k hlt
      have hget : (numsOf s)[k]? = some ((numsOf s).getD k 0) := by rw [List.getD_eq_getElem?_getD, List.getElem?_eq_getElem hlt']; rfl
      have HST := Lib.hid (last_step hget)
      have hy := numsOf_lt s ((numsOf s).getD k 0) (List.mem_of_getElem? hget)
      obtain ⟨y, ey⟩ : ∃ y, (numsOf s).getD k 0 = y := ⟨_, rfl⟩
      rw [ey] at hc HST hy
      clear hget ey hlt'
      by_cases h1 : y = 32
      · have HQ : Hid (Zq.lastB ((numsOf s).take (k + 1)) = x) := by unfold Hid; rw [HST.out, if_pos (by rw [h1]; rfl)]; exact Hla.out
        subst h1
        go_wp2
        go_round
        case rel => exact ⟨k + 1, x, by go_num, by omega, rfl, hx, Lib.hid HQ.out⟩
        case measure => simp [intOf]; omega
      by_cases h2 : y = 10
      · have HQ : Hid (Zq.lastB ((numsOf s).take (k + 1)) = x) := by unfold Hid; rw [HST.out, if_pos (by rw [h2]; rfl)]; exact Hla.out
        subst h2
        go_wp2
        go_round
        case rel => exact ⟨k + 1, x, by go_num, by omega, rfl, hx, Lib.hid HQ.out⟩
        case measure => simp [intOf]; omega
      · have HQ : Hid (Zq.lastB ((numsOf s).take (k + 1)) = y) := by unfold Hid; rw [HST.out, if_neg (by unfold Zq.blank; simp [h1, h2])]
        have g1 : ((y : Int) != 32) = true := by rw [bne_iff_ne]; omega
        have g2 : ((y : Int) != 10) = true := by rw [bne_iff_ne]; omega
        go_wp2
        go_round
        case rel => exact ⟨k + 1, y, by go_num, by omega, rfl, hy, Lib.hid HQ.out⟩
        case measure => simp [intOf]; omega
    · obtain rfl : k = s.size := by omega
      have hd2 : decide ((s.size : Int) < (s.size : Int)) = false := by simp
      have HLA : Hid (Zq.lastB (numsOf s) = x) := by
        have := Hla.out
        rwa [List.take_of_length_le (by rw [Hlen.out]; exact Nat.le_refl _)] at this
      clear Hla HC
      rcases Decidable.em (f = 0) with h1 | h1
      case inr =>
        have g1 : (f != 0) = true := by rw [bne_iff_ne]; exact h1
        have hA := alive11_any w3 (HH.out.below HB3.out)
        go_wp2_with fail
        refine hA.mono ?_
        rintro e w4 ⟨rfl, hb4⟩
        have HE : Hid (True11 w (.returned (.bool true)) w4) := ⟨rfl, below_onZ HB3.out hb4⟩
        clear hA hb4
        go_wp2
        go_ret
        exact HE.out
      subst h1
      rcases Decidable.em (f2 = 0) with h2 | h2
      case inr =>
        have g1 : (f2 != 0) = true := by rw [bne_iff_ne]; exact h2
        have hA := alive11_any w3 (HH.out.below HB3.out)
        go_wp2_with fail
        refine hA.mono ?_
        rintro e w4 ⟨rfl, hb4⟩
        have HE : Hid (True11 w (.returned (.bool true)) w4) := ⟨rfl, below_onZ HB3.out hb4⟩
        clear hA hb4
        go_wp2
        go_ret
        exact HE.out
      subst h2
      rcases Decidable.em (x = 59) with h3 | h3
      · subst h3
        have hA := alive11_any w3 (HH.out.below HB3.out)
        go_wp2_with fail
        refine hA.mono ?_
        rintro e w4 ⟨rfl, hb4⟩
        have HE : Hid (True11 w (.returned (.bool true)) w4) := ⟨rfl, below_onZ HB3.out hb4⟩
        clear hA hb4
        go_wp2
        go_ret
        exact HE.out
      have g1 : ((x : Int) == 59) = false := beq_false_of_ne (by omega)
      have g2 : decide ((x : Int) = 59) = false := decide_eq_false (by omega)
      rcases Nat.lt_or_ge 16 (n + m) with h4 | h4
      · have g3 : decide ((16 : Int) < (n : Int) + (m : Int)) = true := decide_eq_true (by omega)
        have hA := alive11_any w3 (HH.out.below HB3.out)
        go_wp2_with fail
        refine hA.mono ?_
        rintro e w4 ⟨rfl, hb4⟩
        have HE : Hid (True11 w (.returned (.bool true)) w4) := ⟨rfl, below_onZ HB3.out hb4⟩
        clear hA hb4
        go_wp2
        go_ret
        exact HE.out
      have g3 : decide ((16 : Int) < (n : Int) + (m : Int)) = false := decide_eq_false (by omega)
      obtain ⟨hp, hR⟩ := HP3.out rfl
      obtain ⟨hq, hRQ⟩ := HQ3.out rfl
      have hj := Zq.parse_joins HS2.out.1 HS2.out.2 hp hq (by rw [HLA.out]; exact h3) (by rw [HRN.out, HQM.out]; exact h4)
      have hC := parseW_any (s ++ { data := #[59] } ++ t) w3 (HH.out.below HB3.out)
      rw [nums_semi] at hC
      have HJ := Lib.hid hj
      have HR := Lib.hid hR
      have HRQ := Lib.hid hRQ
      have hnm : n + m ≤ 16 := h4
      clear hp hq hj hR hRQ HP3 HQ3 h3 h4
      go_wp2_with fail
      refine hC.mono ?_
      rintro e w4 ⟨hb4, ⟨rs3, A3, c3, hp3, rfl, hR3, _⟩ | ⟨⟨er, her⟩, _⟩⟩
      case inr => rw [HJ.out] at her; cases her
      rw [HJ.out] at hp3
      injection hp3 with hp3
      subst hp3
      have HB4 := Lib.hid (below_onZ HB3.out hb4)
      have HR4 := Lib.hid (HR.out.more hb4)
      have HRQ4 := Lib.hid (HRQ.out.more hb4)
      have HR3 := Lib.hid hR3.toE.any
      have hA := alive11_any w4 (HH.out.below HB4.out)
      obtain ⟨N3, eN3⟩ : ∃ N, (rs ++ qs).length = N := ⟨_, rfl⟩
      rw [eN3] at HR3 ⊢
      clear hC hb4 hR3 eN3
      go_wp2_with fail
      refine hA.mono ?_
      rintro e w5 ⟨rfl, hb5⟩
      have HB5 := Lib.hid (below_onZ HB4.out hb5)
      have hR5 := HR4.out.more hb5
      have hRQ5 := HRQ4.out.more hb5
      have HR35 := Lib.hid (HR3.out.more hb5)
      obtain ⟨hrl, us, hus, hue, huo, huc⟩ := hR5.parts
      obtain ⟨hql, vs, hvs, hve, hvo, hvc⟩ := hRQ5.parts
      clear hA hb5 hR5 hRQ5 HR4 HRQ4 HR3
      have HUS := Lib.hid hus
      have HVS := Lib.hid hvs
      have HUE := Lib.hid hue
      have HVE := Lib.hid hve
      have HVO := Lib.hid hvo
      have HVC := Lib.hid hvc
      have HRL := Lib.hid hrl
      have HQL := Lib.hid hql
      have hown0 : (w5.alloc (.cells #[] 35)).ownsRow w5.heap.size 35 3 (.slice (some ⟨w5.heap.size, 0, none⟩) 0 0) 0 [] := ⟨rfl, .inr ⟨w5.heap.size, 0, #[], rfl, Nat.le_refl _, heap_alloc_new w5 _, Nat.le_refl _, Nat.zero_le _, rfl, rfl⟩⟩
      have hbx := box_below w5 (.cells #[] 35)
      have HUC : Hid (∀ W, Below w5.heap.size w5 W → 0 < n → ∃ b off, A = some ⟨b, off, none⟩ ∧ ∀ j x, (rcells3 us)[j]? = some x → W.cell? ⟨b, off + j, none⟩ = some x) := fun W hW hp => by
        obtain ⟨b, off, e, h1, h2⟩ := huc hp
        exact ⟨b, off, e, fun j x hj => (hW.cell (p := ⟨b, off + j, none⟩) h1).trans (h2 j x hj)⟩
      have HVC2 : Hid (∀ W, Below w5.heap.size w5 W → 0 < m → ∃ b off, A2 = some ⟨b, off, none⟩ ∧ ∀ j x, (rcells3 vs)[j]? = some x → W.cell? ⟨b, off + j, none⟩ = some x) := fun W hW hp => by
        obtain ⟨b, off, e, h1, h2⟩ := hvc hp
        exact ⟨b, off, e, fun j x hj => (hW.cell (p := ⟨b, off + j, none⟩) h1).trans (h2 j x hj)⟩
      clear hue hve hvo hvc huc hus hvs hrl hql
      repeat ((fail_if_success (with_reducible show wpList _ _ _ (⟨some 84, _, _, _, _, _⟩ :: _) _ _)); first | go_values | go_skip | go_guarded | go_step | go_upon | go_back | go_simp)
      refine append_rules ?c0 (.tmp 82) (.tmp 83) rfl w5.heap.size _ 0 [] A c n us hown0 HUS.out huo (HUC.out _ hbx) rfl rfl ?c6 ?c8 ?_
      case c0 => rfl
      case c6 => omega
      case c8 => exact hbx.size
      intro v6 w6 hown6 hgr6
      have hbx6 : Below w5.heap.size w5 w6 := hbx.grown hgr6 hbx.size (fun k e => (hown0.lt k e).1)
      rw [Nat.zero_add, List.nil_append] at hown6
      clear hgr6 hown0 hbx huo
      go_frame
      repeat ((fail_if_success (with_reducible show wpList _ _ _ (⟨some 86, _, _, _, _, _⟩ :: _) _ _)); first | go_values | go_skip | go_guarded | go_step | go_upon | go_back | go_simp)
      refine append_rules ?c0 (.tmp 84) (.tmp 85) rfl w5.heap.size v6 n (rcells3 us) A2 c2 m vs hown6 HVS.out HVO.out (HVC2.out _ hbx6) rfl rfl ?c6 ?c8 ?_
      case c0 => rfl
      case c6 => omega
      case c8 => exact hbx6.size
      intro v7 w7 hown7 hgr7
      have hbx7 : Below w5.heap.size w5 w7 := hbx6.grown hgr7 hbx6.size (fun k e => (hown6.lt k e).1)
      rw [← rcells3_append] at hown7
      have hJ7 := RsE.joined hown7 (by rw [HRL.out, HQL.out]) (by rw [HUS.out, HRL.out]) (by rw [HVS.out, HQL.out]) (fun i u r e1 e2 => (HUE.out i u r e1 e2).more hbx7) (fun i u r e1 e2 => (HVE.out i u r e1 e2).more hbx7)
      have HB7 := Lib.hid (below_onZ HB5.out hbx7)
      have hS := (refSame11_any (rs ++ qs) (rs ++ qs) _ _ w7 (HR35.out.more hbx7) hJ7).mono fun e w' h => h.dec
      rw [decide_eq_true (rfl : rs ++ qs = rs ++ qs)] at hS
      clear hgr7 hown6 hown7 hbx6 hbx7 hJ7
      go_frame
      go_wp2_with fail
      refine hS.mono ?_
      rintro e w8 ⟨rfl, hb8⟩
      have HE : Hid (True11 w (.returned (.bool true)) w8) := ⟨rfl, below_onZ HB7.out hb8⟩
      clear hS hb8
      go_wp2
      go_ret
      exact HE.out
end Go.Proofs.YthhlmalpelgpeaaGreatDoor
