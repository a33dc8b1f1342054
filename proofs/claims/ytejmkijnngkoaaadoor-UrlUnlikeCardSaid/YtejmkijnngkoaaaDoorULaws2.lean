/-
  The walk of the law UrlUnlike.
-/
import Derived.Test.YtejmkijnngkoaaaDoorULaws
import Derived.Lib.ConvBytes
namespace Go.Proofs.YtejmkijnngkoaaaDoor
open Go.RowKit

/-- The bytes of a text, laid. -/
theorem conv_bytes_at {ops : Array Oper} {rest : List Oper} {o : Oper} {a : Act} {Q : Exit → Act → World → Prop} {w : World} (hgd : o.guard = none) (x : Operand) (ho : o.op = .convert 9 37 x) (X : ByteArray) (hx : a.eval x = .string X)
    (hK : ∀ w' c, (∀ j, j < X.size → w'.cell? ⟨w.heap.size, j, none⟩ = some (.int .u8 ((numsOf X).getD j 0 : Nat))) → Below w.heap.size w w' → wpList Tryd.prog ops Q rest (a.put o.dst (.slice (some ⟨w.heap.size, 0, none⟩) X.size c)) w') : wpList Tryd.prog ops Q (o :: rest) a w := by
  refine wpList_plain hgd fun K hK' => ?_
  have hr := Lib.run_convert_string_bytes (P := Tryd.prog) w 9 37 5 X Tryd.underlying9 Tryd.underlying37 Tryd.underlying5
  unfold Oper.wp
  rw [execOp, ho]
  simp [hx, hr, Result.andThen]
  refine hK' _ _ (hK _ _ (fun j hj => ?_) (Lib.bytesWorld_below _ _ _))
  rw [Lib.bytesWorld_cell w _ X j hj, nums_at X j hj]
  have h' : j < X.data.toList.length := by simpa using hj
  rw [List.getD_eq_getElem?_getD, List.getElem?_eq_getElem h']
  rfl

theorem nums_app (s t : ByteArray) : numsOf (s ++ t) = numsOf s ++ numsOf t := by simp [numsOf]
theorem nums_inj {s t : ByteArray} : s = t ↔ numsOf s = numsOf t := ⟨fun h => by rw [h], fun h => by rw [← strOf_numsOf s, ← strOf_numsOf t, h]⟩
theorem unlike_eq {s t : ByteArray} {u v : Uq.U} (hu : Uq.parse (numsOf s) = some u) (hv : Uq.parse (numsOf t) = some v) (hno : ∀ x ∈ numsOf (s ++ t), x ≠ 63) :
    decide (s = t) = decide (strOf u.1 = strOf v.1 ∧ strOf u.2.1 = strOf v.2.1 ∧ u.2.2 = v.2.2) := by
  rw [nums_app] at hno
  obtain ⟨a1, a2⟩ := Uq.parse_bytes hu (numsOf_lt s)
  obtain ⟨b1, b2⟩ := Uq.parse_bytes hv (numsOf_lt t)
  rw [decide_eq_decide, nums_inj, Uq.parse_same hu hv (fun x hx => hno x (List.mem_append_left _ hx)) (fun x hx => hno x (List.mem_append_right _ hx))]
  constructor
  · intro h; rw [h]; exact ⟨rfl, rfl, rfl⟩
  · rintro ⟨h1, h2, h3⟩
    obtain ⟨x, y, z⟩ := u
    obtain ⟨x', y', z'⟩ := v
    simp only at a1 a2 b1 b2 h1 h2 h3
    rw [strOf_inj a1 b1 h1, strOf_inj a2 b2 h2, h3]

set_option maxHeartbeats 2000000 in
set_option maxRecDepth 100000 in
theorem lawUnlike (s t : ByteArray) (w : World) (hs : s.size ≤ 140737488351232) (ht : t.size ≤ 140737488351232) (hH : Held w) :
    Calls Tryd.prog 7 #[.string s, .string t] w fun e w' => e = .returned (.bool true) ∧ Below w.heap.size w w' := by
  have HH := Lib.hid hH
  have hal := alive_any w hH
  by_cases hls : 4096 < s.size
  · have hd : decide ((4096 : Int) < (s.size : Int)) = true := decide_eq_true (by omega)
    clear hH
    go_enter Tryd.func7, Tryd.ntmps7
    go_wp2_with fail
    refine hal.mono ?_
    rintro e w1 ⟨rfl, hb1⟩
    go_wp2
    go_ret
    exact ⟨rfl, hb1⟩
  · have hd : decide ((4096 : Int) < (s.size : Int)) = false := decide_eq_false (by omega)
    by_cases hlt : 4096 < t.size
    · have hd2 : decide ((4096 : Int) < (t.size : Int)) = true := decide_eq_true (by omega)
      clear hH
      go_enter Tryd.func7, Tryd.ntmps7
      go_wp2_with fail
      refine hal.mono ?_
      rintro e w1 ⟨rfl, hb1⟩
      go_wp2
      go_ret
      exact ⟨rfl, hb1⟩
    · have hd2 : decide ((4096 : Int) < (t.size : Int)) = false := decide_eq_false (by omega)
      have hE := urlParse_any s w hs hH
      have hT := fun w h => urlParse_any t w ht h
      unfold UrlEnd at hE hT
      have HEq : Hid ((Uq.parse (numsOf s)).isSome = true → (Uq.parse (numsOf t)).isSome = true → (∀ x ∈ numsOf (s ++ t), x ≠ 63) → (s.toList == t.toList) = decide (strOf ((Uq.parse (numsOf s)).getD none3).1 = strOf ((Uq.parse (numsOf t)).getD none3).1 ∧ strOf ((Uq.parse (numsOf s)).getD none3).2.1 = strOf ((Uq.parse (numsOf t)).getD none3).2.1 ∧ ((Uq.parse (numsOf s)).getD none3).2.2 = ((Uq.parse (numsOf t)).getD none3).2.2)) := fun h1 h2 h3 => by
        obtain ⟨u, hu⟩ := Option.isSome_iff_exists.1 h1
        obtain ⟨v, hv⟩ := Option.isSome_iff_exists.1 h2
        rw [text_beq, hu, hv]
        exact unlike_eq hu hv h3
      have hf1 := getD_fine (numsOf_lt s)
      have hl1 := getD_len (numsOf s)
      have hf2 := getD_fine (numsOf_lt t)
      obtain ⟨H, eH⟩ : ∃ H, strOf ((Uq.parse (numsOf s)).getD none3).1 = H := ⟨_, rfl⟩
      obtain ⟨P, eP⟩ : ∃ P, strOf ((Uq.parse (numsOf s)).getD none3).2.1 = P := ⟨_, rfl⟩
      obtain ⟨Y, eY⟩ : ∃ Y, ((Uq.parse (numsOf s)).getD none3).2.2 = Y := ⟨_, rfl⟩
      obtain ⟨B, eB⟩ : ∃ B, (Uq.parse (numsOf s)).isSome = B := ⟨_, rfl⟩
      obtain ⟨H', eH'⟩ : ∃ H, strOf ((Uq.parse (numsOf t)).getD none3).1 = H := ⟨_, rfl⟩
      obtain ⟨P', eP'⟩ : ∃ P, strOf ((Uq.parse (numsOf t)).getD none3).2.1 = P := ⟨_, rfl⟩
      obtain ⟨Y', eY'⟩ : ∃ Y, ((Uq.parse (numsOf t)).getD none3).2.2 = Y := ⟨_, rfl⟩
      obtain ⟨B', eB'⟩ : ∃ B, (Uq.parse (numsOf t)).isSome = B := ⟨_, rfl⟩
      simp only [eH, eP, eY, eB] at hE hf1 hl1
      simp only [eH', eP', eY', eB'] at hT hf2
      rw [eH, eP, eY, eB, eH', eP', eY', eB'] at HEq
      obtain ⟨n, en⟩ : ∃ n, Y.length = n := ⟨_, rfl⟩
      obtain ⟨n', en'⟩ : ∃ n, Y'.length = n := ⟨_, rfl⟩
      have hS := fun A1 A2 c1 c2 w h1 h2 => refSame_any H P H' P' Y Y' A1 A2 n n' c1 c2 w en en' h1 h2 hf1 hf2 (by omega)
      simp only [en] at hE
      simp only [en'] at hT
      have HS := Lib.hid hS
      have HT := Lib.hid hT
      clear eH eP eY eB eH' eP' eY' eB' en en' hf1 hl1 hf2 hS hT hH hal
      go_enter Tryd.func7, Tryd.ntmps7
      go_wp2_with fail
      refine hE.mono ?_
      rintro e w1 ⟨A1, c1, rfl, hr1, hb1⟩
      clear hE
      have hL1 := Lies.made w1 24 [.string H, .string P, .slice A1 n c1]
      have hr1' := hr1.alloc (.cells #[.string H, .string P, .slice A1 n c1] 24)
      have hb1' := hb1.alloc hb1.size (.cells #[.string H, .string P, .slice A1 n c1] 24)
      have hT := HT.out _ (HH.out.below hb1')
      clear hr1 hb1
      go_wp2_with fail
      refine hT.mono ?_
      rintro e w2 ⟨A2, c2, rfl, hr2, hb2⟩
      clear hT
      have hL12 := (hL1.below hb2 hL1.lt).alloc (.cells #[.string H', .string P', .slice A2 n' c2] 24)
      have hL2 := Lies.made w2 24 [.string H', .string P', .slice A2 n' c2]
      have hr12 := (hr1'.below hb2 (Nat.le_refl _)).alloc (.cells #[.string H', .string P', .slice A2 n' c2] 24)
      have hr2' := hr2.alloc (.cells #[.string H', .string P', .slice A2 n' c2] 24)
      have hb02 := hb1'.trans (hb2.mono hb1'.size)
      have hb02' := hb02.alloc hb02.size (.cells #[.string H', .string P', .slice A2 n' c2] 24)
      clear hb1' hb2 hr1' hr2 hL1 hb02
      repeat ((fail_if_success (with_reducible show wpList _ _ _ (⟨some 33, _, _, _, _, _⟩ :: _) _ _)); first | go_values | go_skip | go_guarded | go_step | go_upon | go_back | go_simp)
      with_reducible refine conv_bytes_at rfl (.tmp 32) rfl (s ++ t) ?s1 ?_
      case s1 => rfl
      intro w3 c3 hcells hb3
      have hL13 := hL12.below hb3 hL12.lt
      have hL23 := hL2.below hb3 hL2.lt
      have hr13 := hr12.below hb3 (Nat.le_refl _)
      have hr23 := hr2'.below hb3 (Nat.le_refl _)
      have hb03 := hb02'.trans (hb3.mono hb02'.size)
      have hal := alive_any w3 (HH.out.below hb03)
      have hXs : (s ++ t).size ≤ 8192 := by rw [ByteArray.size_append]; omega
      have HC := Lib.hid hcells
      have Hlen := Lib.hid (numsOf_length (s ++ t))
      clear hL12 hL2 hr12 hr2' hb02' hb3 hcells hd hd2
      obtain ⟨X, eX⟩ : ∃ X, s ++ t = X := ⟨_, rfl⟩
      rw [eX] at HC Hlen hXs HEq ⊢
      obtain ⟨g, eg⟩ : ∃ g, (w2.alloc (.cells #[.string H', .string P', .slice A2 n' c2] 24)).heap.size = g := ⟨_, rfl⟩
      rw [eg] at HC ⊢
      clear eX eg
      go_frame
      go_wp2_with fail
      go_loop [35] (fun i => ∃ k : Nat, i = .int .i64 k ∧ k ≤ X.size ∧ ∀ j, j < k → (numsOf X).getD j 0 ≠ 63) (fun i => X.size - (intOf i).toNat)
      case atStart => exact ⟨0, rfl, Nat.zero_le _, fun j hj => by omega⟩
      case round =>
        obtain ⟨k, rfl, hk, hno⟩ := hrel
        have Hno := Lib.hid hno
        clear hno
        by_cases hlt : k < X.size
        · have hcell := HC.out k hlt
          have hx256 : (numsOf X).getD k 0 < 256 := by
            rw [nums_at X k hlt]; exact X[k].toNat_lt
          by_cases h63 : (numsOf X).getD k 0 = 63
          · rw [h63] at hcell
            clear hx256 h63
            go_wp2_with fail
            refine hal.mono ?_
            rintro e w4 ⟨rfl, hb4⟩
            have hb04 := hb03.trans (hb4.mono hb03.size)
            clear hal hb4
            go_wp2
            go_ret
            exact ⟨rfl, hb04⟩
          · have HN := Lib.hid (free_step (m := k + 1) Hno.out h63 rfl)
            obtain ⟨x, ex⟩ : ∃ x, (numsOf X).getD k 0 = x := ⟨_, rfl⟩
            rw [ex] at hcell hx256 h63
            have hd : ((x : Int) == 63) = false := by rw [beq_eq_false_iff_ne]; omega
            clear ex h63
            go_wp2
            go_round
            case rel => exact ⟨k + 1, by go_num, by omega, HN.out⟩
            case measure => simp [intOf]; omega
        · obtain rfl : k = X.size := by omega
          have hd3 : decide ((X.size : Int) < (X.size : Int)) = false := by simp
          have HEq' := Lib.hid (fun h1 h2 => HEq.out h1 h2 (all_take (P := fun c => c ≠ 63) Hno.out (by rw [Hlen.out]; exact Nat.le_refl _)))
          clear HEq Hno HC Hlen
          go_wp2_with fail
          refine hal.mono ?_
          rintro e w4 ⟨rfl, hb4⟩
          have hb04 := hb03.trans (hb4.mono hb03.size)
          clear hal
          cases B with
          | false =>
            clear hb4 HEq'
            go_wp2
            go_ret
            exact ⟨rfl, hb04⟩
          | true =>
            cases B' with
            | false =>
              clear hb4 HEq'
              go_wp2
              go_ret
              exact ⟨rfl, hb04⟩
            | true =>
              have hL14 := hL13.below hb4 hL13.lt
              have hL24 := hL23.below hb4 hL23.lt
              have hr14 := hr13.below hb4 (Nat.le_refl _)
              have hr24 := hr23.below hb4 (Nat.le_refl _)
              have hS := HS.out A1 A2 c1 c2 w4 hr14 hr24
              have hst := HEq'.out rfl rfl
              obtain ⟨r, er⟩ : ∃ r, decide (H = H' ∧ P = P' ∧ Y = Y') = r := ⟨_, rfl⟩
              rw [er] at hS hst
              obtain ⟨g0, g1, g2, _, _, _⟩ := keep3 hL14 (Below.refl _ _)
              obtain ⟨j0, j1, j2, _, _, _⟩ := keep3 hL24 (Below.refl _ _)
              clear er hb4 HEq' hL13 hL23 hr13 hr23 hL14 hL24 hr14 hr24
              go_wp2_with fail
              refine hS.mono ?_
              rintro e w5 ⟨rfl, hb5⟩
              have hb05 := hb04.trans (hb5.mono hb04.size)
              clear hS hb5 g0 g1 g2 j0 j1 j2
              go_wp2
              go_ret
              exact ⟨ret_bool (by simp), hb05⟩
end Go.Proofs.YtejmkijnngkoaaaDoor
