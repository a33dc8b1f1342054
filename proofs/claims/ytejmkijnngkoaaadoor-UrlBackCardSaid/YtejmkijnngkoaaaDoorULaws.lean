/-
  The walks of the laws UrlParses, UrlBack and UrlUnlike.
-/
import Derived.Test.YtejmkijnngkoaaaDoorUAlive
import Derived.Test.YtejmkijnngkoaaaDoorURefParse2
namespace Go.Proofs.YtejmkijnngkoaaaDoor
open Go.RowKit

abbrev none3 : Uq.U := ([], [], [])
theorem getD_fine {S : List Nat} (hS : ∀ x ∈ S, x < 256) : Pq.Fine ((Uq.parse S).getD none3).2.2 := by
  cases h : Uq.parse S with
  | none => intro p hp; cases hp
  | some u => exact url_fine h hS
theorem getD_len (S : List Nat) : ((Uq.parse S).getD none3).2.2.length ≤ 32 := by
  cases h : Uq.parse S with
  | none => exact Nat.zero_le _
  | some u => exact (Uq.parse_lens h).2.2

set_option maxHeartbeats 1000000 in
set_option maxRecDepth 100000 in
theorem lawParses (s : ByteArray) (w : World) (hs : s.size ≤ 140737488351232) (hH : Held w) :
    Calls Tryd.prog 3 #[.string s] w fun e w' => e = .returned (.bool true) ∧ Below w.heap.size w w' := by
  have hE := urlParse_any s w hs hH
  have hR := fun w => refUrlParse_any s w hs
  have hf := getD_fine (numsOf_lt s)
  have hl := getD_len (numsOf s)
  unfold UrlEnd at hE hR
  obtain ⟨H, eH⟩ : ∃ H, strOf ((Uq.parse (numsOf s)).getD none3).1 = H := ⟨_, rfl⟩
  obtain ⟨P, eP⟩ : ∃ P, strOf ((Uq.parse (numsOf s)).getD none3).2.1 = P := ⟨_, rfl⟩
  obtain ⟨Y, eY⟩ : ∃ Y, ((Uq.parse (numsOf s)).getD none3).2.2 = Y := ⟨_, rfl⟩
  obtain ⟨B, eB⟩ : ∃ B, (Uq.parse (numsOf s)).isSome = B := ⟨_, rfl⟩
  simp only [eH, eP, eY, eB] at hE hR hf hl
  obtain ⟨n, en⟩ : ∃ n, Y.length = n := ⟨_, rfl⟩
  have hS := fun A1 A2 c1 c2 w h1 h2 => refSame_any H P H P Y Y A1 A2 n n c1 c2 w en en h1 h2 hf hf (by omega)
  rw [decide_eq_true ⟨rfl, rfl, rfl⟩] at hS
  simp only [en] at hE hR
  have HS := Lib.hid hS
  have HH := Lib.hid hH
  clear eH eP eY eB en hf hl hS hH
  go_enter Tryd.func3, Tryd.ntmps3
  go_wp2_with fail
  refine hE.mono ?_
  rintro e w1 ⟨A1, c1, rfl, hr1, hb1⟩
  clear hE
  have hL1 := Lies.made w1 24 [.string H, .string P, .slice A1 n c1]
  have hr1' := hr1.alloc (.cells #[.string H, .string P, .slice A1 n c1] 24)
  have hb1' := hb1.alloc hb1.size (.cells #[.string H, .string P, .slice A1 n c1] 24)
  clear hr1 hb1
  go_wp2_with fail
  refine (hR _).mono ?_
  rintro e w2 ⟨A2, c2, rfl, hr2, hb2⟩
  clear hR
  have hL12 := (hL1.below hb2 hL1.lt).alloc (.cells #[.string H, .string P, .slice A2 n c2] 24)
  have hL2 := Lies.made w2 24 [.string H, .string P, .slice A2 n c2]
  have hr12 := (hr1'.below hb2 (Nat.le_refl _)).alloc (.cells #[.string H, .string P, .slice A2 n c2] 24)
  have hr2' := hr2.alloc (.cells #[.string H, .string P, .slice A2 n c2] 24)
  have hb02 := hb1'.trans (hb2.mono hb1'.size)
  have hb02' := hb02.alloc hb02.size (.cells #[.string H, .string P, .slice A2 n c2] 24)
  have hal := alive_any (w2.alloc (.cells #[.string H, .string P, .slice A2 n c2] 24)) (HH.out.below hb02')
  clear hb1' hb2 hr1' hr2 hL1 hb02
  go_wp2_with fail
  refine hal.mono ?_
  rintro e w3 ⟨rfl, hb3⟩
  clear hal
  obtain ⟨g0, g1, g2, _, _, _⟩ := keep3 hL2 hb3
  have hL13 := hL12.below hb3 hL12.lt
  obtain ⟨j0, j1, j2, _, _, _⟩ := keep3 hL13 (Below.refl _ _)
  have hr13 := hr12.below hb3 (Nat.le_refl _)
  have hr23 := hr2'.below hb3 (Nat.le_refl _)
  have hb03 := hb02'.trans (hb3.mono hb02'.size)
  have hS := HS.out A1 A2 c1 c2 w3 hr13 hr23
  clear hL2 hL12 hL13 hr12 hr2' hr13 hr23 hb02' hb3
  go_wp2_with fail
  refine hS.mono ?_
  rintro e w4 ⟨rfl, hb4⟩
  have hb04 := hb03.trans (hb4.mono hb03.size)
  clear hS hb03 hb4 g0 g1 g2 j0 j1 j2
  go_wp2
  go_ret
  exact ⟨rfl, hb04⟩
theorem pairs_short : ∀ (P : List (List Nat)), (∀ q ∈ P, q.length ≤ 4096 ∧ ∀ x ∈ q, x < 256) → ∀ Y, Pq.pairsOf P = some Y → Short Y
  | [], _, Y, hY => by rw [Pq.pairsOf] at hY; cases hY; intro p hp; cases hp
  | q :: P, hq, Y, hY => by
    rw [Pq.pairsOf] at hY
    split at hY
    · rename_i x y hx hy
      cases hY
      intro p hp
      rcases List.mem_cons.1 hp with rfl | hp
      · have hq0 := hq q (by simp)
        unfold Pq.pair at hx
        split at hx
        · rename_i a b ha hb
          cases hx
          have h1 := (Pq.un_lt true _ _ _ (Nat.le_refl _) (fun z hz => hq0.2 z (List.mem_of_mem_take (by rw [Pq.front_take]; exact hz))) ha).2
          have h2 := (Pq.un_lt true _ _ _ (Nat.le_refl _) (fun z hz => hq0.2 z (List.mem_of_mem_drop hz)) hb).2
          have h3 := Pq.front_le q
          have h4 : (q.drop ((Pq.front q).length + 1)).length ≤ q.length := by rw [List.length_drop]; omega
          exact ⟨by show a.length ≤ _; omega, by show b.length ≤ _; omega⟩
        · cases hx
      · exact pairs_short P (fun r hr => hq r (List.mem_cons_of_mem _ hr)) _ hy p hp
    · cases hY
theorem short_of {S : List Nat} {Y : List (List Nat × List Nat)} (h : Pq.parse S = some Y) (hS : ∀ x ∈ S, x < 256) : Short Y := by
  unfold Pq.parse at h
  split at h
  · cases h
  · split at h
    · cases h; intro p hp; cases hp
    · split at h
      · cases h
      · exact pairs_short _ (fun q hq => ⟨by have := (Pq.parts_mem hq).1; omega, fun x hx => hS x ((Pq.parts_mem hq).2 x hx)⟩) _ h

set_option maxHeartbeats 1000000 in
set_option maxRecDepth 100000 in
theorem lawBack (s : ByteArray) (w : World) (hs : s.size ≤ 140737488351232) (hH : Held w) :
    Calls Tryd.prog 6 #[.string s] w fun e w' => e = .returned (.bool true) ∧ Below w.heap.size w w' := by
  have hE := urlParse_any s w hs hH
  unfold UrlEnd at hE
  have HH := Lib.hid hH
  cases hp : Uq.parse (numsOf s) with
  | none =>
    simp only [hp, Option.getD_none, Option.isSome_none] at hE
    clear hp hH
    go_enter Tryd.func6, Tryd.ntmps6
    go_wp2_with fail
    refine hE.mono ?_
    rintro e w1 ⟨A1, c1, rfl, hr1, hb1⟩
    have hb2 := hb1.alloc hb1.size (.cells #[.string (strOf []), .string (strOf []), .slice A1 0 c1] 24)
    have hal := alive_any _ (HH.out.below hb2)
    clear hE hr1 hb1
    go_wp2_with fail
    refine hal.mono ?_
    rintro e w3 ⟨rfl, hb3⟩
    have hb4 := hb2.trans (hb3.mono hb2.size)
    clear hal hb2 hb3
    go_wp2
    go_ret
    exact ⟨rfl, hb4⟩
  | some u =>
    obtain ⟨vH, vP, Y⟩ := u
    obtain ⟨hvH, hvP⟩ := Uq.parse_bytes hp (numsOf_lt s)
    have hF := url_fine hp (numsOf_lt s)
    have hSh := short_of (Uq.parse_some hp).2.2.2 (drop_lt (drop_lt (numsOf_lt s) _) _)
    obtain ⟨hl1, hl2, hl32⟩ := Uq.parse_lens hp
    have hbk := Uq.parse_back hp hF
    simp only at hvH hvP hF hSh hl1 hl2 hl32
    simp only [hp, Option.getD_some, Option.isSome_some] at hE
    have hPr := fun A c w h => urlPrint_any (strOf vH) (strOf vP) Y A c w h hF hSh (by omega) (by rw [strOf_size]; omega) (by rw [strOf_size]; omega)
    have hRi := fun A c w h h' => right_any (strOf vH) (strOf vP) Y A Y.length c w rfl h hF hSh (by omega) (by rw [strOf_size]; omega) (by rw [strOf_size]; omega) h'
    simp only [numsOf_strOf hvH, numsOf_strOf hvP] at hPr hRi
    have hz : (strOf (Uq.print (vH, vP, Y))).size = (Uq.print (vH, vP, Y)).length := strOf_size _
    obtain ⟨T, eT⟩ : ∃ T, strOf (Uq.print (vH, vP, Y)) = T := ⟨_, rfl⟩
    simp only [eT] at hPr
    rw [eT] at hz
    have HR : Hid (T.size ≤ 4096 → Uq.right (vH, vP, Y) = true) := fun h => decide_eq_true (hbk (by omega))
    obtain ⟨r, er⟩ : ∃ r, Uq.right (vH, vP, Y) = r := ⟨_, rfl⟩
    simp only [er] at hRi HR
    obtain ⟨SH, eSH⟩ : ∃ SH, strOf vH = SH := ⟨_, rfl⟩
    obtain ⟨SP, eSP⟩ : ∃ SP, strOf vP = SP := ⟨_, rfl⟩
    simp only [eSH, eSP] at hE hPr hRi
    obtain ⟨n, en⟩ : ∃ n, Y.length = n := ⟨_, rfl⟩
    simp only [en] at hE hPr hRi
    have HPr := Lib.hid hPr
    have HRi := Lib.hid hRi
    clear hp hH hvH hvP hF hSh hl1 hl2 hl32 hbk eT er eSH eSP en hz hPr hRi
    go_enter Tryd.func6, Tryd.ntmps6
    go_wp2_with fail
    refine hE.mono ?_
    rintro e w1 ⟨A1, c1, rfl, hr1, hb1⟩
    have hL1 := Lies.made w1 24 [.string SH, .string SP, .slice A1 n c1]
    have hr2 := hr1.alloc (.cells #[.string SH, .string SP, .slice A1 n c1] 24)
    have hb2 := hb1.alloc hb1.size (.cells #[.string SH, .string SP, .slice A1 n c1] 24)
    have hal := alive_any _ (HH.out.below hb2)
    clear hE hr1 hb1
    go_wp2_with fail
    refine hal.mono ?_
    rintro e w3 ⟨rfl, hb3⟩
    have hb4 := hb2.trans (hb3.mono hb2.size)
    have hr3 := hr2.below hb3 (Nat.le_refl _)
    have hL3 := hL1.below hb3 hL1.lt
    have hPr := HPr.out A1 c1 w3 hr3
    obtain ⟨g0, g1, g2, _, _, _⟩ := keep3 hL3 (Below.refl _ _)
    clear hal hb2 hb3 hr2 hL1
    go_wp2_with fail
    refine hPr.mono ?_
    rintro e w4 ⟨rfl, hb5⟩
    have hb6 := hb4.trans (hb5.mono hb4.size)
    have hr4 := hr3.below hb5 (Nat.le_refl _)
    have hRi := HRi.out A1 c1 w4 hr4 (HH.out.below hb6)
    clear hPr hb4 hr3 hr4 g0 g1 g2
    obtain ⟨g0, g1, g2, _, _, _⟩ := keep3 hL3 hb5
    clear hb5 hL3
    by_cases hT : 4096 < T.size
    · have hd : decide ((4096 : Int) < (T.size : Int)) = true := decide_eq_true (by omega)
      clear hRi
      go_wp2
      go_ret
      exact ⟨rfl, hb6⟩
    · have hd : decide ((4096 : Int) < (T.size : Int)) = false := decide_eq_false (by omega)
      rw [HR.out (by omega)] at hRi
      go_wp2_with fail
      refine hRi.mono ?_
      rintro e w5 ⟨rfl, hb7⟩
      have hb8 := hb6.trans (hb7.mono hb6.size)
      clear hRi hb6 hb7 g0 g1 g2
      go_wp2
      go_ret
      exact ⟨rfl, hb8⟩
end Go.Proofs.YtejmkijnngkoaaaDoor
