/-
  The walks of the laws PairsEscapes, PairsUnescapes, PairsBack, PairsParses, PairsGets.
-/
import Derived.Test.YticepagkbebhbaaDoorPAlive
import Derived.Test.YticepagkbebhbaaDoorPRefE
import Derived.Test.YticepagkbebhbaaDoorPRefS
import Derived.Test.YticepagkbebhbaaDoorPSame
import Derived.Test.YticepagkbebhbaaDoorPGet
namespace Go.Proofs.YticepagkbebhbaaDoor
open Go.RowKit

set_option maxHeartbeats 400000 in
set_option maxRecDepth 100000 in
theorem lawEscapes (s : ByteArray) (w : World) (hs : s.size ≤ 1048576) :
    Calls Tryd.prog 3 #[.string s] w fun e w' => e = .returned (.bool true) ∧ Below w.heap.size w w' := by
  have hE := fun w => escape_any s w (by omega)
  have hR := fun w => refEscape_any s w (by omega)
  obtain ⟨E, eE⟩ : ∃ E, strOf (Pq.es (numsOf s)) = E := ⟨_, rfl⟩
  rw [eE] at hE hR
  clear eE
  go_enter Tryd.func3, Tryd.ntmps3
  go_wp2_with fail
  refine (alive_any w).mono ?_
  rintro e w1 ⟨rfl, hb1⟩
  go_wp2_with fail
  refine (hE w1).mono ?_
  rintro e w2 ⟨rfl, hb2⟩
  have hb02 := hb1.trans (hb2.mono hb1.size)
  clear hb1 hb2
  go_wp2_with fail
  refine (hR w2).mono ?_
  rintro e w3 ⟨rfl, hb3⟩
  have hb03 := hb02.trans (hb3.mono hb02.size)
  clear hb02 hb3 hE hR
  go_wp2
  go_ret
  exact ⟨rfl, hb03⟩

set_option maxHeartbeats 400000 in
set_option maxRecDepth 100000 in
theorem lawUnescapes (s : ByteArray) (plus : Bool) (w : World) (hs : s.size ≤ 140737488351232) :
    Calls Tryd.prog 4 #[.string s, .bool plus] w fun e w' => e = .returned (.bool true) ∧ Below w.heap.size w w' := by
  have hE := fun w => unescape_any s plus w hs
  have hR := fun w => refUnescape_any s plus w hs
  unfold UnEnd at hE hR
  obtain ⟨E, eE⟩ : ∃ E, strOf ((Pq.un plus (numsOf s)).getD []) = E := ⟨_, rfl⟩
  obtain ⟨B, eB⟩ : ∃ B, (Pq.un plus (numsOf s)).isSome = B := ⟨_, rfl⟩
  rw [eE, eB] at hE hR
  clear eE eB
  go_enter Tryd.func4, Tryd.ntmps4
  go_wp2_with fail
  refine (hE w).mono ?_
  rintro e w1 ⟨rfl, hb1⟩
  go_wp2_with fail
  refine (hR w1).mono ?_
  rintro e w2 ⟨rfl, hb2⟩
  have hb02 := hb1.trans (hb2.mono hb1.size)
  clear hb1 hb2 hE hR
  go_wp2_with fail
  refine (alive_any w2).mono ?_
  rintro e w3 ⟨rfl, hb3⟩
  have hb03 := hb02.trans (hb3.mono hb02.size)
  clear hb02 hb3
  go_wp2
  go_ret
  exact ⟨rfl, hb03⟩

set_option maxHeartbeats 400000 in
set_option maxRecDepth 100000 in
theorem lawBack (s : ByteArray) (plus : Bool) (w : World) (hs : s.size ≤ 1048576) :
    Calls Tryd.prog 5 #[.string s, .bool plus] w fun e w' => e = .returned (.bool true) ∧ Below w.heap.size w w' := by
  have hE := escape_any s w (by omega)
  have hU := fun w => unescape_any (strOf (Pq.es (numsOf s))) plus w (by rw [strOf_size]; have := Pq.es_length (numsOf s); rw [numsOf_length] at this; omega)
  unfold UnEnd at hU
  simp only [numsOf_strOf (Pq.es_lt (numsOf_lt s)), Pq.un_es plus _ (numsOf_lt s), Option.getD_some, Option.isSome_some, strOf_numsOf] at hU
  obtain ⟨E, eE⟩ : ∃ E, strOf (Pq.es (numsOf s)) = E := ⟨_, rfl⟩
  rw [eE] at hE hU
  clear eE
  go_enter Tryd.func5, Tryd.ntmps5
  go_wp2_with fail
  refine hE.mono ?_
  rintro e w1 ⟨rfl, hb1⟩
  go_wp2_with fail
  refine (hU w1).mono ?_
  rintro e w2 ⟨rfl, hb2⟩
  have hb02 := hb1.trans (hb2.mono hb1.size)
  clear hb1 hb2 hE hU
  go_wp2_with fail
  refine (alive_any w2).mono ?_
  rintro e w3 ⟨rfl, hb3⟩
  have hb03 := hb02.trans (hb3.mono hb02.size)
  clear hb02 hb3
  go_wp2
  go_ret
  exact ⟨rfl, hb03⟩

theorem parse_fine {S : List Nat} (hS : ∀ x ∈ S, x < 256) : Pq.Fine ((Pq.parse S).getD []) := by
  cases h : Pq.parse S with
  | none => intro p hp; cases hp
  | some Y =>
    unfold Pq.parse at h
    split at h
    · cases h
    · split at h
      · cases h; intro p hp; cases hp
      · split at h
        · cases h
        · have main : ∀ (P : List (List Nat)), (∀ q ∈ P, ∀ x ∈ q, x < 256) → ∀ Y, Pq.pairsOf P = some Y → Pq.Fine Y := by
            intro P
            induction P with
            | nil => intro _ Y hY; rw [Pq.pairsOf] at hY; cases hY; intro p hp; cases hp
            | cons q P ih =>
              intro hq Y hY
              rw [Pq.pairsOf] at hY
              split at hY
              · rename_i x y hx hy
                cases hY
                intro p hp
                rcases List.mem_cons.1 hp with rfl | hp
                · unfold Pq.pair at hx
                  split at hx
                  · rename_i a b ha hb
                    cases hx
                    exact ⟨(Pq.un_lt true _ _ _ (Nat.le_refl _) (fun z hz => hq q (by simp) z (List.mem_of_mem_take (by rw [Pq.front_take]; exact hz))) ha).1, (Pq.un_lt true _ _ _ (Nat.le_refl _) (fun z hz => hq q (by simp) z (List.mem_of_mem_drop hz)) hb).1⟩
                  · cases hx
                · exact ih (fun r hr => hq r (List.mem_cons_of_mem _ hr)) _ hy p hp
              · cases hY
          exact main _ (fun q hq x hx => hS x ((Pq.parts_mem hq).2 x hx)) _ h
theorem parse_len (S : List Nat) : ((Pq.parse S).getD []).length ≤ 1048576 := by
  cases h : Pq.parse S with
  | none => exact Nat.zero_le _
  | some Y => have := Pq.parse_length h; show Y.length ≤ _; omega

set_option maxHeartbeats 400000 in
set_option maxRecDepth 100000 in
theorem lawParses (s : ByteArray) (w : World) (hs : s.size ≤ 140737488351232) :
    Calls Tryd.prog 6 #[.string s] w fun e w' => e = .returned (.bool true) ∧ Below w.heap.size w w' := by
  have hE := parse_any s w hs
  have hR := fun w => refParse_any s w hs
  have hf := parse_fine (numsOf_lt s)
  have hl := parse_len (numsOf s)
  unfold ParseEnd at hE
  obtain ⟨Y, eY⟩ : ∃ Y, (Pq.parse (numsOf s)).getD [] = Y := ⟨_, rfl⟩
  obtain ⟨B, eB⟩ : ∃ B, (Pq.parse (numsOf s)).isSome = B := ⟨_, rfl⟩
  simp only [eY, eB] at hE hR hf hl
  have hS := fun A B cA cB w hA hB => same_any Y Y A B cA cB w hA hB hf hf hl
  rw [decide_eq_true rfl] at hS
  obtain ⟨n, en⟩ : ∃ n, Y.length = n := ⟨_, rfl⟩
  simp only [en] at hE hR hS
  have HS := Lib.hid hS
  clear eY eB en hf hS
  go_enter Tryd.func6, Tryd.ntmps6
  go_wp2_with fail
  refine hE.mono ?_
  rintro e w1 ⟨A, c, rfl, hr1, _, _, hb1⟩
  go_wp2_with fail
  refine (hR w1).mono ?_
  rintro e w2 ⟨A2, c2, rfl, hr2, hb2⟩
  have hr12 := hr1.below hb2 (Nat.le_refl _)
  have hb02 := hb1.trans (hb2.mono hb1.size)
  clear hb1 hb2 hE hR hr1
  go_wp2_with fail
  refine (alive_any w2).mono ?_
  rintro e w3 ⟨rfl, hb3⟩
  have hr13 := hr12.below hb3 (Nat.le_refl _)
  have hr23 := hr2.below hb3 (Nat.le_refl _)
  have hb03 := hb02.trans (hb3.mono hb02.size)
  clear hb02 hb3 hr12 hr2
  go_wp2_with fail
  refine (HS.out A A2 c c2 w3 hr13 hr23).mono ?_
  rintro e w4 ⟨rfl, hb4⟩
  have hb04 := hb03.trans (hb4.mono hb03.size)
  clear hb03 hb4 hr13 hr23
  go_wp2
  go_ret
  exact ⟨rfl, hb04⟩

set_option maxHeartbeats 400000 in
set_option maxRecDepth 100000 in
theorem lawGets (L : List (List Nat × List Nat)) (nm : List Nat) (A : Option Addr) (c : Nat) (w : World) (hA : Row w A (pcells L)) (hL : Pq.Fine L) (hnm : ∀ x ∈ nm, x < 256) (hn : L.length ≤ 140737488355328) :
    Calls Tryd.prog 9 #[.slice A L.length c, .string (strOf nm)] w fun e w' => e = .returned (.bool true) ∧ Below w.heap.size w w' := by
  have hE := get_any L nm A c w hA hL hnm hn
  have hR := fun w' (h : Row w' A (pcells L)) => refGet_any L nm A c w' h hL hnm hn
  unfold GetEnd at hE hR
  have hm := Pq.many_le L nm
  obtain ⟨E, eE⟩ : ∃ E, strOf (Pq.first L nm) = E := ⟨_, rfl⟩
  obtain ⟨m, em⟩ : ∃ m, Pq.many L nm = m := ⟨_, rfl⟩
  obtain ⟨n, en⟩ : ∃ n, L.length = n := ⟨_, rfl⟩
  obtain ⟨N, eN⟩ : ∃ N, strOf nm = N := ⟨_, rfl⟩
  rw [eE, em, en, eN] at hE
  simp only [eE, em, en, eN] at hR
  rw [en, eN]
  clear eE em en eN hm hnm hn
  have HR := Lib.hid hR
  clear hR
  go_enter Tryd.func9, Tryd.ntmps9
  go_wp2_with fail
  refine hE.mono ?_
  rintro e w1 ⟨rfl, hb1⟩
  have hA1 := hA.below hb1 (Nat.le_refl _)
  clear hE hA
  go_wp2_with fail
  refine (HR.out w1 hA1).mono ?_
  rintro e w2 ⟨rfl, hb2⟩
  have hb02 := hb1.trans (hb2.mono hb1.size)
  clear hb1 hb2 HR hA1
  go_wp2_with fail
  refine (alive_any w2).mono ?_
  rintro e w3 ⟨rfl, hb3⟩
  have hb03 := hb02.trans (hb3.mono hb02.size)
  clear hb02 hb3
  go_wp2
  go_ret
  exact ⟨rfl, hb03⟩
end Go.Proofs.YticepagkbebhbaaDoor
