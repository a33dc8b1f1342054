/-
  The walk of the law DigestPieces.
-/
import Derived.Test.YtkfhfokeoieajaaDoorLawKeeps
namespace Go.Proofs.YtkfhfokeoieajaaDoor
open Go.RowKit

theorem hash_grown {w w' : World} {g : Nat} {p : List Nat} {row : Option Nat} (h : HashIs w g p) (hb : w.grownBy w' row) (hg : some g ≠ row) : HashIs w' g p := by
  obtain ⟨rest, hL, r⟩ := h
  exact ⟨rest, hL.grown hb hg, r⟩
theorem slice_of_arg {w w' : World} {g : Nat} {A : Option Addr} {c : Nat} {q : List Nat} (h : ArgIs w A c q) (hb : Below w.heap.size w w') (hg : w.heap.size ≤ g) : SliceIs w' g A c q := by
  refine ⟨h.1, h.2.1, h.2.2.1, fun hp => ?_⟩
  obtain ⟨b, off, rfl, hlt, hby⟩ := h.2.2.2 hp
  exact ⟨b, off, rfl, by omega, Nat.lt_of_lt_of_le hlt hb.size, hby.below hb hlt⟩
/-- A row of pieces that came in. -/
def PiecesIs (w : World) (A : Option Addr) (n c : Nat) : Prop :=
  n ≤ c ∧ c ≤ 9223372036854775807 ∧ (0 < n → ∃ b off, A = some ⟨b, off, none⟩ ∧ b < w.heap.size ∧
    ∀ r, r < n → ∃ Ar Cr q, w.cell? ⟨b, off + r, none⟩ = some (.slice Ar (List.length q) Cr) ∧ ArgIs w Ar Cr q)

set_option maxHeartbeats 600000 in
set_option maxRecDepth 100000 in
theorem lawPieces (n c : Nat) (A : Option Addr) (w : World) (hT : Tab w) (hP : PiecesIs w A n c) :
    Calls Tryd.prog 6 #[.slice A n c] w fun e w' => e = .returned (.bool true) ∧ Below w.heap.size w w' := by
  have HP := Lib.hid hP
  clear hP
  go_enter Tryd.func6, Tryd.ntmps6
  go_wp2_with fail
  refine (new_any w).mono ?_
  rintro e w1 ⟨g, rfl, hg, hL1, hb1⟩
  have hH1 := hash_new hL1
  clear hL1
  go_wp2_with fail
  refine (alive_any w1 (hT.below hb1 hT.lt)).mono ?_
  rintro e w2 ⟨rfl, hb2⟩
  have hH2 := hash_below hH1 hb2
  have hbw2 : Below w.heap.size w w2 := hb1.trans (hb2.mono hb1.size)
  have hg2 := hash_lt hH2
  clear hH1 hb1 hb2
  go_wp2_with fail
  go_loopw [4, 16] (fun v i wr => ∃ (j N : Nat) (X : List Nat), j ≤ n ∧ j ≤ 61 ∧ i = .int .i64 j ∧ X.length = N ∧ N ≤ j * 4096 ∧ (∀ x ∈ X, x < 256) ∧ wr.ownsRow w2.heap.size 5 1 v N (u8s X) ∧ HashIs wr g X ∧ w2.heap.size ≤ wr.heap.size ∧ Below w.heap.size w wr) (fun _ i _ => n - (intOf i).toNat)
  case atStart => exact ⟨0, 0, [], Nat.zero_le _, Nat.zero_le _, rfl, rfl, Nat.zero_le _, (fun x hx => by cases hx), World.ownsRow_nil _ _ _ _, hH2, Nat.le_refl _, hbw2⟩
  case round =>
    clear hH2 hbw2
    obtain ⟨j, N, X, hj, hj61, rfl, hX, hN, hXlt, hown, hH, hsz, hb⟩ := hrel
    by_cases hlt : j < n
    · have hd : decide ((j : Int) < (n : Int)) = true := by simp; omega
      obtain ⟨b, off, rfl, hbw, hcells⟩ := HP.out.2.2 (by omega)
      obtain ⟨Ar, Cr, p, hcell, harg⟩ := hcells j hlt
      have hc := (hb.cell (p := ⟨b, off + j, none⟩) hbw).trans hcell
      have hsl := Lib.hid (slice_of_arg harg hb hg)
      have HA := Lib.hid harg
      have Hplt := Lib.hid harg.2.2.1
      obtain ⟨m, hm⟩ : ∃ m, p.length = m := ⟨_, rfl⟩
      rw [hm] at hc
      have Hm := Lib.hid hm
      have HX := Lib.hid hX
      have HXlt := Lib.hid hXlt
      have k1 : (j : Int) < (n : Int) := by omega
      clear hm hX hXlt hcells hcell harg
      by_cases hbig : 4096 < m
      · have hd1 : decide ((4096 : Int) < (m : Int)) = true := by simp; omega
        go_wp2
        go_ret
        exact ⟨rfl, hb⟩
      · have hd1 : decide ((4096 : Int) < (m : Int)) = false := by simp; omega
        by_cases hmany : 60 < j
        · have hd2 : decide ((60 : Int) < (j : Int)) = true := by simp; omega
          go_wp2
          go_ret
          exact ⟨rfl, hb⟩
        · have hd2 : decide ((60 : Int) < (j : Int)) = false := by simp; omega
          have cW := write_any g X p Ar Cr wr (hT.below hb hT.lt) hH hsl.out (by have := hT.lt; omega) (by rw [HX.out, Hm.out]; omega)
          rw [Hm.out] at cW
          have CW := Lib.hid cW
          clear cW
          go_wp2_with fail
          clear hd hd1 hd2 hc
          refine CW.out.mono ?_
          rintro e w3 ⟨rfl, hH3, hgr3⟩
          have hown3 := hown.kept hgr3 (by
            rcases hv : Value.ownBlock _ with _ | b
            · exact .inl rfl
            · have := (hown.lt b hv).1
              exact .inr (fun e => by injection e with e; omega))
          have hb3 : Below w.heap.size w w3 := hb.grown hgr3 hb.size (fun b e => by injection e with e; omega)
          have hsz3 : w2.heap.size ≤ w3.heap.size := Nat.le_trans hsz hgr3.size
          have harg3 := HA.out.below hb3 (Nat.le_refl _)
          clear hgr3 hown hH hb hsz CW
          go_upto_region 11 with (fail)
          repeat ((fail_if_success (with_reducible show wpList _ _ _ (⟨some 33, _, _, _, _, _⟩ :: _) _ _)); first | go_values | go_skip | go_guarded | go_step | go_upon | go_back | go_simp)
          with_reducible refine append_arg rfl (.tmp 31) (.tmp 32) rfl w2.heap.size _ N _ Ar Cr p hown3 harg3 ?s1 ?s2 ?s3 ?s4 ?_
          case s1 => rfl
          case s2 => rw [Hm.out]; rfl
          case s3 => rw [Hm.out]; omega
          case s4 => exact hsz3
          intro v4 w4 hown4 hgr4
          have hb4 : Below w.heap.size w w4 := hb3.grown hgr4 hb3.size (fun b e => by have := own_u8_ge hown3 b e; omega)
          have hH4 := hash_grown hH3 hgr4 (fun e => by have := own_u8_ge hown3 g e.symm; omega)
          have hsz4 : w2.heap.size ≤ w4.heap.size := Nat.le_trans hsz3 hgr4.size
          rw [← u8s_append, Hm.out] at hown4
          have HY : Hid ((X ++ p).length = N + m) := by unfold Hid; rw [List.length_append, HX.out, Hm.out]
          have HYlt : Hid (∀ x ∈ X ++ p, x < 256) := fun x hx => (List.mem_append.1 hx).elim (HXlt.out x) (Hplt.out x)
          obtain ⟨Y, hY⟩ : ∃ Y, X ++ p = Y := ⟨_, rfl⟩
          rw [hY] at HY HYlt hown4 hH4
          obtain ⟨M, hM⟩ : ∃ M, N + m = M := ⟨_, rfl⟩
          rw [hM] at HY hown4
          have hM2 : M ≤ (j + 1) * 4096 := by omega
          obtain ⟨A4, c4, rfl⟩ := own_slice hown4
          clear hgr4 hown3 hH3 hb3 harg3 hsz3 hM hY HX HXlt Hm Hplt HA hsl
          have cS := hashSum_any g Y w4 (hT.below hb4 hT.lt) hH4 (by rw [HY.out]; omega)
          have CS := Lib.hid cS
          clear cS
          go_frame
          go_wp2_with fail
          refine CS.out.mono ?_
          rintro e w5 ⟨rfl, hb5⟩
          have hown5 := own_below hown4 hb5
          have hH5 := hash_below hH4 hb5
          have hbw5 : Below w.heap.size w w5 := hb4.trans (hb5.mono hb4.size)
          have hsz5 := Nat.le_trans hsz4 hb5.size
          obtain ⟨_, harg5⟩ := own_arg hown5 HYlt.out
          have cR := refSum_any Y A4 c4 w5 harg5 (by rw [HY.out]; omega)
          rw [HY.out] at cR
          have CR := Lib.hid cR
          clear cR CS hb5 hown4 hH4 hb4 hsz4 harg5
          go_wp2_with fail
          refine CR.out.mono ?_
          rintro e w6 ⟨rfl, hb6⟩
          have hown6 := own_below hown5 hb6
          have hH6 := hash_below hH5 hb6
          have hbw6 : Below w.heap.size w w6 := hbw5.trans (hb6.mono hbw5.size)
          have hsz6 := Nat.le_trans hsz5 hb6.size
          have he := eq_digest (Sha.sum Y) (Sha.sum_length _)
          obtain ⟨D, hD⟩ : ∃ D, u8s (Sha.sum Y) = D := ⟨_, rfl⟩
          rw [hD] at he ⊢
          clear hD CR hb6 hown5 hH5 hbw5 hsz5
          go_wp2
          go_roundw
          case rel => exact ⟨j + 1, M, Y, by omega, by omega, by go_num, HY.out, hM2, HYlt.out, hown6, hH6, hsz6, hbw6⟩
          case measure => simp [intOf]; omega
    · have hd : decide ((j : Int) < (n : Int)) = false := by simp; omega
      have HX := Lib.hid hX
      have HXlt := Lib.hid hXlt
      obtain ⟨A4, c4, e4⟩ := own_slice hown
      subst e4
      have cS := hashSum_any g X wr (hT.below hb hT.lt) hH (by rw [HX.out]; omega)
      have CS := Lib.hid cS
      clear cS hX hXlt
      go_wp2_with fail
      refine CS.out.mono ?_
      rintro e w5 ⟨rfl, hb5⟩
      have hown5 := own_below hown hb5
      have hbw5 : Below w.heap.size w w5 := hb.trans (hb5.mono hb.size)
      obtain ⟨_, harg5⟩ := own_arg hown5 HXlt.out
      have cR := refSum_any X A4 c4 w5 harg5 (by rw [HX.out]; omega)
      rw [HX.out] at cR
      have CR := Lib.hid cR
      clear cR CS hb5 hown hH hb harg5 hd hown5
      go_wp2_with fail
      refine CR.out.mono ?_
      rintro e w6 ⟨rfl, hb6⟩
      have hbw6 : Below w.heap.size w w6 := hbw5.trans (hb6.mono hbw5.size)
      have he := eq_digest (Sha.sum X) (Sha.sum_length _)
      obtain ⟨D, hD⟩ : ∃ D, u8s (Sha.sum X) = D := ⟨_, rfl⟩
      rw [hD] at he ⊢
      clear hD CR hb6 hbw5
      go_wp2
      go_ret
      exact ⟨rfl, hbw6⟩
end Go.Proofs.YtkfhfokeoieajaaDoor
