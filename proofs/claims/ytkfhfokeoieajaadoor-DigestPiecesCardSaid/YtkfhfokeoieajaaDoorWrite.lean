/-
  The contract of (*Hash).Write: a hash is told more.
-/
import Derived.Test.YtkfhfokeoieajaaDoorWriteBase
namespace Go.Proofs.YtkfhfokeoieajaaDoor
open Go.RowKit

def lenV : Value → Nat
  | .slice _ n _ => n
  | _ => 0

theorem grown_set {w w' : World} {g : Nat} (h : w.grownBy w' (some g)) (i : Nat) (u : Value) : w.grownBy (w'.setCell ⟨g, i, none⟩ u) (some g) :=
  ⟨h.os, h.tape, h.output, by simpa [World.setCell] using h.size, fun k hk hne => (Below.heap_setCell w' _ u k (by rintro rfl; exact hne rfl)).trans (h.block k hk hne)⟩
theorem grown8 {w w' : World} {g : Nat} {ya yb yc yd ye yf yg yh : Sha.W} (h : w.grownBy w' (some g)) : w.grownBy (set8 w' g ya yb yc yd ye yf yg yh) (some g) :=
  grown_set (grown_set (grown_set (grown_set (grown_set (grown_set (grown_set (grown_set h _ _) _ _) _ _) _ _) _ _) _ _) _ _) _ _
theorem src_at {w : World} {b off : Nat} {q : List Nat} (h : BytesAt w b off q) {i : Nat} {v : Value} (hv : (u8s q)[i]? = some v) : w.cell? ((⟨b, off, none⟩ : Addr).add i) = some v := by
  have hadd : (⟨b, off, none⟩ : Addr).add i = ⟨b, off + i, none⟩ := by unfold Addr.add; split <;> simp_all
  rw [hadd]
  simp only [u8s, List.getElem?_map, Option.map_eq_some_iff] at hv
  obtain ⟨x, hx, rfl⟩ := hv
  exact (h i x hx).2

set_option maxHeartbeats 400000 in
set_option maxRecDepth 100000 in
theorem write_zero (g : Nat) (p q : List Nat) (A : Option Addr) (c : Nat) (w : World) (hT : Tab w) (hH : HashIs w g p) (hq : SliceIs w g A c q) (hg0 : 0 < g) (hn : p.length + q.length < 2305843009213693952) (hm0 : p.length % 64 = 0) :
    Calls Tryd.prog 16 #[.pointer (some ⟨g, 0, none⟩), .slice A q.length c] w fun e w' => e = .returned (.tuple #[]) ∧ HashIs w' g (p ++ q) ∧ w.grownBy w' (some g) := by
  obtain ⟨rest, hL, hr, hrt, hp⟩ := hH
  have Hr := Lib.hid hr
  have Hp := Lib.hid hp
  have hg := hL.lt
  have hqc := hq.1
  have hcm := hq.2.1
  obtain ⟨n, hpn⟩ : ∃ n, p.length = n := ⟨_, rfl⟩
  obtain ⟨l, hql⟩ : ∃ l, q.length = l := ⟨_, rfl⟩
  have Hpn := Lib.hid hpn
  have Hql := Lib.hid hql
  rw [hpn] at hn hL hm0
  rw [hql] at hn hqc ⊢
  obtain ⟨T, hTe⟩ : ∃ T, p ++ q = T := ⟨_, rfl⟩
  have HTe := Lib.hid hTe
  have HT : Hid (T.length = n + l) := by unfold Hid; rw [← hTe, List.length_append, hpn, hql]
  have HTp : Hid (∀ x ∈ p ++ q, x < 256) := fun x hx => by
    rcases List.mem_append.1 hx with hx | hx
    · exact hp x hx
    · exact hq.2.2.1 x hx
  have HT0 : Hid (Sha.mixAll Sha.init p (n / 64) = Sha.mixAll Sha.init T (n / 64)) :=
    Sha.mixAll_cong _ _ _ _ (by rw [← hTe, List.take_append_of_le_length (by omega)])
  have HTz : Hid (T.drop (64 * (n / 64)) = q) := by
    unfold Hid; rw [show 64 * (n / 64) = p.length from by omega, ← hTe]; simp
  clear hr hrt hp hpn hql hTe
  have hc72 : w.cell? ⟨g, 72, none⟩ = some (.int .u64 (n : Int)) := by rw [hL.cell, hash_count _ _ _ Hr.out]
  have hf72 := hL.free 72
  have Hm0 := Lib.hid hm0
  clear hm0
  go_enter Tryd.func16, Tryd.ntmps16
  go_wp2_with fail
  refine (held_any g n _ (by omega) hc72).mono ?_
  rintro e w' ⟨rfl, rfl⟩
  rw [Hm0.out]
  go_wp2_with fail
  generalize hw5 : World.setCell _ _ _ = w5
  have hLw : Lies w5 g 51 (hashCells (Sha.mixAll Sha.init T (n / 64)) rest (n + l)) := by
    rw [← hw5, ← HT0.out, ← hash_setlen _ _ n (n + l) Hr.out]; exact hL.put 72 _
  have hgw : w.grownBy w5 (some g) := by rw [← hw5]; exact grown_set (World.grownBy.refl w _) _ _
  have hTw : Tab w5 := fun t ht => (World.cell?_of_block (hgw.block _ hT.lt (by simp; omega))).trans (hT t ht)
  clear hw5 hL hc72 hf72
  go_loopw [1] (fun v wr => ∃ (j d c' : Nat) (A' : Option Addr) (rest : List Nat) (xa xb xc xd xe xf xg xh : Sha.W), v = .slice A' d c' ∧ d + 64 * j = n + l ∧ SliceIs wr g A' c' (T.drop (64 * j)) ∧
      Sha.mixAll Sha.init T j = ⟨xa, xb, xc, xd, xe, xf, xg, xh⟩ ∧ rest.length = 64 ∧ Lies wr g 51 (hashCells ⟨xa, xb, xc, xd, xe, xf, xg, xh⟩ rest (n + l)) ∧ Tab wr ∧ w.grownBy wr (some g))
    (fun v _ => lenV v)
  case atStart =>
    exact ⟨n / 64, l, c, A, rest, _, _, _, _, _, _, _, _, rfl, by have := Hm0.out; omega, (by rw [HTz.out]; exact hq.grown hgw), rfl, Hr.out, hLw, hTw, hgw⟩
  case round =>
    obtain ⟨j, d, c', A', rest', xa, xb, xc, xd, xe, xf, xg, xh, rfl, hdj, hS, hst, hr', hLr, hTr, hgr⟩ := hrel
    have Hst := Lib.hid hst
    have Hr' := Lib.hid hr'
    have Hdj := Lib.hid hdj
    have hTd : (T.drop (64 * j)).length = d := by rw [List.length_drop, HT.out]; omega
    have HTd := Lib.hid hTd
    have hdc : d ≤ c' := by have := hS.1; rw [hTd] at this; exact this
    have hcm' := hS.2.1
    have hjn : 64 * j ≤ n + l := by omega
    clear hst hr' hTd
    by_cases hlt : 64 ≤ d
    · have hd : decide ((64 : Int) ≤ (d : Int)) = true := by simp; omega
      obtain ⟨b, off, rfl, hbg, hbw, hby⟩ := hS.2.2.2 (by rw [HTd.out]; omega)
      have hby64 := hby.take 64
      have Hl64 : Hid (((T.drop (64 * j)).take 64).length = 64) := by unfold Hid; rw [List.length_take, HTd.out]; omega
      have hc64 : (64 : Int) ≤ (c' : Int) := by omega
      have c0 : wr.cell? ⟨g, 0, none⟩ = some (.int .u32 (xa.toNat : Int)) := hLr.cell 0
      have c1 : wr.cell? ⟨g, 1, none⟩ = some (.int .u32 (xb.toNat : Int)) := hLr.cell 1
      have c2 : wr.cell? ⟨g, 2, none⟩ = some (.int .u32 (xc.toNat : Int)) := hLr.cell 2
      have c3 : wr.cell? ⟨g, 3, none⟩ = some (.int .u32 (xd.toNat : Int)) := hLr.cell 3
      have c4 : wr.cell? ⟨g, 4, none⟩ = some (.int .u32 (xe.toNat : Int)) := hLr.cell 4
      have c5 : wr.cell? ⟨g, 5, none⟩ = some (.int .u32 (xf.toNat : Int)) := hLr.cell 5
      have c6 : wr.cell? ⟨g, 6, none⟩ = some (.int .u32 (xg.toNat : Int)) := hLr.cell 6
      have c7 : wr.cell? ⟨g, 7, none⟩ = some (.int .u32 (xh.toNat : Int)) := hLr.cell 7
      clear hdj
      go_wp2_with fail
      go_region_with (go_at_call 26; refine (mix_lit ⟨xa, xb, xc, xd, xe, xf, xg, xh⟩ b off 64 _ ((T.drop (64 * j)).take 64) _ (by exact hTr) (by omega) (by omega) (by omega) Hl64.out (by exact hbw) (by exact hby64)).mono ?_; rintro e w4 ⟨ya, yb, yc, yd, ye, yf, yg, yh, rfl, Hm, hb1⟩; have hX1 := Lies.below (by exact hLr) hb1 (by exact hLr.lt); have d0 : w4.cell? ⟨g, 0, none⟩ = some (.int .u32 (xa.toNat : Int)) := hX1.cell 0; have f0 := hX1.free 0; have d1 : w4.cell? ⟨g, 1, none⟩ = some (.int .u32 (xb.toNat : Int)) := hX1.cell 1; have f1 := hX1.free 1; have d2 : w4.cell? ⟨g, 2, none⟩ = some (.int .u32 (xc.toNat : Int)) := hX1.cell 2; have f2 := hX1.free 2; have d3 : w4.cell? ⟨g, 3, none⟩ = some (.int .u32 (xd.toNat : Int)) := hX1.cell 3; have f3 := hX1.free 3; have d4 : w4.cell? ⟨g, 4, none⟩ = some (.int .u32 (xe.toNat : Int)) := hX1.cell 4; have f4 := hX1.free 4; have d5 : w4.cell? ⟨g, 5, none⟩ = some (.int .u32 (xf.toNat : Int)) := hX1.cell 5; have f5 := hX1.free 5; have d6 : w4.cell? ⟨g, 6, none⟩ = some (.int .u32 (xg.toNat : Int)) := hX1.cell 6; have f6 := hX1.free 6; have d7 : w4.cell? ⟨g, 7, none⟩ = some (.int .u32 (xh.toNat : Int)) := hX1.cell 7; have f7 := hX1.free 7)
      clear c0 d0 f0 c1 d1 f1 c2 d2 f2 c3 d3 f3 c4 d4 f4 c5 d5 f5 c6 d6 f6 c7 d7 f7
      have hg4 : wr.grownBy w4 (some g) := ⟨hb1.os, hb1.tape, hb1.output, hb1.size, fun i hi _ => hb1.block i hi⟩
      clear hb1
      have hT4 : Tab (set8 w4 g ya yb yc yd ye yf yg yh) := fun t ht => (World.cell?_of_block ((grown8 hg4).block _ hTr.lt (by simp; omega))).trans (hTr t ht)
      by_cases hcc : c' = 64
      · have hcc1 : (c' == 64) = true := by simp [hcc]
        go_wp2
        go_roundw
        case rel =>
          refine ⟨j + 1, d - 64, 0, _, rest', ya, yb, yc, yd, ye, yf, yg, yh, rfl, by have := Hdj.out; omega, ?_, ?_, Hr'.out, put8 hX1, hT4, hgr.trans (grown8 hg4)⟩
          · have : T.drop (64 * (j + 1)) = [] := by apply List.drop_eq_nil_of_le; rw [HT.out]; have := Hdj.out; omega
            rw [this]; exact SliceIs.none_ (by omega)
          · rw [Sha.mixAll, Hst.out]; exact Hm.out
        case measure => simp [lenV]; omega
      · go_wp2
        go_roundw
        case rel =>
          refine ⟨j + 1, d - 64, c' - 64, _, rest', ya, yb, yc, yd, ye, yf, yg, yh, rfl, by have := Hdj.out; omega, ?_, ?_, Hr'.out, put8 hX1, hT4, hgr.trans (grown8 hg4)⟩
          · have := (hS.at_ 64).grown (grown8 (ya := ya) (yb := yb) (yc := yc) (yd := yd) (ye := ye) (yf := yf) (yg := yg) (yh := yh) hg4)
            rw [List.drop_drop, show 64 * j + 64 = 64 * (j + 1) from by omega] at this
            exact this
          · rw [Sha.mixAll, Hst.out]; exact Hm.out
        case measure => simp [lenV]; omega
    · have hd : decide ((64 : Int) ≤ (d : Int)) = false := by simp; omega
      clear hdj
      go_upto_region 10 with (fail)
      repeat ((fail_if_success (with_reducible show wpList _ _ _ (⟨some 66, _, _, _, _, _⟩ :: _) _ _)); first | go_values | go_skip | go_guarded | go_step | go_upon | go_back | go_simp)
      with_reducible refine copy_lies rfl (.tmp 64) (.tmp 65) 22 22 rfl 5 Tryd.underlying22 info5 g 8 _ 51 hLr (u8s (T.drop (64 * j))) (some ⟨g, 8, none⟩) A' 64 64 d c' ?hd ?hs ?hn ?hp ?hf ?h1 ?_
      case hd => rfl
      case hs => rfl
      case hn => (rw [u8s_length, HTd.out]; exact (Nat.min_eq_left (by omega)).symm)
      case hp =>
        intro hpos
        rw [u8s_length] at hpos
        obtain ⟨b, off, rfl, hbg, hbw, hby⟩ := hS.2.2.2 hpos
        exact ⟨rfl, ⟨b, off, none⟩, rfl, fun i v hv => src_at hby hv⟩
      case hf => rw [u8s_length, HTd.out, hash_len _ _ _ Hr'.out]; omega
      case h1 => exact u8s_one _
      intro w7 hL7 hg7
      rw [show 8 = 8 + 0 from rfl, hash_copy _ _ _ _ _ Hr'.out (by rw [HTd.out]; omega)] at hL7
      go_frame
      go_wp2
      go_end0
      refine ⟨rfl, ⟨splice rest' 0 (T.drop (64 * j)), ?_, ?_, ?_, ?_⟩, hgr.trans hg7⟩
      · rw [HTe.out, HT.out, show (n + l) / 64 = j from by have := Hdj.out; omega, Hst.out]; exact hL7
      · rw [length_splice _ _ _ (by rw [HTd.out, Hr'.out]; omega)]; exact Hr'.out
      · rw [HTe.out, HT.out, show (n + l) / 64 = j from by have := Hdj.out; omega, show (n + l) % 64 = (T.drop (64 * j)).length from by rw [HTd.out]; have := Hdj.out; omega]
        simp [splice]
      · exact HTp.out
end Go.Proofs.YtkfhfokeoieajaaDoor
