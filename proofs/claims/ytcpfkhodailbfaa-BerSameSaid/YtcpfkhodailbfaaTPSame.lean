/-
  The program's Same, of all elements.
-/
import Derived.Test.YtcpfkhodailbfaaTPSmall
namespace Go.Proofs.Ytcpfkhodailbfaa
open Go.RowKit

/-- That two elements are told apart by the program's Same, of which the first is this. -/
def SameOk (x : Bq.T) : Prop := ∀ (ok ok' : Nat → Prop) (v u : Value) (y : Bq.T) (w : World), IsT w ok v x → IsT w ok' u y →
  Calls Try.prog 22 #[v, u] w (Tells (x = y) w)

set_option maxHeartbeats 4000000 in
set_option maxRecDepth 100000 in
theorem equalFunc_any {ok ok' : Nat → Prop} (l m : List Bq.T) (ih : ∀ x ∈ l, SameOk x) (lv mv : Value) (w : World) (hL : ListIs w ok lv l) (hM : ListIs w ok' mv m) :
    Calls Try.prog 32 #[lv, mv, .func (.func 22) #[] #[]] w (Tells (l = m) w) := by
  obtain ⟨A0, c0, rfl⟩ := hL.form
  obtain ⟨A9, c9, rfl⟩ := hM.form
  by_cases hlen : l.length = m.length
  · obtain ⟨N, eN⟩ : ∃ N, l.length = N := ⟨_, rfl⟩
    have eN2 : m.length = N := by rw [← hlen, eN]
    have hNs : N ≤ 140737488355328 := by
      have := hL.len
      omega
    have HL := Lib.hid hL
    have HM := Lib.hid hM
    have HN := Lib.hid eN
    have HN2 := Lib.hid eN2
    have HI := Lib.hid ih
    have hd0 : ((N : Int) != (N : Int)) = false := by simp
    rw [eN, eN2]
    rw [eN] at HL
    rw [eN2] at HM
    clear eN eN2 hL hM hlen ih
    go_enter Try.func32, Try.ntmps32
    go_wp2_with fail
    go_loopw [17] (fun i wr => ∃ k : Nat, i = .int .i64 k ∧ k ≤ N ∧ Hid (l.take k = m.take k) ∧ Below w.heap.size w wr) (fun i _ => N - (intOf i).toNat)
    case atStart => exact ⟨0, rfl, Nat.zero_le _, Lib.hid rfl, Below.refl _ _⟩
    case round =>
      obtain ⟨k, rfl, hk, he, hb⟩ := hrel
      by_cases hlt : k < N
      · obtain ⟨b, off, x, B1, e1, B2, e2, rfl, hbb, hblt, hx, hJ, s0, s1, s2⟩ := (HL.out.on hb).elem (by rw [HN.out]; exact hlt)
        obtain ⟨b', off', y, B3, e3, B4, e4, rfl, hbb', hblt', hy, hK, t0, t1, t2⟩ := (HM.out.on hb).elem (by rw [HN2.out]; exact hlt)
        have hbA : ∀ o o', Below wr.heap.size wr ((wr.alloc o).alloc o') := fun o o' => ((Below.refl _ _).alloc (Nat.le_refl _) o).alloc (by simp) o'
        have hS := HI.out x (List.mem_of_getElem? hx) ok ok' _ _ y _
          (hJ.on (hbA (.cells #[.int .u8 (x.tag : Int), .slice B1 x.bytes.length e1, .slice B2 x.list.length e2] 25) (.cells #[.int .u8 (y.tag : Int), .slice B3 y.bytes.length e3, .slice B4 y.list.length e4] 25)))
          (hK.on (hbA _ _))
        have hb2 := hb.trans ((hbA (.cells #[.int .u8 (x.tag : Int), .slice B1 x.bytes.length e1, .slice B2 x.list.length e2] 25) (.cells #[.int .u8 (y.tag : Int), .slice B3 y.bytes.length e3, .slice B4 y.list.length e4] 25)).mono hb.size)
        have HX := Lib.hid hx
        have HY := Lib.hid hy
        clear hx hy hJ hK hb hbA
        go_wp2_with fail
        refine hS.mono ?_
        rintro e w2 ⟨hb3, ⟨hq, rfl⟩ | ⟨hq, rfl⟩⟩
        · have HQ : Hid (∃ k' : Nat, Value.int .i64 ((k + 1 : Nat) : Int) = .int .i64 k' ∧ k' ≤ N ∧ Hid (l.take k' = m.take k') ∧ Below w.heap.size w w2) := ⟨k + 1, rfl, hlt, Lib.hid (take_same he.out HX.out HY.out hq), below_more hb2 hb3⟩
          clear hS hb3 hb2 hq s0 s1 s2 t0 t1 t2
          go_wp2
          go_roundw
          case rel => exact HQ.out
          case measure => simp [intOf]; omega
        · have HQ : Hid (Tells (l = m) w (.returned (.bool false)) w2) := Tells.no (fun h => hq (by
            have h1 := HX.out
            rw [h] at h1
            exact Option.some.inj (h1.symm.trans HY.out))) (below_more hb2 hb3)
          clear hS hb3 hb2 hq s0 s1 s2 t0 t1 t2
          go_wp2
          go_ret
          exact HQ.out
      · obtain rfl : k = N := by omega
        have hd2 : decide ((k : Int) < (k : Int)) = false := by simp
        have HQ : Hid (Tells (l = m) w (.returned (.bool true)) wr) := Tells.yes (by
          have := he.out
          rwa [List.take_of_length_le (by rw [HN.out]; exact Nat.le_refl _), List.take_of_length_le (by rw [HN2.out]; exact Nat.le_refl _)] at this) hb
        clear he hb
        go_wp2
        go_ret
        exact HQ.out
  · have hd0 : ((l.length : Int) != (m.length : Int)) = true := by rw [bne_iff_ne]; omega
    have HQ : Hid (Tells (l = m) w (.returned (.bool false)) w) := Tells.no (fun h => hlen (by rw [h])) (Below.refl _ _)
    clear hlen hL hM
    go_enter Try.func32, Try.ntmps32
    go_wp2
    go_ret
    exact HQ.out

set_option maxHeartbeats 4000000 in
set_option maxRecDepth 100000 in
theorem same_step (x : Bq.T) (ih : ∀ z ∈ x.list, SameOk z) : SameOk x := by
  intro ok ok' v u y w hJ hK
  obtain ⟨bv, lv, rfl, hta, hB, hbt, hL⟩ := hJ.parts
  obtain ⟨bu, lu, rfl, hta', hB', hbt', hL'⟩ := hK.parts
  obtain ⟨A0, c0, rfl⟩ := hL.form
  obtain ⟨A9, c9, rfl⟩ := hB.form
  obtain ⟨B0, d0, rfl⟩ := hL'.form
  obtain ⟨B9, d9, rfl⟩ := hB'.form
  have HBW : Hid (∀ o o', Below w.heap.size w ((w.alloc o).alloc o')) := fun o o' => ((Below.refl _ _).alloc (Nat.le_refl _) o).alloc (by simp) o'
  have NE : Hid (∀ (P : Prop), (x = y → P) → ¬ P → ∀ o o', Tells (x = y) w (.returned (.bool false)) ((w.alloc o).alloc o')) := fun P h hn o o' => Tells.no (fun e => hn (h e)) (HBW.out o o')
  clear hJ hK
  by_cases h1 : x.tag = y.tag
  rotate_left
  · have d1 : ((x.tag : Int) == (y.tag : Int)) = false := by rw [beq_eq_false_iff_ne]; omega
    have HQ := Lib.hid (NE.out _ (fun e => by rw [e]) h1)
    clear h1 hB hB' hL hL' hbt hbt' hta hta'
    go_enter Try.func22, Try.ntmps22
    go_wp2
    go_ret
    exact HQ.out _ _
  have d1 : ((x.tag : Int) == (y.tag : Int)) = true := by rw [h1]; simp
  obtain ⟨W, eW⟩ : ∃ W, W = (w.alloc (.cells #[.int .u8 (x.tag : Int), .slice A9 x.bytes.length c9, .slice A0 x.list.length c0] 25)).alloc (.cells #[.int .u8 (y.tag : Int), .slice B9 y.bytes.length d9, .slice B0 y.list.length d0] 25) := ⟨_, rfl⟩
  have hbW : Below w.heap.size w W := by rw [eW]; exact HBW.out _ _
  have HL1 : Hid (Lies W w.heap.size 25 [.int .u8 (x.tag : Int), .slice A9 x.bytes.length c9, .slice A0 x.list.length c0]) := by unfold Hid; rw [eW]; exact (Lies.new_ rfl).alloc _
  have HL2 : Hid (Lies W (w.heap.size + 1) 25 [.int .u8 (y.tag : Int), .slice B9 y.bytes.length d9, .slice B0 y.list.length d0]) := by unfold Hid; rw [eW]; exact Lies.new_ (by simp)
  have hE := bytesEqual_any x.bytes y.bytes _ _ _ _ W ((hB.on hbW).arg hbt.2) ((hB'.on hbW).arg hbt'.2)
  have HF : Hid (Calls Try.prog 32 #[.slice A0 x.list.length c0, .slice B0 y.list.length d0, .func (.func 22) #[] #[]] W (Tells (x.list = y.list) W)) := equalFunc_any x.list y.list ih _ _ W (hL.on hbW) (hL'.on hbW)
  have HX : Hid (x.bytes = y.bytes → x.list = y.list → x = y) := fun h2 h3 => T_ext h1 h2 h3
  have HBWW := Lib.hid hbW
  have HW := Lib.hid eW
  rw [eW] at hE
  clear eW hbW hB hB' hL hL' hbt hbt' hta hta' h1 ih NE HBW
  go_enter Try.func22, Try.ntmps22
  go_wp2_with fail
  refine hE.mono ?_
  rintro e w1 ⟨hw1, hh⟩
  rw [← HW.out] at hw1
  subst hw1
  rcases hh with ⟨h2, rfl⟩ | ⟨h2, rfl⟩
  rotate_left
  · have HQ : Hid (Tells (x = y) w (.returned (.bool false)) W) := Tells.no (fun e => h2 (by rw [e])) HBWW.out
    clear h2 hE
    go_wp2
    go_ret
    exact HQ.out
  obtain ⟨⟨z0, z1, z2⟩, _⟩ := HL1.out.three
  obtain ⟨⟨y0, y1, y2⟩, _⟩ := HL2.out.three
  have H2 := Lib.hid h2
  have hF := HF.out
  clear h2 hE
  go_wp2_with fail
  refine hF.mono ?_
  rintro e w2 ⟨hb2, ⟨hq, rfl⟩ | ⟨hq, rfl⟩⟩
  · have HQ : Hid (Tells (x = y) w (.returned (.bool true)) w2) := Tells.yes (HX.out H2.out hq) (below_more HBWW.out hb2)
    clear hF hb2 hq z0 z1 z2 y0 y1 y2
    go_wp2
    go_ret
    exact HQ.out
  · have HQ : Hid (Tells (x = y) w (.returned (.bool false)) w2) := Tells.no (fun e => hq (by rw [e])) (below_more HBWW.out hb2)
    clear hF hb2 hq z0 z1 z2 y0 y1 y2
    go_wp2
    go_ret
    exact HQ.out
theorem same_any {ok ok' : Nat → Prop} (x y : Bq.T) (v u : Value) (w : World) (h : IsT w ok v x) (k : IsT w ok' u y) : Calls Try.prog 22 #[v, u] w (Tells (x = y) w) :=
  T_ind (P := SameOk) (fun x ih => same_step x ih) x ok ok' v u y w h k
end Go.Proofs.Ytcpfkhodailbfaa
