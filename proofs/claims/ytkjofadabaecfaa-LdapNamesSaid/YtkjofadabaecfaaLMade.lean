/-
  Whether an element has this tag, and inside it elements with these.
-/
import Derived.Test.YtkjofadabaecfaaLM
import Derived.Test.YtkjofadabaecfaaTPSmall
namespace Go.Proofs.Ytkjofadabaecfaa
open Go.RowKit

set_option maxHeartbeats 1000000 in
set_option maxRecDepth 100000 in
theorem tagIs_any (t : Nat) (b l : Value) (c : Nat) (w : World) :
    Calls Try.prog 51 #[tv t b l, .int .u8 (c : Int)] w (Tells (t = c) w) := by
  have hb : Below w.heap.size w (w.alloc (.cells #[.int .u8 (t : Int), b, l] 60)) := (Below.refl _ _).alloc (Nat.le_refl _) _
  by_cases h : t = c
  · have hd : ((t : Int) == (c : Int)) = true := by rw [h]; simp
    have HQ := Lib.hid (Tells.yes h hb)
    clear h hb
    go_enter Try.func51, Try.ntmps51
    go_wp2
    go_ret
    exact HQ.out
  · have hd : ((t : Int) == (c : Int)) = false := by rw [beq_eq_false_iff_ne]; omega
    have HQ := Lib.hid (Tells.no h hb)
    clear h hb
    go_enter Try.func51, Try.ntmps51
    go_wp2
    go_ret
    exact HQ.out

theorem take_tag {l : List Bq.T} {m : List Nat} {k : Nat} {x : Bq.T} {c : Nat} (h : (l.take k).map Bq.T.tag = m.take k) (hx : l[k]? = some x) (hy : m[k]? = some c) (he : x.tag = c) : (l.take (k + 1)).map Bq.T.tag = m.take (k + 1) := by
  rw [List.take_add_one, List.take_add_one, List.map_append, h, hx, hy]
  simp [he]

set_option maxHeartbeats 4000000 in
set_option maxRecDepth 100000 in
theorem tagsAre_any {ok : Nat → Prop} (l : List Bq.T) (m : List Nat) (lv : Value) (B : Option Addr) (d : Nat) (w : World) (hL : ListIs w ok lv l) (hM : ArgIs w B d m) :
    Calls Try.prog 50 #[lv, .slice B m.length d, .func (.func 51) #[] #[]] w (Tells (l.map Bq.T.tag = m) w) := by
  obtain ⟨A0, c0, rfl⟩ := hL.form
  by_cases hlen : l.length = m.length
  · obtain ⟨N, eN⟩ : ∃ N, l.length = N := ⟨_, rfl⟩
    have eN2 : m.length = N := by rw [← hlen, eN]
    have hNs : N ≤ 140737488355328 := by
      have := hL.len
      omega
    have HL := Lib.hid hL
    have HM := Lib.hid hM
    have HN := Lib.hid eN
    have HN2 := Lib.hid eN2
    have hd0 : ((N : Int) != (N : Int)) = false := by simp
    rw [eN, eN2]
    rw [eN] at HL
    clear eN eN2 hL hM hlen
    go_enter Try.func50, Try.ntmps50
    go_wp2_with fail
    go_loopw [17] (fun i wr => ∃ k : Nat, i = .int .i64 k ∧ k ≤ N ∧ Hid ((l.take k).map Bq.T.tag = m.take k) ∧ Below w.heap.size w wr) (fun i _ => N - (intOf i).toNat)
    case atStart => exact ⟨0, rfl, Nat.zero_le _, Lib.hid rfl, Below.refl _ _⟩
    case round =>
      obtain ⟨k, rfl, hk, he, hb⟩ := hrel
      by_cases hlt : k < N
      · obtain ⟨b, off, x, B1, e1, B2, e2, rfl, hbb, hblt, hx, hJ, s0, s1, s2⟩ := (HL.out.on hb).elem (by rw [HN.out]; exact hlt)
        have hb2 : Below w.heap.size w (wr.alloc (.cells #[.int .u8 (x.tag : Int), .slice B1 x.bytes.length e1, .slice B2 x.list.length e2] 60)) := below_alloc hb _
        obtain ⟨b9, off9, rfl, hb9, hby⟩ := (HM.out.on hb2).2.2.2 (by rw [HN2.out]; omega)
        have hkm : k < m.length := by rw [HN2.out]; exact hlt
        have k0 := hby.get hkm
        obtain ⟨c, ec⟩ : ∃ c, m.getD k 0 = c := ⟨_, rfl⟩
        rw [ec] at k0
        have hy : m[k]? = some c := by
          rw [List.getD_eq_getElem?_getD, List.getElem?_eq_getElem hkm] at ec
          rw [List.getElem?_eq_getElem hkm]
          exact congrArg some ec
        have hS := tagIs_any x.tag (.slice B1 x.bytes.length e1) (.slice B2 x.list.length e2) c (wr.alloc (.cells #[.int .u8 (x.tag : Int), .slice B1 x.bytes.length e1, .slice B2 x.list.length e2] 60))
        have HX := Lib.hid hx
        have HY := Lib.hid hy
        clear hx hy hJ hb hby ec hkm
        go_wp2_with fail
        refine hS.mono ?_
        rintro e w2 ⟨hb3, ⟨hq, rfl⟩ | ⟨hq, rfl⟩⟩
        · have HQ : Hid (∃ k' : Nat, Value.int .i64 ((k + 1 : Nat) : Int) = .int .i64 k' ∧ k' ≤ N ∧ Hid ((l.take k').map Bq.T.tag = m.take k') ∧ Below w.heap.size w w2) := ⟨k + 1, rfl, hlt, Lib.hid (take_tag he.out HX.out HY.out hq), below_more hb2 hb3⟩
          clear hS hb3 hb2 hq s0 s1 s2 k0
          go_wp2
          go_roundw
          case rel => exact HQ.out
          case measure => simp [intOf]; omega
        · have HQ : Hid (Tells (l.map Bq.T.tag = m) w (.returned (.bool false)) w2) := Tells.no (fun h => hq (by
            have h1 := HY.out
            rw [← h, List.getElem?_map, HX.out] at h1
            exact Option.some.inj h1)) (below_more hb2 hb3)
          clear hS hb3 hb2 hq s0 s1 s2 k0
          go_wp2
          go_ret
          exact HQ.out
      · obtain rfl : k = N := by omega
        have hd2 : decide ((k : Int) < (k : Int)) = false := by simp
        have HQ : Hid (Tells (l.map Bq.T.tag = m) w (.returned (.bool true)) wr) := Tells.yes (by
          have := he.out
          rwa [List.take_of_length_le (by rw [HN.out]; exact Nat.le_refl _), List.take_of_length_le (by rw [HN2.out]; exact Nat.le_refl _)] at this) hb
        clear he hb
        go_wp2
        go_ret
        exact HQ.out
  · have hd0 : ((l.length : Int) != (m.length : Int)) = true := by rw [bne_iff_ne]; omega
    have HQ : Hid (Tells (l.map Bq.T.tag = m) w (.returned (.bool false)) w) := Tells.no (fun h => hlen (by rw [← h, List.length_map])) (Below.refl _ _)
    clear hlen hL hM
    go_enter Try.func50, Try.ntmps50
    go_wp2
    go_ret
    exact HQ.out

set_option maxHeartbeats 1000000 in
set_option maxRecDepth 100000 in
theorem made_any {ok : Nat → Prop} (v : Value) (t : Bq.T) (c : Nat) (m : List Nat) (B : Option Addr) (d : Nat) (w : World) (hJ : IsT w ok v t) (hM : ArgIs w B d m) :
    Calls Try.prog 41 #[v, .int .u8 (c : Int), .slice B m.length d] w (Tells (Bq.Made t c m) w) := by
  obtain ⟨bv, lst, rfl, hta, hB, hbt, hL⟩ := hJ.parts
  obtain ⟨A0, c0, rfl⟩ := hL.form
  obtain ⟨A9, c9, rfl⟩ := hB.form
  have hb0 : Below w.heap.size w (w.alloc (.cells #[.int .u8 (t.tag : Int), .slice A9 t.bytes.length c9, .slice A0 t.list.length c0] 60)) := (Below.refl _ _).alloc (Nat.le_refl _) _
  by_cases h : t.tag = c
  · have hd : ((t.tag : Int) == (c : Int)) = true := by rw [h]; simp
    have hE := tagsAre_any t.list m _ B d _ (hL.on hb0) (hM.on hb0)
    have HB := Lib.hid hb0
    have HT := Lib.hid h
    clear h hb0 hL hM hB hbt hta hJ
    go_enter Try.func41, Try.ntmps41
    go_wp2_with fail
    refine hE.mono ?_
    rintro e w2 ⟨hb3, ⟨hq, rfl⟩ | ⟨hq, rfl⟩⟩
    · have HQ : Hid (Tells (Bq.Made t c m) w (.returned (.bool true)) w2) := Tells.yes ⟨HT.out, hq⟩ (below_more HB.out hb3)
      clear hE hb3 hq
      go_wp2
      go_ret
      exact HQ.out
    · have HQ : Hid (Tells (Bq.Made t c m) w (.returned (.bool false)) w2) := Tells.no (fun h => hq h.2) (below_more HB.out hb3)
      clear hE hb3 hq
      go_wp2
      go_ret
      exact HQ.out
  · have hd : ((t.tag : Int) == (c : Int)) = false := by rw [beq_eq_false_iff_ne]; omega
    have HQ := Lib.hid (Tells.no (P := Bq.Made t c m) (fun hh => h hh.1) hb0)
    clear h hb0 hL hM hB hbt hta hJ
    go_enter Try.func41, Try.ntmps41
    go_wp2
    go_ret
    exact HQ.out
end Go.Proofs.Ytkjofadabaecfaa
