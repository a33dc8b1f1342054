/-
  The law RingKeeps.
-/
import Derived.Test.YthklgpflaghojaaYLaws2
namespace Go.Proofs.Ythklgpflaghojaa
open Go.RowKit

theorem IsK.make {w : World} {ok : Nat → Prop} {A : Option Addr} {c n : Nat} {id : ByteArray} {q : List Nat} {m e : Int} (h : ArgIs w A c q) (hn : q.length = n) (hl : q.length ≤ 140737488355328) (i1 : I64 m) (i2 : I64 e) (hok : ∀ b, ok b) : IsK w ok (kv id (.slice A n c) m e) ⟨id, q, m, e⟩ := by
  subst hn
  exact ⟨A, c, rfl, (argIs_slIs h).keep (fun b _ _ => ⟨hok b, rfl⟩) (Nat.le_refl _), ⟨hl, h.2.2.1⟩, i1, i2⟩

set_option maxHeartbeats 1000000 in
set_option maxRecDepth 100000 in
theorem lawKeeps_any {ok ok' : Nat → Prop} (l : List Kq.K) (A : Option Addr) (c n : Nat) (x : Kq.K) (v : Value) (w : World) (hL : KsIs w ok (.slice A n c) l) (hn : l.length = n) (h : IsK w ok' v x) (hs : x.secret.length ≤ 140737488353000) :
    Calls Try.prog 9 #[.slice A n c, v] w (IsTrue w) := by
  obtain ⟨B, d, rfl, hS, hlt, hm1, hm2⟩ := h
  have hA0 := slIs_argIs hS hlt.2
  obtain ⟨id, sec, made, ends⟩ := x
  simp only at *
  obtain ⟨W1, eW1⟩ : ∃ W1, W1 = w.alloc (.cells #[.string id, .slice B sec.length d, .int .i64 made, .int .i64 ends] 27) := ⟨_, rfl⟩
  have hb1 : Below w.heap.size w W1 := by rw [eW1]; exact below_new _ _
  have hl1 : Lies W1 w.heap.size 27 [.string id, .slice B sec.length d, .int .i64 made, .int .i64 ends] := by rw [eW1]; exact Lies.new_ rfl
  have hR := refRight_any l A c n W1 (hL.on hb1) hn
  have HL := Lib.hid hL
  have HN := Lib.hid hn
  have HB1 := Lib.hid hb1
  have HL1 := Lib.hid hl1
  have HA1 := Lib.hid (hA0.below hb1 (Nat.le_refl _))
  have HI := Lib.hid (And.intro hm1 hm2)
  have HSL := Lib.hid hs
  rw [eW1] at hR
  have HW1 := Lib.hid eW1
  clear hb1 hl1 hL hn hS hlt hA0 eW1 hm1 hm2
  go_enter Try.func9, Try.ntmps9
  go_wp2_with fail
  refine hR.mono ?_
  intro e w2 hh
  rw [← HW1.out] at hh
  clear hR
  obtain ⟨hb2, ⟨hr, rfl⟩ | ⟨hr, rfl⟩⟩ := hh
  rotate_left
  · have hA := alive9_any w2
    have HB2 := Lib.hid (below_more HB1.out hb2)
    clear hb2 hr
    go_wp2_with fail
    refine hA.mono ?_
    rintro e w3 ⟨rfl, hb3⟩
    have HE : Hid (IsTrue w (.returned (.bool true)) w3) := ⟨rfl, below_more HB2.out hb3⟩
    clear hA hb3
    go_wp2
    go_ret
    exact HE.out
  obtain ⟨W3, eW3⟩ : ∃ W3, W3 = w2.alloc (.cells #[.int .u8 1] 5) := ⟨_, rfl⟩
  have hb3 : Below w2.heap.size w2 W3 := by rw [eW3]; exact below_new _ _
  have hl2 := HL1.out.below hb2 HL1.out.lt
  obtain ⟨⟨_, y1, _, _⟩, _⟩ := (hl2.below hb3 hl2.lt).four
  have hsz : w.heap.size < w2.heap.size := Nat.lt_of_lt_of_le HL1.out.lt hb2.size
  have HB2 := Lib.hid (below_more HB1.out hb2)
  have HB3 := Lib.hid (below_more (below_more HB1.out hb2) hb3)
  have HL3 := Lib.hid (hl2.below hb3 hl2.lt)
  have HA3 := Lib.hid ((HA1.out.below hb2 (Nat.le_refl _)).below hb3 (Nat.le_refl _))
  have HOW : Hid (W3.ownsRow w2.heap.size 5 1 (.slice (some ⟨w2.heap.size, 0, none⟩) 1 1) 1 [.int .u8 1]) := by
    unfold Hid
    rw [eW3]
    exact ⟨rfl, .inr ⟨w2.heap.size, 1, #[.int .u8 1], rfl, Nat.le_refl _, heap_alloc_new w2 _, Nat.le_refl _, by decide, rfl, rfl⟩⟩
  rw [eW3] at y1
  have HW3 := Lib.hid eW3
  clear hb2 hb3 hl2 hr eW3
  go_upto_region 3 with (fail)
  repeat ((fail_if_success (with_reducible show wpList _ _ _ (⟨some 15, _, _, _, _, _⟩ :: _) _ _)); first | go_values | go_skip | go_guarded | go_step | go_upon | go_back | go_simp)
  rw [← HW3.out]
  have HSL' : Hid (1 + sec.length ≤ 140737488355328) := by have := HSL.out; unfold Hid; omega
  with_reducible refine append_arg rfl (.tmp 12) (.tmp 14) rfl w2.heap.size (.slice (some ⟨w2.heap.size, 0, none⟩) 1 1) 1 [.int .u8 1] B d sec HOW.out HA3.out ?s1 ?s2 ?s3 ?s4 ?_
  case s1 => rfl
  case s2 => rfl
  case s3 => exact HSL'.out
  case s4 => exact HOW.out.lt _ rfl |>.2 |> Nat.le_of_lt
  intro v4 w4 hown4 hgr4
  obtain ⟨N, eN⟩ : ∃ N, 1 + sec.length = N := ⟨_, rfl⟩
  have hN0 : 0 < N := by omega
  have hN1 : decide (0 < (N : Int)) = true := decide_eq_true (by omega)
  rw [eN] at hown4
  have hl4 := HL3.out.grown hgr4 (by simp [Value.ownBlock]; omega)
  have hb4 : Below w.heap.size w w4 := HB3.out.grown hgr4 HB3.out.size (fun k e => by
    simp [Value.ownBlock] at e
    omega)
  obtain ⟨hlen, ⟨_, h0⟩ | ⟨g, cap, cur, rfl, hg1, hg2, hg3, hg4, hg5, hg6⟩⟩ := hown4
  · omega
  have hgl : Lies w4 g 5 cur.toList := by unfold Lies; simpa using hg2
  obtain ⟨W5, eW5⟩ : ∃ W5, W5 = w4.setCell ⟨w.heap.size, 1, none⟩ (.slice (some ⟨g, 0, none⟩) N cap) := ⟨_, rfl⟩
  have hb5 : Below w.heap.size w W5 := by rw [eW5]; exact hb4.setCell (Nat.le_refl _) _
  have hl5 : Lies W5 w.heap.size 27 [.string id, .slice (some ⟨g, 0, none⟩) N cap, .int .i64 made, .int .i64 ends] := by rw [eW5]; have := hl4.put 1 (.slice (some ⟨g, 0, none⟩) N cap); simpa using this
  have hgl5 : Lies W5 g 5 cur.toList := by rw [eW5]; exact hgl.far (by show g ≠ w.heap.size; omega) _
  have hown5 : W5.ownsRow w2.heap.size 5 1 (.slice (some ⟨g, 0, none⟩) N cap) N (u8s (1 :: sec)) := ⟨by simp [u8s]; omega, .inr ⟨g, cap, cur, rfl, hg1, by have := hgl5; unfold Lies at this; simpa using this, hg3, hg4, hg5, by rw [hg6]; rfl⟩⟩
  have hq : ∀ y ∈ 1 :: sec, y < 256 := fun y hy => by
    rcases List.mem_cons.1 hy with rfl | h
    · decide
    · exact HA3.out.2.2.1 y h
  have hAr := (own_arg hown5 hq).2
  have hK5 : IsK W5 (fun _ => True) (kv id (.slice (some ⟨g, 0, none⟩) N cap) made ends) ⟨id, 1 :: sec, made, ends⟩ := IsK.make hAr (by simp; omega) (by simp; have := HSL'.out; omega) HI.out.1 HI.out.2 (fun _ => trivial)
  have hR := rotate_any l A c n _ _ 9 W5 (HL.out.on hb5) HN.out hK5 ⟨by decide, by decide⟩
  have hgc : W5.cell? ⟨g, 0, none⟩ = some (.int .u8 1) := by
    obtain ⟨b, off, e, _, hby⟩ := hAr.2.2.2 (by simp)
    injection e with e
    injection e with e1 e2
    subst e1 e2
    exact (hby 0 1 rfl).2
  have HGC := Lib.hid hgc
  have HGL5 := Lib.hid hgl5
  have HB5 := Lib.hid hb5
  have HL5 := Lib.hid hl5
  have HG1 := Lib.hid hg1
  have HRC := Lib.hid (Kq.rotate_cases l ⟨id, 1 :: sec, made, ends⟩ 9)
  obtain ⟨⟨_, _, _, _⟩, _, f1, _, _⟩ := hl4.four
  obtain ⟨⟨z0, z1, z2, z3⟩, _⟩ := hl5.four
  obtain ⟨RES, eR⟩ : ∃ RES, Kq.rotate l ⟨id, 1 :: sec, made, ends⟩ 9 = RES := ⟨_, rfl⟩
  rw [eR] at hR HRC
  rw [eW5] at hR z0 z1 z2 z3
  have HW5 := Lib.hid eW5
  clear hl4 hb4 hgl hb5 hl5 hgl5 hown5 hAr hK5 hgc hlen hg1 hg2 hg3 hg4 hg5 hg6 hgr4 eR eW5 hq hsz
  go_frame
  go_wp2_with fail
  refine hR.mono ?_
  intro e w6 hh
  rw [← HW5.out] at hh
  clear hR z0 z1 z2 z3 f1
  cases RES with
  | error N9 =>
    obtain ⟨hb6, rfl, hN9⟩ := hh
    have hne : (N9 != 0) = true := by rw [bne_iff_ne]; omega
    have hA := alive9_any w6
    have HB6 := Lib.hid (below_more HB5.out hb6)
    clear hb6 hN9
    go_wp2_with fail
    refine hA.mono ?_
    rintro e w7 ⟨rfl, hb7⟩
    have HE : Hid (IsTrue w (.returned (.bool true)) w7) := ⟨rfl, below_more HB6.out hb7⟩
    clear hA hb7 hne
    go_wp2
    go_ret
    exact HE.out
  | ok m =>
    obtain ⟨hb6, A6, c6, rfl, hK6⟩ := hh
    have hm : m = Kq.drop made l ++ [Kq.newest ⟨id, 1 :: sec, made, ends⟩ 9] := by
      rcases HRC.out with ⟨e, _⟩ | ⟨e, _⟩ | ⟨e, _⟩
      · injection e
      · cases e
      · cases e
    obtain ⟨M, eM⟩ : ∃ M, m.length = M := ⟨_, rfl⟩
    obtain ⟨j, ej⟩ : ∃ j, M = j + 1 := ⟨(Kq.drop made l).length, by rw [← eM, hm]; simp⟩
    have hmj : m[j]? = some (Kq.newest ⟨id, 1 :: sec, made, ends⟩ 9) := by
      have : j = (Kq.drop made l).length := by
        have := congrArg List.length hm
        simp at this
        omega
      rw [hm, this, List.getElem?_append_right (Nat.le_refl _)]
      simp
    have hM1 : (M : Int) - 1 = (j : Int) := by omega
    have hMm := hK6.len
    have hgl6 := HGL5.out.below hb6 HGL5.out.lt
    have hl6 := HL5.out.below hb6 HL5.out.lt
    obtain ⟨W7, eW7⟩ : ∃ W7, W7 = w6.setCell ⟨g, 0, none⟩ (.int .u8 77) := ⟨_, rfl⟩
    have hsg : w.heap.size ≤ g := Nat.le_trans HB2.out.size HG1.out
    have hb7 : Below w.heap.size w W7 := by rw [eW7]; exact (below_more HB5.out hb6).setCell hsg _
    have hK7 : KsIs W7 (W5.heap.size ≤ ·) (.slice A6 m.length c6) m := hK6.keep (fun b hb _ => ⟨hb, by
      have hb' : W5.heap.size ≤ b := hb
      have := HGL5.out.lt
      rw [eW7, Below.heap_setCell _ _ _ _ (by show b ≠ g; omega)]⟩) (by rw [eW7]; simp [World.setCell])
    have hA := alive9_any W7
    have g0 := (hb6.cell (World.block_lt_of_cell? _ _ HGC.out)).trans HGC.out
    have gf := hgl6.free 0
    obtain ⟨⟨z0, z1, z2, z3⟩, _⟩ := hl6.four
    rw [eM] at hK7 hMm ⊢
    have HK7 := Lib.hid hK7
    have HEM := Lib.hid eM
    have HEJ := Lib.hid ej
    have HMJ := Lib.hid hmj
    have HB7 := Lib.hid hb7
    rw [eW7] at hA
    have HW7 := Lib.hid eW7
    clear hb6 hK6 hm eM ej hmj hgl6 hl6 hsg hb7 hK7 eW7
    go_wp2_with fail
    refine hA.mono ?_
    rintro e w8 ⟨rfl, hb8⟩
    rw [← HW7.out] at hb8
    clear hA z0 z1 z2 z3 g0 gf
    obtain ⟨b, off, y, A9, c9, rfl, _, _, hy, hKy, s0, s1, s2, s3⟩ := (HK7.out.on hb8).elem (i := j) (by rw [HEM.out, HEJ.out]; omega)
    rw [HMJ.out] at hy
    injection hy with hy
    subst hy
    obtain ⟨hA9, _, _⟩ := hKy.arg
    have e2 : (Kq.newest ⟨id, 1 :: sec, made, ends⟩ 9).secret = 1 :: sec := rfl
    rw [e2] at s1 hA9
    obtain ⟨b9, off9, rfl, _, hby⟩ := hA9.2.2.2 (by simp)
    have t0 : w8.cell? ⟨b9, off9, none⟩ = some (.int .u8 1) := (hby 0 1 rfl).2
    have hln : (1 :: sec).length = N := by simp; omega
    rw [hln] at s1
    have hjM : j < M := by have := HEJ.out; omega
    have HE : Hid (IsTrue w (.returned (.bool true)) w8) := ⟨rfl, below_more HB7.out hb8⟩
    clear hb8 hKy hA9 hby s0 s2 s3 e2 hln
    go_wp2
    go_ret
    exact HE.out
end Go.Proofs.Ythklgpflaghojaa
