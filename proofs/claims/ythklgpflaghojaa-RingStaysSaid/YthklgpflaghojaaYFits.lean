/-
  The contracts of the document's SameKey and Has, and of fits.
-/
import Derived.Test.YthklgpflaghojaaYSmall
namespace Go.Proofs.Ythklgpflaghojaa
open Go.RowKit

set_option maxHeartbeats 2000000 in
set_option maxRecDepth 100000 in
theorem sameKey_any {ok ok' : Nat → Prop} (x y : Kq.K) (v u : Value) (w : World) (h : IsK w ok v x) (k : IsK w ok' u y) :
    Calls Try.prog 21 #[v, u] w (Tells (x = y) w) := by
  obtain ⟨A, c, rfl, hS, hlt, _⟩ := h
  obtain ⟨B, d, rfl, hT, hlt', _⟩ := k
  have hA := slIs_argIs hS hlt.2
  have hB := slIs_argIs hT hlt'.2
  obtain ⟨id, sec, made, ends⟩ := x
  obtain ⟨id', sec', made', ends'⟩ := y
  simp only at *
  obtain ⟨W1, eW1⟩ : ∃ W1, W1 = (w.alloc (.cells #[.string id, .slice A sec.length c, .int .i64 made, .int .i64 ends] 27)).alloc (.cells #[.string id', .slice B sec'.length d, .int .i64 made', .int .i64 ends'] 27) := ⟨_, rfl⟩
  have hb1 : Below w.heap.size w W1 := by rw [eW1]; exact (below_new _ _).alloc (by simp) _
  have k1 := conv_str (hA.below hb1 (Nat.le_refl _))
  have k2 := conv_str (hB.below hb1 (Nat.le_refl _))
  have hbeq := str_beq hlt.2 hlt'.2
  obtain ⟨X, eX⟩ : ∃ X, strOf sec = X := ⟨_, rfl⟩
  obtain ⟨Y, eY⟩ : ∃ Y, strOf sec' = Y := ⟨_, rfl⟩
  rw [eX] at k1 hbeq
  rw [eY] at k2 hbeq
  have hid := Kq.id_beq id id'
  have HY : Hid (id = id' → sec = sec' → made = made' → ends = ends' → Tells ((⟨id, sec, made, ends⟩ : Kq.K) = ⟨id', sec', made', ends'⟩) w (.returned (.bool true)) W1) := fun h1 h2 h3 h4 => Tells.yes (by rw [h1, h2, h3, h4]) hb1
  have HN : Hid (¬ (id = id' ∧ sec = sec' ∧ made = made' ∧ ends = ends') → Tells ((⟨id, sec, made, ends⟩ : Kq.K) = ⟨id', sec', made', ends'⟩) w (.returned (.bool false)) W1) := fun h => Tells.no (fun e => h (by
    injection e with e1 e2 e3 e4
    exact ⟨e1, e2, e3, e4⟩)) hb1
  rw [eW1] at k1 k2 HY HN
  clear hS hT hA hB hlt hlt' eX eY hb1 eW1
  by_cases h1 : id = id'
  · rw [decide_eq_true h1] at hid
    by_cases h2 : sec = sec'
    · rw [decide_eq_true h2] at hbeq
      by_cases h3 : made = made'
      · have d3 : (made == made') = true := by simp [h3]
        by_cases h4 : ends = ends'
        · have d4 : (ends == ends') = true := by simp [h4]
          have HE := Lib.hid (HY.out h1 h2 h3 h4)
          clear h1 h2 h3 h4
          go_enter Try.func21, Try.ntmps21
          go_wp2
          go_ret
          exact HE.out
        · have d4 : (ends == ends') = false := by simp [h4]
          have HE := Lib.hid (HN.out (fun h => h4 h.2.2.2))
          clear h1 h2 h3 h4
          go_enter Try.func21, Try.ntmps21
          go_wp2
          go_ret
          exact HE.out
      · have d3 : (made == made') = false := by simp [h3]
        have HE := Lib.hid (HN.out (fun h => h3 h.2.2.1))
        clear h1 h2 h3
        go_enter Try.func21, Try.ntmps21
        go_wp2
        go_ret
        exact HE.out
    · rw [decide_eq_false h2] at hbeq
      have HE := Lib.hid (HN.out (fun h => h2 h.2.1))
      clear h1 h2
      go_enter Try.func21, Try.ntmps21
      go_wp2
      go_ret
      exact HE.out
  · rw [decide_eq_false h1] at hid
    have HE := Lib.hid (HN.out (fun h => h1 h.1))
    clear h1
    go_enter Try.func21, Try.ntmps21
    go_wp2
    go_ret
    exact HE.out

set_option maxHeartbeats 2000000 in
set_option maxRecDepth 100000 in
theorem has_any {ok : Nat → Prop} (l : List Kq.K) (A : Option Addr) (c n : Nat) (id : ByteArray) (w : World) (hL : KsIs w ok (.slice A n c) l) (hn : l.length = n) :
    Calls Try.prog 26 #[.slice A n c, .string id] w (fun e w' => w = w' ∧ ((Kq.Has l id ∧ e = .returned (.bool true)) ∨ (¬ Kq.Has l id ∧ e = .returned (.bool false)))) := by
  have hns : n * 56 ≤ 140737488355328 := by rw [← hn]; exact hL.len
  have HL := Lib.hid hL
  have HN := Lib.hid hn
  clear hL hn
  go_enter Try.func26, Try.ntmps26
  go_wp2_with fail
  go_loop [5] (fun i => ∃ k : Nat, i = .int .i64 k ∧ k ≤ n ∧ Hid (¬ Kq.Has (l.take k) id)) (fun i => n - (intOf i).toNat)
  case atStart => exact ⟨0, rfl, Nat.zero_le _, Kq.has_none l id⟩
  case round =>
    obtain ⟨k, rfl, hk, he⟩ := hrel
    by_cases hlt : k < n
    · obtain ⟨b, off, x, A1, c1, rfl, _, _, hx, _, s0, _⟩ := HL.out.elem (by rw [HN.out]; exact hlt)
      have hid := Kq.id_beq x.id id
      by_cases h1 : x.id = id
      · rw [decide_eq_true h1] at hid
        have HE : Hid (Kq.Has l id) := ⟨x, List.mem_of_getElem? hx, h1⟩
        clear h1 hx
        go_wp2
        go_ret
        exact ⟨rfl, .inl ⟨HE.out, rfl⟩⟩
      · rw [decide_eq_false h1] at hid
        have HE : Hid (¬ Kq.Has (l.take (k + 1)) id) := Kq.has_step he.out hx h1
        clear h1 hx
        go_wp2
        go_round
        case rel => exact ⟨k + 1, by go_num, hlt, HE⟩
        case measure => simp [intOf]; omega
    · obtain rfl : k = n := by omega
      have hd2 : decide ((k : Int) < (k : Int)) = false := by simp
      have HE : Hid (¬ Kq.Has l id) := Kq.has_all (by rw [HN.out]; exact he.out)
      go_wp2
      go_ret
      exact ⟨rfl, .inr ⟨HE.out, rfl⟩⟩

set_option maxHeartbeats 2000000 in
set_option maxRecDepth 100000 in
theorem fits_any {ok ok' : Nat → Prop} (l : List Kq.K) (A : Option Addr) (c n : Nat) (x : Kq.K) (v : Value) (w : World) (hL : KsIs w ok (.slice A n c) l) (hn : l.length = n) (h : IsK w ok' v x) :
    Calls Try.prog 24 #[.slice A n c, v] w (Tells (Kq.Fits l x) w) := by
  obtain ⟨B, d, rfl, _⟩ := h
  obtain ⟨id, sec, made, ends⟩ := x
  simp only at *
  obtain ⟨W1, eW1⟩ : ∃ W1, W1 = w.alloc (.cells #[.string id, .slice B sec.length d, .int .i64 made, .int .i64 ends] 27) := ⟨_, rfl⟩
  have hb1 : Below w.heap.size w W1 := by rw [eW1]; exact below_new _ _
  have hl1 : Lies W1 w.heap.size 27 [.string id, .slice B sec.length d, .int .i64 made, .int .i64 ends] := by rw [eW1]; exact Lies.new_ rfl
  have hns : n * 56 ≤ 140737488355328 := by rw [← hn]; exact hL.len
  have HL := Lib.hid (hL.on hb1)
  have HN := Lib.hid hn
  have HB := Lib.hid hb1
  have HL1 := Lib.hid hl1
  have HW := Lib.hid eW1
  clear hL hn hb1 hl1 eW1
  go_enter Try.func24, Try.ntmps24
  go_wp2_with fail
  rw [← HW.out]
  go_loopw [10] (fun i wr => ∃ k : Nat, i = .int .i64 k ∧ k ≤ n ∧ Hid (¬ Kq.Has (l.take k) id) ∧ Below W1.heap.size W1 wr) (fun i _ => n - (intOf i).toNat)
  case atStart => exact ⟨0, rfl, Nat.zero_le _, Kq.has_none l id, Below.refl _ _⟩
  case round =>
    obtain ⟨k, rfl, hk, he, hb⟩ := hrel
    by_cases hlt : k < n
    · obtain ⟨b, off, x, A1, c1, rfl, _, _, hx, _, s0, s1, s2, s3⟩ := (HL.out.on hb).elem (by rw [HN.out]; exact hlt)
      have hid := Kq.id_beq x.id id
      obtain ⟨W2, eW2⟩ : ∃ W2, W2 = wr.alloc (.cells #[.string x.id, .slice A1 x.secret.length c1, .int .i64 x.made, .int .i64 x.ends] 27) := ⟨_, rfl⟩
      have hb2 : Below wr.heap.size wr W2 := by rw [eW2]; exact below_new _ _
      obtain ⟨⟨y0, y1, y2, y3⟩, _⟩ := ((HL1.out.below hb HL1.out.lt).below hb2 (HL1.out.below hb HL1.out.lt).lt).four
      rw [eW2] at y0 y1 y2 y3
      have hb3 := below_more hb hb2
      by_cases h1 : x.id = id
      · rw [decide_eq_true h1] at hid
        have HE : Hid (Tells (Kq.Fits l ⟨id, sec, made, ends⟩) w (.returned (.bool false)) W2) := Tells.no (fun hf => hf.1 ⟨x, List.mem_of_getElem? hx, h1⟩) (below_more HB.out hb3)
        rw [eW2] at HE
        clear h1 hx hb hb2 hb3 eW2
        go_wp2
        go_ret
        exact HE.out
      · rw [decide_eq_false h1] at hid
        have HE : Hid (¬ Kq.Has (l.take (k + 1)) id) := Kq.has_step he.out hx h1
        have HB3 := Lib.hid hb3
        rw [eW2] at HB3
        clear h1 hx hb hb2 hb3 eW2
        go_wp2
        go_roundw
        case rel => exact ⟨k + 1, by go_num, hlt, HE, HB3.out⟩
        case measure => simp [intOf]; omega
    · obtain rfl : k = n := by omega
      have hd2 : decide ((k : Int) < (k : Int)) = false := by simp
      have HE : Hid (¬ Kq.Has l id) := Kq.has_all (by rw [HN.out]; exact he.out)
      obtain ⟨⟨y0, y1, y2, y3⟩, _⟩ := (HL1.out.below hb HL1.out.lt).four
      rcases Nat.eq_zero_or_pos k with h0 | h0
      · subst h0
        have HOLD : Hid (∀ y, l.getLast? = some y → y.made ≤ made) := fun y hy => by
          have : l = [] := List.eq_nil_of_length_eq_zero HN.out
          rw [this] at hy
          cases hy
        go_upto_region 7 with (fail)
        go_quiet (fail)
        go_upto_region 8 with (fail)
        generalize hw7 : World.drewN wr _ = w7
        have hb7 : Below wr.heap.size wr w7 := by rw [← hw7]; exact drewN_below _ _
        have hb8 := below_more HB.out (below_more hb hb7)
        obtain ⟨⟨z0, z1, z2, z3⟩, _⟩ := ((HL1.out.below hb HL1.out.lt).below hb7 (HL1.out.below hb HL1.out.lt).lt).four
        have hI := isId_any id w7
        clear hw7 hb hb7 y0 y1 y2 y3
        go_wp2_with fail
        refine hI.mono ?_
        rintro e w8 ⟨rfl, ⟨hi, rfl⟩ | ⟨hi, rfl⟩⟩
        · clear hI
          by_cases hm : 0 ≤ made
          · have dm : decide (0 ≤ made) = true := decide_eq_true hm
            have HR : Hid (Tells (Kq.Fits l ⟨id, sec, made, ends⟩) w (.returned (.bool true)) w7) := Tells.yes ⟨HE.out, hi, hm, HOLD.out⟩ hb8
            clear hi hb8
            go_wp2
            go_ret
            exact HR.out
          · have dm : decide (0 ≤ made) = false := decide_eq_false hm
            have HR : Hid (Tells (Kq.Fits l ⟨id, sec, made, ends⟩) w (.returned (.bool false)) w7) := Tells.no (fun hf => hm hf.2.2.1) hb8
            clear hi hb8
            go_wp2
            go_ret
            exact HR.out
        · clear hI
          have HR : Hid (Tells (Kq.Fits l ⟨id, sec, made, ends⟩) w (.returned (.bool false)) w7) := Tells.no (fun hf => hi hf.2.1) hb8
          clear hi hb8
          go_wp2
          go_ret
          exact HR.out
      · obtain ⟨m, em⟩ : ∃ m, k = m + 1 := ⟨k - 1, by omega⟩
        have hm1 : (k : Int) - 1 = (m : Int) := by omega
        have hml : m < k := by omega
        obtain ⟨b, off, x, A1, c1, rfl, _, _, hx, _, s0, s1, s2, s3⟩ := (HL.out.on hb).elem (i := m) (by rw [HN.out]; exact hml)
        have hlast := Kq.last_at (by rw [HN.out]; exact em) hx
        have HEM := Lib.hid em
        clear hx em
        have h0k : decide (0 < (k : Int)) = true := decide_eq_true (by omega)
        by_cases hold : made < x.made
        · have HOLD : Hid (¬ Kq.Fits l ⟨id, sec, made, ends⟩) := fun hf => by
            have : x.made ≤ made := hf.2.2.2 x hlast
            omega
          have dold : decide (made < x.made) = true := decide_eq_true hold
          clear hlast
          go_upto_region 7 with (fail)
          go_quiet (fail)
          go_upto_region 8 with (fail)
          generalize hw7 : World.drewN wr _ = w7
          have hb7 : Below wr.heap.size wr w7 := by rw [← hw7]; exact drewN_below _ _
          have hb8 := below_more HB.out (below_more hb hb7)
          obtain ⟨⟨z0, z1, z2, z3⟩, _⟩ := ((HL1.out.below hb HL1.out.lt).below hb7 (HL1.out.below hb HL1.out.lt).lt).four
          have hI := isId_any id w7
          clear hw7 hb hb7 y0 y1 y2 y3
          go_wp2_with fail
          refine hI.mono ?_
          rintro e w8 ⟨rfl, ⟨hi, rfl⟩ | ⟨hi, rfl⟩⟩
          · clear hI
            by_cases hm : 0 ≤ made
            · have dm : decide (0 ≤ made) = true := decide_eq_true hm
              have HR : Hid (Tells (Kq.Fits l ⟨id, sec, made, ends⟩) w (.returned (.bool false)) w7) := Tells.no HOLD.out hb8
              clear hi hb8
              go_wp2
              go_ret
              exact HR.out
            · have dm : decide (0 ≤ made) = false := decide_eq_false hm
              have HR : Hid (Tells (Kq.Fits l ⟨id, sec, made, ends⟩) w (.returned (.bool false)) w7) := Tells.no (fun hf => hm hf.2.2.1) hb8
              clear hi hb8
              go_wp2
              go_ret
              exact HR.out
          · clear hI
            have HR : Hid (Tells (Kq.Fits l ⟨id, sec, made, ends⟩) w (.returned (.bool false)) w7) := Tells.no (fun hf => hi hf.2.1) hb8
            clear hi hb8
            go_wp2
            go_ret
            exact HR.out
        · have HOLD : Hid (∀ y, l.getLast? = some y → y.made ≤ made) := fun y hy => by
            rw [hlast] at hy
            injection hy with hy
            subst hy
            omega
          have dold : decide (made < x.made) = false := decide_eq_false hold
          clear hlast
          go_upto_region 7 with (fail)
          go_quiet (fail)
          go_upto_region 8 with (fail)
          generalize hw7 : World.drewN wr _ = w7
          have hb7 : Below wr.heap.size wr w7 := by rw [← hw7]; exact drewN_below _ _
          have hb8 := below_more HB.out (below_more hb hb7)
          obtain ⟨⟨z0, z1, z2, z3⟩, _⟩ := ((HL1.out.below hb HL1.out.lt).below hb7 (HL1.out.below hb HL1.out.lt).lt).four
          have hI := isId_any id w7
          clear hw7 hb hb7 y0 y1 y2 y3
          go_wp2_with fail
          refine hI.mono ?_
          rintro e w8 ⟨rfl, ⟨hi, rfl⟩ | ⟨hi, rfl⟩⟩
          · clear hI
            by_cases hm : 0 ≤ made
            · have dm : decide (0 ≤ made) = true := decide_eq_true hm
              have HR : Hid (Tells (Kq.Fits l ⟨id, sec, made, ends⟩) w (.returned (.bool true)) w7) := Tells.yes ⟨HE.out, hi, hm, HOLD.out⟩ hb8
              clear hi hb8
              go_wp2
              go_ret
              exact HR.out
            · have dm : decide (0 ≤ made) = false := decide_eq_false hm
              have HR : Hid (Tells (Kq.Fits l ⟨id, sec, made, ends⟩) w (.returned (.bool false)) w7) := Tells.no (fun hf => hm hf.2.2.1) hb8
              clear hi hb8
              go_wp2
              go_ret
              exact HR.out
          · clear hI
            have HR : Hid (Tells (Kq.Fits l ⟨id, sec, made, ends⟩) w (.returned (.bool false)) w7) := Tells.no (fun hf => hi hf.2.1) hb8
            clear hi hb8
            go_wp2
            go_ret
            exact HR.out
end Go.Proofs.Ythklgpflaghojaa
