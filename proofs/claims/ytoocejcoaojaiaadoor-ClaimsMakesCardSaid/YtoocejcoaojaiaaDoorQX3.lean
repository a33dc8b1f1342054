/-
  QX3: JRPrint JLawPrints, side by side.
-/
import Derived.Test.YtoocejcoaojaiaaDoorQX2
import Derived.Test.YtoocejcoaojaiaaDoorQX1
import Derived.Test.YtoocejcoaojaiaaDoorQI
import Derived.Test.YtoocejcoaojaiaaDoorQK

/-
  The document's print and Print.
-/
namespace Go.Proofs.YtoocejcoaojaiaaDoor
open Go.RowKit

theorem decimal_len' {n : Int} (h0 : -9223372036854775808 ≤ n) (h1 : n ≤ 9223372036854775807) : (Jq.decimal n).length ≤ 21 := by
  unfold Jq.decimal
  split
  · have := digits_len 19 n.natAbs (by omega)
    rw [List.length_cons]; omega
  · have := digits_len 19 n.toNat (by omega)
    omega
theorem decimal_byte' (n : Int) : ∀ x ∈ Jq.decimal n, x < 256 := by
  unfold Jq.decimal
  split
  · intro x hx
    rcases List.mem_cons.1 hx with rfl | hx
    · decide
    · exact digits_byte _ x hx
  · exact digits_byte _
theorem q1_byte {c : Nat} (h : c < 256) : (∀ x ∈ Jq.q1 c, x < 256) ∧ (Jq.q1 c).length ≤ 6 := by
  unfold Jq.q1
  split
  · have := hexl_lt (n := c / 16) (by omega)
    have := hexl_lt (n := c % 16) (by omega)
    exact ⟨fun x hx => by simp at hx; omega, by simp⟩
  · split
    · exact ⟨fun x hx => by simp at hx; omega, by simp⟩
    · exact ⟨fun x hx => by simp at hx; omega, by simp⟩
theorem quoted_byte {t : List Nat} (h : ∀ x ∈ t, x < 256) (hl : t.length ≤ 4096) : (∀ x ∈ Jq.quoted t, x < 256) ∧ (Jq.quoted t).length ≤ 24578 := by
  have key : ∀ (l : List Nat), (∀ x ∈ l, x < 256) → (∀ x ∈ l.flatMap Jq.q1, x < 256) ∧ (l.flatMap Jq.q1).length ≤ 6 * l.length := by
    intro l
    induction l with
    | nil => intro _; exact ⟨(fun x hx => nomatch hx), Nat.le_refl _⟩
    | cons c r ih =>
      intro hb
      obtain ⟨h1, h2⟩ := q1_byte (hb c (by simp))
      obtain ⟨h3, h4⟩ := ih fun x hx => hb x (by simp [hx])
      rw [List.flatMap_cons]
      refine ⟨fun x hx => ?_, by rw [List.length_append, List.length_cons]; omega⟩
      rcases List.mem_append.1 hx with hx | hx
      · exact h1 x hx
      · exact h3 x hx
  obtain ⟨k1, k2⟩ := key t h
  unfold Jq.quoted
  refine ⟨fun x hx => ?_, by rw [List.length_cons, List.length_append, List.length_singleton]; omega⟩
  rcases List.mem_cons.1 hx with rfl | hx
  · decide
  · rcases List.mem_append.1 hx with hx | hx
    · exact k1 x hx
    · simp at hx; omega
/-- How print ends. -/
def RPEnd (res : Option (List Nat)) (w : World) (e : Ending) (w' : World) : Prop := Below w.heap.size w w' ∧ match res with
  | some y => e = .returned (.tuple #[.string (strOf y), .bool true]) ∧ (∀ x ∈ y, x < 256) ∧ y.length ≤ 24600
  | none => ∃ s, e = .returned (.tuple #[.string s, .bool false])
theorem RPEnd.yes {res : Option (List Nat)} {y : List Nat} {w w' : World} (h : res = some y) (hb : Below w.heap.size w w') (h1 : ∀ x ∈ y, x < 256) (h2 : y.length ≤ 24600) : RPEnd res w (.returned (.tuple #[.string (strOf y), .bool true])) w' := by
  rw [h]; exact ⟨hb, rfl, h1, h2⟩
theorem RPEnd.no {res : Option (List Nat)} {s : ByteArray} {w w' : World} (h : res = none) (hb : Below w.heap.size w w') : RPEnd res w (.returned (.tuple #[.string s, .bool false])) w' := by
  rw [h]; exact ⟨hb, s, rfl⟩
theorem RPEnd.cases {res : Option (List Nat)} {w w' : World} {e : Ending} (h : RPEnd res w e w') :
    (∃ y, res = some y ∧ e = .returned (.tuple #[.string (strOf y), .bool true]) ∧ (∀ x ∈ y, x < 256) ∧ y.length ≤ 24600 ∧ Below w.heap.size w w') ∨ (∃ s, res = none ∧ e = .returned (.tuple #[.string s, .bool false]) ∧ Below w.heap.size w w') := by
  obtain ⟨hb, h⟩ := h
  split at h
  · exact .inl ⟨_, rfl, h.1, h.2.1, h.2.2, hb⟩
  · obtain ⟨s, h⟩ := h
    exact .inr ⟨s, rfl, h, hb⟩
/-- The document's form answers as asked. -/
def FormOk : Prop := ∀ (ok : Nat → Prop) (lv : Nat) (_ : lv ≤ 16) (v : Value) (x : Jq.J) (w : World), IsJ w ok v x → Calls Tryd.prog 49 #[v, .int .i64 ((16 - lv : Nat) : Int)] w (Tells (Jq.Form lv x) w)
def RPOk (n : Nat) : Prop := ∀ (ok : Nat → Prop) (v : Value) (x : Jq.J) (w : World), IsJ w ok v x → Calls Tryd.prog 46 #[v, .int .i64 ((16 - n : Nat) : Int)] w (RPEnd (Jq.rp n x) w)
theorem rp_none {n : Nat} {x : Jq.J} (h : ¬ Jq.Form n x) : Jq.rp n x = none := by
  rw [Jq.rp.eq_def]; exact if_neg h
theorem rp_list {m : Nat} {x : Jq.J} (h : Jq.Form (m + 1) x) (hk : x.kind = 4 ∨ x.kind = 5) : Jq.rp (m + 1) x = (Jq.lp (Jq.rp m) 0 [] (Jq.parts x)).bind fun s => if s.length ≤ 4096 then some (if x.kind = 5 then 123 :: (s ++ [125]) else 91 :: (s ++ [93])) else none := by
  rw [Jq.rp, if_pos h, if_neg (by omega), if_neg (by omega), if_neg (by omega), if_neg (by omega)]
theorem rp_scalar {n : Nat} {x : Jq.J} (h : Jq.Form n x) : (x.kind = 0 → Jq.rp n x = some Jq.wNull) ∧ (x.kind = 1 → Jq.rp n x = some (if x.bool then Jq.wTrue else Jq.wFalse)) ∧ (x.kind = 2 → Jq.rp n x = some (Jq.decimal x.int)) ∧ (x.kind = 3 → Jq.rp n x = some (Jq.quoted x.text)) := by
  refine ⟨fun hk => ?_, fun hk => ?_, fun hk => ?_, fun hk => ?_⟩
  all_goals
    rw [Jq.rp.eq_def]
    simp [h, hk]
theorem lp_step {el : Jq.J → Option (List Nat)} {ps : List (List Nat × Jq.J)} {k : Nat} {s : List Nat} {RES : Option (List Nat)} {p : List Nat × Jq.J} (h : Hid (RES = Jq.lp el k s (ps.drop k))) (hp : ps[k]? = some p) :
    (el p.2 = none → RES = none) ∧ (∀ y, el p.2 = some y → (4096 < s.length → RES = none) ∧ (¬ 4096 < s.length → RES = Jq.lp el (k + 1) (s ++ ((if k = 0 then [] else [44]) ++ (p.1 ++ y))) (ps.drop (k + 1)))) := by
  have e : RES = Jq.lp el k s (p :: ps.drop (k + 1)) := by rw [h.out, drop_at hp]
  rw [Jq.lp] at e
  refine ⟨fun h1 => ?_, fun y h1 => ⟨fun h2 => ?_, fun h2 => ?_⟩⟩
  · rw [e, h1]
  · rw [e, h1]; simp only; rw [if_pos h2]
  · rw [e, h1]; simp only; rw [if_neg h2]
theorem parts_list {x : Jq.J} (h : x.kind = 4) {k : Nat} {y : Jq.J} (hy : x.list[k]? = some y) : (Jq.parts x)[k]? = some ([], y) := by
  unfold Jq.parts
  rw [if_neg (by omega), List.getElem?_map, hy]; rfl
theorem parts_obj {x : Jq.J} (h : x.kind = 5) {k : Nat} {y : Jq.J} {t : List Nat} (ht : x.names[k]? = some t) (hy : x.list[k]? = some y) : (Jq.parts x)[k]? = some (Jq.quoted t ++ [58], y) := by
  unfold Jq.parts
  rw [if_pos h, List.getElem?_zipWith, ht, hy]
theorem parts_len {x : Jq.J} (h : x.kind = 5 → x.names.length = x.list.length) : (Jq.parts x).length = x.list.length := by
  unfold Jq.parts
  split
  · rename_i h5
    rw [List.length_zipWith, h h5, Nat.min_self]
  · rw [List.length_map]

set_option maxHeartbeats 16000000 in
set_option maxRecDepth 100000 in
theorem print_step (HFO : FormOk) (n : Nat) (hn : n ≤ 16) (ih : ∀ m, n = m + 1 → RPOk m) : RPOk n := by
  intro ok v x w hJ
  obtain ⟨nv, lv, rfl, _, hin, ht, hS, hns, hnl, hL⟩ := hJ.parts
  obtain ⟨A2, c2, rfl⟩ := hL.form
  obtain ⟨A1, c1, rfl⟩ := hS.form
  obtain ⟨D, eD⟩ : ∃ D : Int, ((16 - n : Nat) : Int) = D := ⟨_, rfl⟩
  have hD16 : 0 ≤ D ∧ D ≤ 16 := by omega
  obtain ⟨N, eN⟩ : ∃ N, x.names.length = N := ⟨_, rfl⟩
  obtain ⟨M, eM⟩ : ∃ M, x.list.length = M := ⟨_, rfl⟩
  obtain ⟨K, eK⟩ : ∃ K, x.kind = K := ⟨_, rfl⟩
  obtain ⟨cs, ecs⟩ : ∃ cs, cs = [Value.int .i64 K, .bool x.bool, .int .i64 x.int, .string (strOf x.text), .slice A1 N c1, .slice A2 M c2] := ⟨_, rfl⟩
  obtain ⟨W, eW⟩ : ∃ W, W = w.alloc (.cells cs.toArray 28) := ⟨_, rfl⟩
  have hbW : Below w.heap.size w W := by rw [eW]; exact (Below.refl _ _).alloc (Nat.le_refl _) _
  have hl : Lies W w.heap.size 28 cs := by rw [eW]; exact Lies.new_ rfl
  have hF := HFO _ n hn _ x W (hJ.on hbW)
  rw [eD, eK, eN, eM] at hF
  rw [eD, eK, eN, eM]
  rw [eN] at hS hnl
  rw [eM] at hL
  have HI : Hid (∀ (y : Jq.J) (v : Value) (ok : Nat → Prop) (w' : World), n ≠ 0 → IsJ w' ok v y → Calls Tryd.prog 46 #[v, .int .i64 (D + 1)] w' (RPEnd (Jq.rp (n - 1) y) w')) := fun y v ok w' h0 h => by
    have := ih (n - 1) (by omega) ok v y w' h
    rw [show ((16 - (n - 1) : Nat) : Int) = D + 1 from by omega] at this
    exact this
  have HL := Lib.hid (hL.on hbW)
  have HS := Lib.hid (hS.on hbW)
  have HNS := Lib.hid hns
  have HN := Lib.hid eN
  have HM := Lib.hid eM
  have HK := Lib.hid eK
  have HT := Lib.hid ht
  have HIN := Lib.hid hin
  have HBW := Lib.hid hbW
  rw [ecs] at hl eW
  have HL0 := Lib.hid hl
  have HW := Lib.hid eW
  rw [eW] at hF
  obtain ⟨hD1, hD2⟩ := hD16
  clear eD eN eM eK ecs hbW hl hJ hin ht hS hns hnl hL ih hn eW
  go_enter Tryd.func46, Tryd.ntmps46
  go_wp2_with fail
  refine hF.mono ?_
  rintro e w1 ⟨hb1, ⟨hf, rfl⟩ | ⟨hf, rfl⟩⟩
  rotate_left
  · rw [← HW.out] at hb1
    have HE : Hid (RPEnd (Jq.rp n x) w (.returned (.tuple #[.string { data := #[] }, .bool false])) w1) := RPEnd.no (rp_none hf) (below_more HBW.out hb1)
    clear hF hb1 hf
    go_wp2
    go_ret2
    exact HE.out
  rw [← HW.out] at hb1
  have hbw := below_more HBW.out hb1
  obtain ⟨⟨z0, z1, z2, z3, z4, z5⟩, _⟩ := (HL0.out.below hb1 HL0.out.lt).six
  have HLW := Lib.hid (fun (W' : World) (h : Below W.heap.size W W') => HL0.out.below h HL0.out.lt)
  have HF := Lib.hid hf
  obtain ⟨r0, r1, r2, r3⟩ := rp_scalar hf
  rw [HK.out] at r0 r1 r2 r3
  have HFI : Hid (0 ≤ K ∧ K ≤ 5 ∧ x.int ≤ 9007199254740991 ∧ -9007199254740991 ≤ x.int ∧ x.text.length ≤ 4096 ∧ (4 ≤ K → 0 < n ∧ M ≤ 4096) ∧ (K = 5 → N = M ∧ ∀ t ∈ x.names, t.length ≤ 4096)) := by
    obtain ⟨f0, f5, _, _, _, i1, i2, tl, _, _, fl, _, fo⟩ := hf
    rw [HK.out] at f0 f5 fl fo
    rw [HM.out] at fl fo
    rw [HN.out] at fo
    exact ⟨f0, f5, i1, i2, tl, fl, fun h => ⟨(fo h).1, fun t ht => ((fo h).2.1 t ht).1⟩⟩
  have R0 := Lib.hid r0
  have R1 := Lib.hid r1
  have R2 := Lib.hid r2
  have R3 := Lib.hid r3
  have hk6 : K = 0 ∨ K = 1 ∨ K = 2 ∨ K = 3 ∨ K = 4 ∨ K = 5 := by have := HFI.out; omega
  clear hF hf r0 r1 r2 r3 HL0
  rcases hk6 with rfl | rfl | rfl | rfl | rfl | rfl
  · have HE : Hid (RPEnd (Jq.rp n x) w (.returned (.tuple #[.string { data := #[110, 117, 108, 108] }, .bool true])) w1) := RPEnd.yes (y := Jq.wNull) (R0.out rfl) hbw (by decide) (by decide)
    clear hbw hb1
    go_wp2
    go_ret2
    exact HE.out
  · cases hb : x.bool with
    | true =>
      have HE : Hid (RPEnd (Jq.rp n x) w (.returned (.tuple #[.string { data := #[116, 114, 117, 101] }, .bool true])) w1) := RPEnd.yes (y := Jq.wTrue) (by rw [R1.out rfl, hb]; rfl) hbw (by decide) (by decide)
      rw [hb] at z1
      clear hbw hb1 hb
      go_wp2
      go_ret2
      exact HE.out
    | false =>
      have HE : Hid (RPEnd (Jq.rp n x) w (.returned (.tuple #[.string { data := #[102, 97, 108, 115, 101] }, .bool true])) w1) := RPEnd.yes (y := Jq.wFalse) (by rw [R1.out rfl, hb]; rfl) hbw (by decide) (by decide)
      rw [hb] at z1
      clear hbw hb1 hb
      go_wp2
      go_ret2
      exact HE.out
  · have hDe := decimal_any x.int HIN.out.1 HIN.out.2 w1
    clear hb1
    go_wp2_with fail
    refine hDe.mono ?_
    rintro e w2 ⟨rfl, hb2⟩
    have HE : Hid (RPEnd (Jq.rp n x) w (.returned (.tuple #[.string (strOf (Jq.decimal x.int)), .bool true])) w2) := RPEnd.yes (R2.out (by simp)) (below_more hbw hb2) (decimal_byte' x.int) (by have := decimal_len' HIN.out.1 HIN.out.2; omega)
    clear hDe hb2 hbw
    go_wp2
    go_ret2
    exact HE.out
  · have hQu := refQuoted_any (strOf x.text) (by rw [strOf_size]; exact HFI.out.2.2.2.2.1) w1
    rw [numsOf_strOf HT.out.2] at hQu
    clear hb1
    go_wp2_with fail
    refine hQu.mono ?_
    rintro e w2 ⟨rfl, hb2⟩
    have hqb := quoted_byte HT.out.2 HFI.out.2.2.2.2.1
    have HE : Hid (RPEnd (Jq.rp n x) w (.returned (.tuple #[.string (strOf (Jq.quoted x.text)), .bool true])) w2) := RPEnd.yes (R3.out (by simp)) (below_more hbw hb2) hqb.1 (by have := hqb.2; omega)
    clear hQu hb2 hbw hqb
    go_wp2
    go_ret2
    exact HE.out
  · have HL1W : Hid (∀ W', Below W.heap.size W W' → Lies W' w.heap.size 28 [.int .i64 4, .bool x.bool, .int .i64 x.int, .string (strOf x.text), .slice A1 N c1, .slice A2 M c2]) := fun W' h => HLW.out W' h
    obtain ⟨m, hm⟩ : ∃ m, n = m + 1 := ⟨n - 1, by have := (HFI.out.2.2.2.2.2.1 (by decide)).1; omega⟩
    have hM4 : M ≤ 4096 := (HFI.out.2.2.2.2.2.1 (by decide)).2
    have HRP : Hid (Jq.rp n x = (Jq.lp (Jq.rp (n - 1)) 0 [] (Jq.parts x)).bind fun s => if s.length ≤ 4096 then some (91 :: (s ++ [93])) else none) := by
      unfold Hid
      have hf := HF.out
      rw [hm] at hf ⊢
      rw [rp_list hf (by rw [HK.out]; decide), HK.out]
      rfl
    have HPL : Hid ((Jq.parts x).length = M) := by unfold Hid; rw [parts_len (fun _ => by rw [HN.out, HM.out]; exfalso; rename_i h; rw [HK.out] at h; exact absurd h (by decide)), HM.out]
    have hn0 : n ≠ 0 := by omega
    obtain ⟨el, eel⟩ : ∃ el, Jq.rp (n - 1) = el := ⟨_, rfl⟩
    have HI2 : Hid (∀ (y : Jq.J) (v : Value) (ok : Nat → Prop) (w' : World), IsJ w' ok v y → Calls Tryd.prog 46 #[v, .int .i64 (D + 1)] w' (RPEnd (el y) w')) := fun y v ok w' h => by rw [← eel]; exact HI.out y v ok w' hn0 h
    rw [eel] at HRP


    clear hm hn0 eel HI R0 R1 R2 R3 hbw
    go_wp2_with fail
    go_loopw [6, 7] (fun sv i wr => ∃ (k : Nat) (s : List Nat), sv = .string (strOf s) ∧ i = .int .i64 k ∧ k ≤ M ∧ (∀ b ∈ s, b < 256) ∧ s.length ≤ 60000 ∧ Below W.heap.size W wr ∧ Hid (Jq.lp el 0 [] (Jq.parts x) = Jq.lp el k s ((Jq.parts x).drop k))) (fun _ i _ => M - (intOf i).toNat)
    case atStart => exact ⟨0, [], rfl, rfl, Nat.zero_le _, (fun b h => nomatch h), Nat.zero_le _, hb1, Lib.hid rfl⟩
    case round =>
      clear z0 z1 z2 z3 z4 z5 hb1
      obtain ⟨k, s, rfl, rfl, hk, hsb, hsl, hb, hlp⟩ := hrel
      have hLr : Lies wr w.heap.size 28 _ := HL1W.out wr hb
      obtain ⟨⟨z0, z1, z2, z3, z4, z5⟩, _⟩ := hLr.six
      by_cases hlt : k < M
      · obtain ⟨b, off, y, B1, e1, B2, e2, rfl, hbo, hblt, hy, hJy, s0, s1, s2, s3, s4, s5⟩ := (HL.out.on hb).elem (by rw [HM.out]; exact hlt)
        obtain ⟨st1, st2⟩ := lp_step hlp (parts_list HK.out hy)
        have hC := HI2.out y _ _ wr hJy
        have ST1 := Lib.hid st1
        have ST2 := Lib.hid st2
        clear hy hJy st1 st2 hlp
        go_wp2_with fail
        refine hC.mono ?_
        intro e w2 hh
        clear hC
        rcases RPEnd.cases hh with ⟨yy, hr, rfl, hyb, hyl, hb2⟩ | ⟨sx, hr, rfl, hb2⟩
        rotate_left
        · have HE : Hid (RPEnd (Jq.rp n x) w (.returned (.tuple #[.string { data := #[] }, .bool false])) w2) := RPEnd.no (by rw [HRP.out, ST1.out hr]; rfl) (below_more HBW.out (hb.trans (hb2.mono hb.size)))
          clear hh hr hb2 hb z0 z1 z2 z3 z4 z5 s0 s1 s2 s3 s4 s5
          go_wp2
          go_ret2
          exact HE.out
        have hb3 := hb.trans (hb2.mono hb.size)
        have hs2 := ST2.out yy hr
        have hsz : ((strOf s).size : Int) = (s.length : Int) := by rw [strOf_size]
        by_cases hbig : 4096 < s.length
        · have d4 : decide ((4096 : Int) < ((strOf s).size : Int)) = true := decide_eq_true (by omega)
          have HE : Hid (RPEnd (Jq.rp n x) w (.returned (.tuple #[.string { data := #[] }, .bool false])) w2) := RPEnd.no (by rw [HRP.out, hs2.1 hbig]; rfl) (below_more HBW.out hb3)
          clear hh hr hb2 hb hb3 hs2 hbig hsz z0 z1 z2 z3 z4 z5 s0 s1 s2 s3 s4 s5
          go_wp2
          go_ret2
          exact HE.out
        have d4 : decide ((4096 : Int) < ((strOf s).size : Int)) = false := decide_eq_false (by omega)
        have HS2 := Lib.hid (hs2.2 hbig)
        have hxs : (strOf s).size ≤ 4096 := by rw [strOf_size]; omega
        have hys : (strOf yy).size ≤ 24600 := by rw [strOf_size]; exact hyl
        have hL2 : Lies w2 w.heap.size 28 _ := HL1W.out w2 hb3
        clear z0 z1 z2 z3 z4 z5 s0 s1 s2 s3 s4 s5
        obtain ⟨⟨z0, z1, z2, z3, z4, z5⟩, _⟩ := hL2.six
        by_cases h0 : k = 0
        · have d0 : ¬ 0 < k := by omega
          have HEQ : Hid ((strOf s) ++ strOf yy = strOf (s ++ ([] ++ ([] ++ yy)))) := by unfold Hid; simp only [strOf_append]; simp
          have HNB : Hid (∀ b ∈ s ++ ([] ++ ([] ++ yy)), b < 256) := fun b hb' => by
            simp only [List.mem_append, List.not_mem_nil, false_or] at hb'
            rcases hb' with h | h
            all_goals first | exact hsb b h | exact hyb b h | (rw [h]; decide)
          have HNL : Hid ((s ++ ([] ++ ([] ++ yy))).length ≤ 60000) := by
            unfold Hid
            simp only [List.length_append, List.length_nil]
            omega
          have HLP : Hid (Jq.lp el 0 [] (Jq.parts x) = Jq.lp el (k + 1) (s ++ ([] ++ ([] ++ yy))) ((Jq.parts x).drop (k + 1))) := by
            unfold Hid
            rw [HS2.out, if_pos h0]
          generalize strOf s = X at *
          generalize strOf yy = Y at *
          clear hh hr hsb hyb hyl hsl hsz hbig hs2 h0 HS2
          go_wp2
          go_roundw
          case rel => exact ⟨k + 1, _, by rw [← HEQ.out], by go_num, hlt, HNB.out, HNL.out, hb3, HLP⟩
          case measure => simp [intOf]; omega
        · have d0 : 0 < k := by omega
          have HEQ : Hid ((strOf s ++ { data := #[44] }) ++ strOf yy = strOf (s ++ ([44] ++ ([] ++ yy)))) := by unfold Hid; simp only [show ({ data := #[44] } : ByteArray) = strOf [44] from rfl, strOf_append]; simp [List.append_assoc]
          have HNB : Hid (∀ b ∈ s ++ ([44] ++ ([] ++ yy)), b < 256) := fun b hb' => by
            simp only [List.mem_append, List.mem_cons, List.not_mem_nil, or_false, false_or] at hb'
            rcases hb' with h | h | h
            all_goals first | exact hsb b h | exact hyb b h | (rw [h]; decide)
          have HNL : Hid ((s ++ ([44] ++ ([] ++ yy))).length ≤ 60000) := by
            unfold Hid
            simp only [List.length_append, List.length_cons, List.length_nil]
            omega
          have HLP : Hid (Jq.lp el 0 [] (Jq.parts x) = Jq.lp el (k + 1) (s ++ ([44] ++ ([] ++ yy))) ((Jq.parts x).drop (k + 1))) := by
            unfold Hid
            rw [HS2.out, if_neg h0]
          generalize strOf s = X at *
          generalize strOf yy = Y at *
          clear hh hr hsb hyb hyl hsl hsz hbig hs2 h0 HS2
          go_wp2
          go_roundw
          case rel => exact ⟨k + 1, _, by rw [← HEQ.out], by go_num, hlt, HNB.out, HNL.out, hb3, HLP⟩
          case measure => simp [intOf]; omega
      · obtain rfl : k = M := by omega
        have hd2 : decide ((k : Int) < (k : Int)) = false := by simp
        have hsz : ((strOf s).size : Int) = (s.length : Int) := by rw [strOf_size]
        have hxs : (strOf s).size ≤ 60000 := by rw [strOf_size]; exact hsl
        have HLS : Hid (Jq.lp el 0 [] (Jq.parts x) = some s) := by
          unfold Hid
          rw [hlp.out, List.drop_eq_nil_of_le (by rw [HPL.out]; exact Nat.le_refl _)]
          rw [Jq.lp]
        by_cases hbig : s.length ≤ 4096
        · have d4 : decide (((strOf s).size : Int) ≤ 4096) = true := decide_eq_true (by omega)
          have HE : Hid (RPEnd (Jq.rp n x) w (.returned (.tuple #[.string ({ data := #[91] } ++ strOf s ++ { data := #[93] }), .bool true])) wr) := by
            have e : ({ data := #[91] } : ByteArray) ++ strOf s ++ { data := #[93] } = strOf (91 :: (s ++ [93])) := by
              simp only [show ({ data := #[91] } : ByteArray) = strOf [91] from rfl, show ({ data := #[93] } : ByteArray) = strOf [93] from rfl, strOf_append]
              simp
            rw [e]
            refine RPEnd.yes (by rw [HRP.out, HLS.out]; show (if _ then _ else _) = _; rw [if_pos hbig]) (below_more HBW.out hb) (fun b hb' => ?_) (by simp; omega)
            simp only [List.mem_append, List.mem_cons, List.not_mem_nil, or_false] at hb'
            rcases hb' with h | h | h
            · rw [h]; decide
            · exact hsb b h
            · rw [h]; decide
          generalize strOf s = X at *
          clear hbig hsz hb hsb hsl hlp hLr
          go_wp2
          go_ret2
          exact HE.out
        · have d4 : decide (((strOf s).size : Int) ≤ 4096) = false := decide_eq_false (by omega)
          have HE : Hid (∀ s', RPEnd (Jq.rp n x) w (.returned (.tuple #[.string s', .bool false])) wr) := fun s' => RPEnd.no (by rw [HRP.out, HLS.out]; show (if _ then _ else _) = _; rw [if_neg hbig]) (below_more HBW.out hb)
          generalize strOf s = X at *
          clear hbig hsz hb hsb hsl hlp hLr
          go_wp2
          go_ret2
          exact HE.out _
  · have HL1W : Hid (∀ W', Below W.heap.size W W' → Lies W' w.heap.size 28 [.int .i64 5, .bool x.bool, .int .i64 x.int, .string (strOf x.text), .slice A1 N c1, .slice A2 M c2]) := fun W' h => HLW.out W' h
    obtain ⟨m, hm⟩ : ∃ m, n = m + 1 := ⟨n - 1, by have := (HFI.out.2.2.2.2.2.1 (by decide)).1; omega⟩
    have hM4 : M ≤ 4096 := (HFI.out.2.2.2.2.2.1 (by decide)).2
    have HRP : Hid (Jq.rp n x = (Jq.lp (Jq.rp (n - 1)) 0 [] (Jq.parts x)).bind fun s => if s.length ≤ 4096 then some (123 :: (s ++ [125])) else none) := by
      unfold Hid
      have hf := HF.out
      rw [hm] at hf ⊢
      rw [rp_list hf (by rw [HK.out]; decide), HK.out]
      rfl
    have HPL : Hid ((Jq.parts x).length = M) := by unfold Hid; rw [parts_len (fun _ => by rw [HN.out, HM.out]; exact (HFI.out.2.2.2.2.2.2 rfl).1), HM.out]
    have hn0 : n ≠ 0 := by omega
    obtain ⟨el, eel⟩ : ∃ el, Jq.rp (n - 1) = el := ⟨_, rfl⟩
    have HI2 : Hid (∀ (y : Jq.J) (v : Value) (ok : Nat → Prop) (w' : World), IsJ w' ok v y → Calls Tryd.prog 46 #[v, .int .i64 (D + 1)] w' (RPEnd (el y) w')) := fun y v ok w' h => by rw [← eel]; exact HI.out y v ok w' hn0 h
    rw [eel] at HRP
    have hNM : M = N := (HFI.out.2.2.2.2.2.2 rfl).1.symm
    subst hNM
    clear hm hn0 eel HI R0 R1 R2 R3 hbw
    go_wp2_with fail
    go_loopw [6, 7] (fun sv i wr => ∃ (k : Nat) (s : List Nat), sv = .string (strOf s) ∧ i = .int .i64 k ∧ k ≤ M ∧ (∀ b ∈ s, b < 256) ∧ s.length ≤ 60000 ∧ Below W.heap.size W wr ∧ Hid (Jq.lp el 0 [] (Jq.parts x) = Jq.lp el k s ((Jq.parts x).drop k))) (fun _ i _ => M - (intOf i).toNat)
    case atStart => exact ⟨0, [], rfl, rfl, Nat.zero_le _, (fun b h => nomatch h), Nat.zero_le _, hb1, Lib.hid rfl⟩
    case round =>
      clear z0 z1 z2 z3 z4 z5 hb1
      obtain ⟨k, s, rfl, rfl, hk, hsb, hsl, hb, hlp⟩ := hrel
      have hLr : Lies wr w.heap.size 28 _ := HL1W.out wr hb
      obtain ⟨⟨z0, z1, z2, z3, z4, z5⟩, _⟩ := hLr.six
      by_cases hlt : k < M
      · obtain ⟨b, off, y, B1, e1, B2, e2, rfl, hbo, hblt, hy, hJy, s0, s1, s2, s3, s4, s5⟩ := (HL.out.on hb).elem (by rw [HM.out]; exact hlt)
        obtain ⟨b', off', t, rfl, _, hblt', hNc, htx, t0⟩ := slIs_text (HS.out.on hb) HN.out hlt
        have htn := List.mem_of_getElem? htx
        have htb := (HNS.out t htn).2
        have htl := (HFI.out.2.2.2.2.2.2 (by simp)).2 t htn
        obtain ⟨hqb, hql⟩ := quoted_byte htb htl
        obtain ⟨st1, st2⟩ := lp_step hlp (parts_obj HK.out htx hy)
        have hQu := fun w' => refQuoted_any (strOf t) (by rw [strOf_size]; exact htl) w'
        rw [numsOf_strOf htb] at hQu
        have HHB := Lib.hid hblt'
        have HTC := Lib.hid t0
        clear htx hNc htn htb htl t0
        have hC := HI2.out y _ _ wr hJy
        have ST1 := Lib.hid st1
        have ST2 := Lib.hid st2
        clear hy hJy st1 st2 hlp
        go_wp2_with fail
        refine hC.mono ?_
        intro e w2 hh
        clear hC
        rcases RPEnd.cases hh with ⟨yy, hr, rfl, hyb, hyl, hb2⟩ | ⟨sx, hr, rfl, hb2⟩
        rotate_left
        · have HE : Hid (RPEnd (Jq.rp n x) w (.returned (.tuple #[.string { data := #[] }, .bool false])) w2) := RPEnd.no (by rw [HRP.out, ST1.out hr]; rfl) (below_more HBW.out (hb.trans (hb2.mono hb.size)))
          clear hh hr hb2 hb z0 z1 z2 z3 z4 z5 s0 s1 s2 s3 s4 s5
          go_wp2
          go_ret2
          exact HE.out
        have hb3 := hb.trans (hb2.mono hb.size)
        have hs2 := ST2.out yy hr
        have hsz : ((strOf s).size : Int) = (s.length : Int) := by rw [strOf_size]
        by_cases hbig : 4096 < s.length
        · have d4 : decide ((4096 : Int) < ((strOf s).size : Int)) = true := decide_eq_true (by omega)
          have HE : Hid (RPEnd (Jq.rp n x) w (.returned (.tuple #[.string { data := #[] }, .bool false])) w2) := RPEnd.no (by rw [HRP.out, hs2.1 hbig]; rfl) (below_more HBW.out hb3)
          clear hh hr hb2 hb hb3 hs2 hbig hsz z0 z1 z2 z3 z4 z5 s0 s1 s2 s3 s4 s5
          go_wp2
          go_ret2
          exact HE.out
        have d4 : decide ((4096 : Int) < ((strOf s).size : Int)) = false := decide_eq_false (by omega)
        have HS2 := Lib.hid (hs2.2 hbig)
        have hxs : (strOf s).size ≤ 4096 := by rw [strOf_size]; omega
        have hys : (strOf yy).size ≤ 24600 := by rw [strOf_size]; exact hyl
        have hL2 : Lies w2 w.heap.size 28 _ := HL1W.out w2 hb3
        clear z0 z1 z2 z3 z4 z5 s0 s1 s2 s3 s4 s5
        obtain ⟨⟨z0, z1, z2, z3, z4, z5⟩, _⟩ := hL2.six
        by_cases h0 : k = 0
        · have d0 : ¬ 0 < k := by omega
          have HEQ : Hid ((((strOf s) ++ strOf (Jq.quoted t)) ++ { data := #[58] }) ++ strOf yy = strOf (s ++ ([] ++ ((Jq.quoted t ++ [58]) ++ yy)))) := by unfold Hid; simp only [show ({ data := #[58] } : ByteArray) = strOf [58] from rfl, strOf_append]; simp [List.append_assoc]
          have HNB : Hid (∀ b ∈ s ++ ([] ++ ((Jq.quoted t ++ [58]) ++ yy)), b < 256) := fun b hb' => by
            simp only [List.mem_append, List.mem_cons, List.not_mem_nil, or_false, false_or] at hb'
            rcases hb' with h | (h | h) | h
            all_goals first | exact hsb b h | exact hyb b h | exact hqb b h | (rw [h]; decide)
          have HNL : Hid ((s ++ ([] ++ ((Jq.quoted t ++ [58]) ++ yy))).length ≤ 60000) := by
            unfold Hid
            simp only [List.length_append, List.length_cons, List.length_nil]
            omega
          have HLP : Hid (Jq.lp el 0 [] (Jq.parts x) = Jq.lp el (k + 1) (s ++ ([] ++ ((Jq.quoted t ++ [58]) ++ yy))) ((Jq.parts x).drop (k + 1))) := by
            unfold Hid
            rw [HS2.out, if_pos h0]
          have hQu := hQu w2
          have hqs : (strOf (Jq.quoted t)).size ≤ 24578 := by rw [strOf_size]; exact hql
          have hbk := (World.cell?_of_block (a := ⟨b', off' + k, none⟩) (hb2.block b' HHB.out)).trans HTC.out
          generalize strOf (Jq.quoted t) = Q at *
          generalize strOf s = X at *
          generalize strOf yy = Y at *
          clear hh hr hsb hyb hyl hsl hsz hbig hs2 hqb hql h0 HS2
          go_wp2_with fail
          refine hQu.mono ?_
          rintro e w3 ⟨rfl, hb4⟩
          have hb5 := hb3.trans (hb4.mono hb3.size)
          clear hQu hb4 hb2
          go_wp2
          go_roundw
          case rel => exact ⟨k + 1, _, by rw [← HEQ.out], by go_num, hlt, HNB.out, HNL.out, hb5, HLP⟩
          case measure => simp [intOf]; omega
        · have d0 : 0 < k := by omega
          have HEQ : Hid ((((strOf s ++ { data := #[44] }) ++ strOf (Jq.quoted t)) ++ { data := #[58] }) ++ strOf yy = strOf (s ++ ([44] ++ ((Jq.quoted t ++ [58]) ++ yy)))) := by unfold Hid; simp only [show ({ data := #[44] } : ByteArray) = strOf [44] from rfl, show ({ data := #[58] } : ByteArray) = strOf [58] from rfl, strOf_append]; simp [List.append_assoc]
          have HNB : Hid (∀ b ∈ s ++ ([44] ++ ((Jq.quoted t ++ [58]) ++ yy)), b < 256) := fun b hb' => by
            simp only [List.mem_append, List.mem_cons, List.not_mem_nil, or_false] at hb'
            rcases hb' with h | h | (h | h) | h
            all_goals first | exact hsb b h | exact hyb b h | exact hqb b h | (rw [h]; decide)
          have HNL : Hid ((s ++ ([44] ++ ((Jq.quoted t ++ [58]) ++ yy))).length ≤ 60000) := by
            unfold Hid
            simp only [List.length_append, List.length_cons, List.length_nil]
            omega
          have HLP : Hid (Jq.lp el 0 [] (Jq.parts x) = Jq.lp el (k + 1) (s ++ ([44] ++ ((Jq.quoted t ++ [58]) ++ yy))) ((Jq.parts x).drop (k + 1))) := by
            unfold Hid
            rw [HS2.out, if_neg h0]
          have hQu := hQu w2
          have hqs : (strOf (Jq.quoted t)).size ≤ 24578 := by rw [strOf_size]; exact hql
          have hbk := (World.cell?_of_block (a := ⟨b', off' + k, none⟩) (hb2.block b' HHB.out)).trans HTC.out
          generalize strOf (Jq.quoted t) = Q at *
          generalize strOf s = X at *
          generalize strOf yy = Y at *
          clear hh hr hsb hyb hyl hsl hsz hbig hs2 hqb hql h0 HS2
          go_wp2_with fail
          refine hQu.mono ?_
          rintro e w3 ⟨rfl, hb4⟩
          have hb5 := hb3.trans (hb4.mono hb3.size)
          clear hQu hb4 hb2
          go_wp2
          go_roundw
          case rel => exact ⟨k + 1, _, by rw [← HEQ.out], by go_num, hlt, HNB.out, HNL.out, hb5, HLP⟩
          case measure => simp [intOf]; omega
      · obtain rfl : k = M := by omega
        have hd2 : decide ((k : Int) < (k : Int)) = false := by simp
        have hsz : ((strOf s).size : Int) = (s.length : Int) := by rw [strOf_size]
        have hxs : (strOf s).size ≤ 60000 := by rw [strOf_size]; exact hsl
        have HLS : Hid (Jq.lp el 0 [] (Jq.parts x) = some s) := by
          unfold Hid
          rw [hlp.out, List.drop_eq_nil_of_le (by rw [HPL.out]; exact Nat.le_refl _)]
          rw [Jq.lp]
        by_cases hbig : s.length ≤ 4096
        · have d4 : decide (((strOf s).size : Int) ≤ 4096) = true := decide_eq_true (by omega)
          have HE : Hid (RPEnd (Jq.rp n x) w (.returned (.tuple #[.string ({ data := #[123] } ++ strOf s ++ { data := #[125] }), .bool true])) wr) := by
            have e : ({ data := #[123] } : ByteArray) ++ strOf s ++ { data := #[125] } = strOf (123 :: (s ++ [125])) := by
              simp only [show ({ data := #[123] } : ByteArray) = strOf [123] from rfl, show ({ data := #[125] } : ByteArray) = strOf [125] from rfl, strOf_append]
              simp
            rw [e]
            refine RPEnd.yes (by rw [HRP.out, HLS.out]; show (if _ then _ else _) = _; rw [if_pos hbig]) (below_more HBW.out hb) (fun b hb' => ?_) (by simp; omega)
            simp only [List.mem_append, List.mem_cons, List.not_mem_nil, or_false] at hb'
            rcases hb' with h | h | h
            · rw [h]; decide
            · exact hsb b h
            · rw [h]; decide
          generalize strOf s = X at *
          clear hbig hsz hb hsb hsl hlp hLr
          go_wp2
          go_ret2
          exact HE.out
        · have d4 : decide (((strOf s).size : Int) ≤ 4096) = false := decide_eq_false (by omega)
          have HE : Hid (∀ s', RPEnd (Jq.rp n x) w (.returned (.tuple #[.string s', .bool false])) wr) := fun s' => RPEnd.no (by rw [HRP.out, HLS.out]; show (if _ then _ else _) = _; rw [if_neg hbig]) (below_more HBW.out hb)
          generalize strOf s = X at *
          clear hbig hsz hb hsb hsl hlp hLr
          go_wp2
          go_ret2
          exact HE.out _
theorem print_all (HFO : FormOk) : ∀ n, n ≤ 16 → RPOk n
  | 0, h => print_step HFO 0 h fun m e => by omega
  | n + 1, h => print_step HFO (n + 1) h fun m e => by
    have : n = m := by omega
    subst this
    exact print_all HFO n (by omega)
end Go.Proofs.YtoocejcoaojaiaaDoor

/-
  The document's Print; the program's Right; the laws JsonPrints and JsonRight.
-/
namespace Go.Proofs.YtoocejcoaojaiaaDoor
open Go.RowKit
set_option maxRecDepth 100000 in
set_option maxHeartbeats 2000000 in
theorem refPrint_any (HFO : FormOk) {ok : Nat → Prop} (v : Value) (x : Jq.J) (w : World) (hJ : IsJ w ok v x) :
    Calls Tryd.prog 36 #[v] w (PrintEnd (Jq.valueP 16 [] x) w) := by
  obtain ⟨A1, c1, A2, c2, rfl⟩ := hJ.form
  have hb0 : ∀ o, Below w.heap.size w (w.alloc o) := fun o => (Below.refl _ _).alloc (Nat.le_refl _) o
  have hv := print_all HFO 16 (Nat.le_refl _) ok _ x (w.alloc (.cells #[.int .i64 x.kind, .bool x.bool, .int .i64 x.int, .string (strOf x.text), .slice A1 x.names.length c1, .slice A2 x.list.length c2] 28)) (hJ.on (hb0 _))
  rw [show ((16 - 16 : Nat) : Int) = 0 from rfl] at hv
  have hrp := Jq.rp_valueP x
  obtain ⟨RES, eRES⟩ : ∃ RES, Jq.valueP 16 [] x = RES := ⟨_, rfl⟩
  obtain ⟨RP, eRP⟩ : ∃ RP, Jq.rp 16 x = RP := ⟨_, rfl⟩
  rw [eRES, eRP] at hrp
  rw [eRP] at hv
  rw [eRES]
  have HRP := Lib.hid hrp
  have HB0 := Lib.hid hb0
  clear eRES eRP hrp hb0 hJ
  go_enter Tryd.func36, Tryd.ntmps36
  go_wp2_with fail
  refine hv.mono ?_
  intro e w1 hh
  clear hv
  rcases RPEnd.cases hh with ⟨y, hr, rfl, hyb, hyl, hb⟩ | ⟨sx, hr, rfl, hb⟩
  · have hbw := (HB0.out _).trans (hb.mono (HB0.out _).size)
    have hsz : ((strOf y).size : Int) = (y.length : Int) := by rw [strOf_size]
    by_cases hl : y.length ≤ 4096
    · have d : decide ((4096 : Int) < ((strOf y).size : Int)) = false := decide_eq_false (by omega)
      have HE : Hid (PrintEnd RES w (.returned (.tuple #[.string (strOf y), .bool true])) w1) := ⟨hbw, by rw [← HRP.out, hr]; simp only; rw [if_pos hl]; exact ⟨rfl, hyb, hl⟩⟩
      clear hh hr hyb hyl hb hbw hsz hl
      go_wp2
      go_ret2
      exact HE.out
    · have d : decide ((4096 : Int) < ((strOf y).size : Int)) = true := decide_eq_true (by omega)
      have HE : Hid (PrintEnd RES w (.returned (.tuple #[.string ByteArray.empty, .bool false])) w1) := ⟨hbw, by rw [← HRP.out, hr]; simp only; rw [if_neg hl]; trivial⟩
      clear hh hr hyb hyl hb hbw hsz hl
      go_wp2
      go_ret2
      exact HE.out
  · have HE : Hid (PrintEnd RES w (.returned (.tuple #[.string ByteArray.empty, .bool false])) w1) := ⟨(HB0.out _).trans (hb.mono (HB0.out _).size), by rw [← HRP.out, hr]⟩
    clear hh hr hb
    go_wp2
    go_ret2
    exact HE.out
set_option maxRecDepth 100000 in
theorem right_any {ok : Nat → Prop} (v : Value) (x : Jq.J) (w : World) (hH : Held w) (hJ : IsJ w ok v x) :
    Calls Tryd.prog 31 #[v] w fun e w' => e = .returned (.bool (Jq.valueP 16 [] x).isSome) ∧ Below w.heap.size w w' := by
  obtain ⟨A1, c1, A2, c2, rfl⟩ := hJ.form
  have hb0 : ∀ o, Below w.heap.size w (w.alloc o) := fun o => (Below.refl _ _).alloc (Nat.le_refl _) o
  have hv := print_any _ x (w.alloc (.cells #[.int .i64 x.kind, .bool x.bool, .int .i64 x.int, .string (strOf x.text), .slice A1 x.names.length c1, .slice A2 x.list.length c2] 28)) (hH.below (hb0 _)) (hJ.on (hb0 _))
  have HB0 := Lib.hid hb0
  clear hb0 hJ hH
  go_enter Tryd.func31, Tryd.ntmps31
  go_wp2_with fail
  refine hv.mono ?_
  intro e w1 hh
  clear hv
  rcases PrintEnd.cases hh with ⟨B, hr, rfl, _, _, hb⟩ | ⟨hr, rfl, hb⟩
  all_goals
    have hbw := (HB0.out _).trans (hb.mono (HB0.out _).size)
    have HR := Lib.hid hr
    clear hh hr hb
    go_wp2
    go_ret
    exact ⟨by rw [HR.out]; rfl, hbw⟩

end Go.Proofs.YtoocejcoaojaiaaDoor
