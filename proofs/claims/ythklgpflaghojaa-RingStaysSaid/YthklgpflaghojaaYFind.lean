/-
  The contracts of Find and Signing, and of the document's.
-/
import Derived.Test.YthklgpflaghojaaYFits
namespace Go.Proofs.Ythklgpflaghojaa
open Go.RowKit

/-- What Find and Signing answer. -/
def FoundEnd (ok : Nat → Prop) (res : Option Kq.K) (w : World) (e : Ending) (w' : World) : Prop := Below w.heap.size w w' ∧ match res with
  | some x => ∃ A c, e = .returned (.tuple #[kv x.id (.slice A x.secret.length c) x.made x.ends, .bool true]) ∧ IsK w' ok (kv x.id (.slice A x.secret.length c) x.made x.ends) x
  | none => e = .returned (.tuple #[kv ByteArray.empty nilS 0 0, .bool false])
abbrev zero4 : List Value := [.string { data := #[] }, .slice none 0 0, .int .i64 0, .int .i64 0]
theorem FoundEnd.hit {ok : Nat → Prop} {res : Option Kq.K} {x : Kq.K} {w W : World} {A : Option Addr} {c : Nat} (h : res = some x) (hb : Below w.heap.size w W) (hK : IsK (put4 W w.heap.size (.string x.id) (.slice A x.secret.length c) (.int .i64 x.made) (.int .i64 x.ends)) ok (kv x.id (.slice A x.secret.length c) x.made x.ends) x) :
    FoundEnd ok res w (.returned (.tuple #[kv x.id (.slice A x.secret.length c) x.made x.ends, .bool true])) (put4 W w.heap.size (.string x.id) (.slice A x.secret.length c) (.int .i64 x.made) (.int .i64 x.ends)) :=
  ⟨below_put4 hb (Nat.le_refl _), by rw [h]; exact ⟨A, c, rfl, hK⟩⟩
theorem FoundEnd.miss {ok : Nat → Prop} {res : Option Kq.K} {w W : World} (h : res = none) (hb : Below w.heap.size w W) : FoundEnd ok res w (.returned (.tuple #[kv ByteArray.empty nilS 0 0, .bool false])) (put4 W w.heap.size (.string { data := #[] }) (.slice none 0 0) (.int .i64 0) (.int .i64 0)) :=
  ⟨below_put4 hb (Nat.le_refl _), by rw [h]⟩
/-- A key that lies elsewhere, when the four cells are written. -/
theorem IsK.far4 {w : World} {g : Nat} {a b c d v : Value} {x : Kq.K} {ok : Nat → Prop} (h : IsK w ok v x) (hg : ∀ k, ok k → k ≠ g) : IsK (Go.Proofs.Ythklgpflaghojaa.put4 w g a b c d) ok v x :=
  h.keep (fun k hk _ => ⟨hk, put4_far (hg k hk)⟩) (Nat.le_of_eq put4_size.symm)

set_option maxHeartbeats 1000000 in
set_option maxRecDepth 100000 in
theorem find_any {ok : Nat → Prop} (l : List Kq.K) (A : Option Addr) (c n : Nat) (id : ByteArray) (now : Int) (w : World) (hL : KsIs w ok (.slice A n c) l) (hn : l.length = n) :
    Calls Try.prog 22 #[.slice A n c, .string id, .int .i64 now] w (FoundEnd (w.heap.size ≤ ·) (Kq.find l id now) w) := by
  have hns : n * 56 ≤ 140737488355328 := by rw [← hn]; exact hL.len
  obtain ⟨W1, eW1⟩ : ∃ W1, W1 = w.alloc (.cells #[.string { data := #[] }, .slice none 0 0, .int .i64 0, .int .i64 0] 27) := ⟨_, rfl⟩
  have hb1 : Below w.heap.size w W1 := by rw [eW1]; exact below_new _ _
  have hl1 : Lies W1 w.heap.size 27 zero4 := by rw [eW1]; exact Lies.new_ rfl
  have hs : W1.heap.size = w.heap.size + 1 := by rw [eW1]; simp
  have HL := Lib.hid (hL.on hb1)
  have HN := Lib.hid hn
  have HB := Lib.hid hb1
  have HL1 := Lib.hid hl1
  have HS := Lib.hid hs
  have HW := Lib.hid eW1
  clear hL hn hb1 hl1 hs eW1
  go_enter Try.func22, Try.ntmps22
  go_wp2_with fail
  rw [← HW.out]
  go_loopw [12] (fun i wr => ∃ k : Nat, i = .int .i64 k ∧ k ≤ n ∧ Hid (Kq.find (l.take k) id now = none) ∧ Below W1.heap.size W1 wr) (fun i _ => n - (intOf i).toNat)
  case atStart => exact ⟨0, rfl, Nat.zero_le _, rfl, Below.refl _ _⟩
  case round =>
    obtain ⟨k, rfl, hk, he, hb⟩ := hrel
    by_cases hlt : k < n
    · obtain ⟨b, off, x, A1, c1, rfl, _, _, hx, hK, s0, s1, s2, s3⟩ := (HL.out.on hb).elem (by rw [HN.out]; exact hlt)
      have hid := Kq.id_beq x.id id
      obtain ⟨W2, eW2⟩ : ∃ W2, W2 = wr.alloc (.cells #[.string x.id, .slice A1 x.secret.length c1, .int .i64 x.made, .int .i64 x.ends] 27) := ⟨_, rfl⟩
      have hb2 : Below wr.heap.size wr W2 := by rw [eW2]; exact below_new _ _
      have hl2 : Lies W2 wr.heap.size 27 [.string x.id, .slice A1 x.secret.length c1, .int .i64 x.made, .int .i64 x.ends] := by rw [eW2]; exact Lies.new_ rfl
      have hb3 := below_more hb hb2
      have HB3 := Lib.hid hb3
      have HX := Lib.hid hx
      by_cases h1 : x.id = id
      · rw [decide_eq_true h1] at hid
        have hG := isGood_any x _ now W2 (hK.on hb2)
        have HK2 := Lib.hid (hK.on hb2)
        have HL2 := Lib.hid hl2
        have HI := Lib.hid h1
        rw [eW2] at hG
        have HW2 := Lib.hid eW2
        clear h1 hx hb hb2 hb3 eW2 hK hl2
        go_wp2_with fail
        refine hG.mono ?_
        rintro e w3 hh
        clear hG
        rw [← HW2.out] at hh
        obtain ⟨hb4, ⟨hg, rfl⟩ | ⟨hg, rfl⟩⟩ := hh
        · have HF : Hid (Kq.find l id now = some x) := Kq.find_hit he.out HX.out ⟨HI.out, hg⟩
          have hC := copied_any x _ w3 (HK2.out.on hb4)
          obtain ⟨⟨y0, y1, y2, y3⟩, _⟩ := (HL2.out.below hb4 HL2.out.lt).four
          have HB4 := Lib.hid (below_more HB3.out hb4)
          clear hg hb4 s0 s1 s2 s3
          go_wp2_with fail
          refine hC.mono ?_
          rintro e w5 ⟨A5, c5, rfl, hK5, hb5⟩
          clear hC y0 y1 y2 y3
          have hb6 := below_more HB4.out hb5
          have hl6 := HL1.out.below hb6 HL1.out.lt
          obtain ⟨⟨z0, z1, z2, z3⟩, f0, f1, f2, f3⟩ := hl6.four
          obtain ⟨⟨t0, t1, t2, t3⟩, _⟩ := (hl6.put4 (a := .string x.id) (b := .slice A5 x.secret.length c5) (c := .int .i64 x.made) (d := .int .i64 x.ends)).four
          have HE := Lib.hid (FoundEnd.hit (ok := (w.heap.size ≤ ·)) HF.out (HB.out.trans (hb6.mono HB.out.size)) (((hK5.from (show w.heap.size + 1 ≤ w3.heap.size from by have := HB4.out.size; have := HS.out; omega)).put4 (a := .string x.id) (b := .slice A5 x.secret.length c5) (c := .int .i64 x.made) (d := .int .i64 x.ends) (Nat.lt_succ_self _)).from (Nat.le_succ _)))
          clear hK5 hb5 hb6 hl6
          go_wp2
          exact bodyPost_ret (v := .tuple #[kv x.id (.slice A5 x.secret.length c5) x.made x.ends, .bool true]) (by simp [results, Try.results22, go_sem, t0, t1, t2, t3]) rfl HE.out
        · have HQ : Hid (∃ k' : Nat, Value.int .i64 ((k + 1 : Nat) : Int) = .int .i64 k' ∧ k' ≤ n ∧ Hid (Kq.find (l.take k') id now = none) ∧ Below W1.heap.size W1 w3) := ⟨k + 1, rfl, hlt, Kq.find_step he.out HX.out (fun h => hg h.2), below_more HB3.out hb4⟩
          clear hg hb4 s0 s1 s2 s3
          go_wp2
          go_roundw
          case rel => exact HQ.out
          case measure => simp [intOf]; omega
      · rw [decide_eq_false h1] at hid
        have HQ : Hid (∃ k' : Nat, Value.int .i64 ((k + 1 : Nat) : Int) = .int .i64 k' ∧ k' ≤ n ∧ Hid (Kq.find (l.take k') id now = none) ∧ Below W1.heap.size W1 W2) := ⟨k + 1, rfl, hlt, Kq.find_step he.out HX.out (fun h => h1 h.1), HB3.out⟩
        rw [eW2] at HQ
        clear h1 hx hb hb2 hb3 eW2 hK hl2
        go_wp2
        go_roundw
        case rel => exact HQ.out
        case measure => simp [intOf]; omega
    · obtain rfl : k = n := by omega
      have hd2 : decide ((k : Int) < (k : Int)) = false := by simp
      have HF : Hid (Kq.find l id now = none) := Kq.find_all (by rw [HN.out]; exact he.out)
      have hl6 := HL1.out.below hb HL1.out.lt
      obtain ⟨⟨z0, z1, z2, z3⟩, f0, f1, f2, f3⟩ := hl6.four
      obtain ⟨⟨t0, t1, t2, t3⟩, _⟩ := (hl6.put4 (a := .string { data := #[] }) (b := .slice none 0 0) (c := .int .i64 0) (d := .int .i64 0)).four
      have HE := Lib.hid (FoundEnd.miss (ok := (w.heap.size ≤ ·)) HF.out (HB.out.trans (hb.mono HB.out.size)))
      clear hl6 hb
      go_wp2
      exact bodyPost_ret (v := .tuple #[kv ByteArray.empty nilS 0 0, .bool false]) (by simp [results, Try.results22, go_sem, t0, t1, t2, t3]; rfl) rfl HE.out

set_option maxHeartbeats 1000000 in
set_option maxRecDepth 100000 in
theorem refFind_any {ok : Nat → Prop} (l : List Kq.K) (A : Option Addr) (c n : Nat) (id : ByteArray) (now : Int) (w : World) (hL : KsIs w ok (.slice A n c) l) (hn : l.length = n) (hok : ∀ b, ok b → b < w.heap.size) :
    Calls Try.prog 23 #[.slice A n c, .string id, .int .i64 now] w (FoundEnd ok (Kq.find l id now) w) := by
  have hns : n * 56 ≤ 140737488355328 := by rw [← hn]; exact hL.len
  obtain ⟨W1, eW1⟩ : ∃ W1, W1 = w.alloc (.cells #[.string { data := #[] }, .slice none 0 0, .int .i64 0, .int .i64 0] 27) := ⟨_, rfl⟩
  have hb1 : Below w.heap.size w W1 := by rw [eW1]; exact below_new _ _
  have hl1 : Lies W1 w.heap.size 27 zero4 := by rw [eW1]; exact Lies.new_ rfl
  have HOK := Lib.hid hok
  have HL := Lib.hid (hL.on hb1)
  have HN := Lib.hid hn
  have HB := Lib.hid hb1
  have HL1 := Lib.hid hl1
  have HW := Lib.hid eW1
  clear hL hn hb1 hl1 eW1 hok
  go_enter Try.func23, Try.ntmps23
  go_wp2_with fail
  rw [← HW.out]
  go_loopw [8] (fun i wr => ∃ k : Nat, i = .int .i64 k ∧ k ≤ n ∧ Hid (Kq.find (l.take k) id now = none) ∧ Below W1.heap.size W1 wr) (fun i _ => n - (intOf i).toNat)
  case atStart => exact ⟨0, rfl, Nat.zero_le _, rfl, Below.refl _ _⟩
  case round =>
    obtain ⟨k, rfl, hk, he, hb⟩ := hrel
    by_cases hlt : k < n
    · obtain ⟨b, off, x, A1, c1, rfl, _, _, hx, hK, s0, s1, s2, s3⟩ := (HL.out.on hb).elem (by rw [HN.out]; exact hlt)
      have hid := Kq.id_beq x.id id
      have HX := Lib.hid hx
      have HBR := Lib.hid hb
      by_cases h1 : x.id = id
      · rw [decide_eq_true h1] at hid
        have hG := refGood_any x _ now wr hK
        have HK2 := Lib.hid hK
        have HI := Lib.hid h1
        clear h1 hx hb hK
        go_wp2_with fail
        refine hG.mono ?_
        rintro e w3 ⟨hb4, ⟨hg, rfl⟩ | ⟨hg, rfl⟩⟩
        · clear hG
          have HF : Hid (Kq.find l id now = some x) := Kq.find_hit he.out HX.out ⟨HI.out, hg⟩
          obtain ⟨b', off', x', A1', c1', e0, _, _, hx', _, u0, u1, u2, u3⟩ := ((HL.out.on HBR.out).on hb4).elem (by rw [HN.out]; exact hlt)
          injection e0 with e0
          injection e0 with e0 e1
          subst e0 e1
          rw [HX.out] at hx'
          injection hx' with hx'
          subst hx'
          have hcc := (hb4.cell (World.block_lt_of_cell? _ _ s1)).trans s1
          rw [u1] at hcc
          injection hcc with hcc
          injection hcc with hcc1 hcc2 hcc3
          subst hcc1 hcc3
          have hb6 := below_more HBR.out hb4
          have hl6 := HL1.out.below hb6 HL1.out.lt
          obtain ⟨⟨z0, z1, z2, z3⟩, f0, f1, f2, f3⟩ := hl6.four
          obtain ⟨⟨t0, t1, t2, t3⟩, _⟩ := (hl6.put4 (a := .string x.id) (b := .slice A1' x.secret.length c1') (c := .int .i64 x.made) (d := .int .i64 x.ends)).four
          have HE := Lib.hid (FoundEnd.hit (ok := ok) HF.out (HB.out.trans (hb6.mono HB.out.size)) ((HK2.out.on hb4).far4 (a := .string x.id) (b := .slice A1' x.secret.length c1') (c := .int .i64 x.made) (d := .int .i64 x.ends) (g := w.heap.size) (fun k hk => by have := HOK.out k hk; omega)))
          clear hg hb4 hb6 hl6 s0 s1 s2 s3
          go_wp2
          exact bodyPost_ret (v := .tuple #[kv x.id (.slice A1' x.secret.length c1') x.made x.ends, .bool true]) (by simp [results, Try.results23, go_sem, t0, t1, t2, t3]) rfl HE.out
        · clear hG
          have HQ : Hid (∃ k' : Nat, Value.int .i64 ((k + 1 : Nat) : Int) = .int .i64 k' ∧ k' ≤ n ∧ Hid (Kq.find (l.take k') id now = none) ∧ Below W1.heap.size W1 w3) := ⟨k + 1, rfl, hlt, Kq.find_step he.out HX.out (fun h => hg h.2), below_more HBR.out hb4⟩
          clear hg hb4 s0 s1 s2 s3
          go_wp2
          go_roundw
          case rel => exact HQ.out
          case measure => simp [intOf]; omega
      · rw [decide_eq_false h1] at hid
        have HQ : Hid (∃ k' : Nat, Value.int .i64 ((k + 1 : Nat) : Int) = .int .i64 k' ∧ k' ≤ n ∧ Hid (Kq.find (l.take k') id now = none) ∧ Below W1.heap.size W1 wr) := ⟨k + 1, rfl, hlt, Kq.find_step he.out HX.out (fun h => h1 h.1), HBR.out⟩
        clear h1 hx hb hK
        go_wp2
        go_roundw
        case rel => exact HQ.out
        case measure => simp [intOf]; omega
    · obtain rfl : k = n := by omega
      have hd2 : decide ((k : Int) < (k : Int)) = false := by simp
      have HF : Hid (Kq.find l id now = none) := Kq.find_all (by rw [HN.out]; exact he.out)
      have hl6 := HL1.out.below hb HL1.out.lt
      obtain ⟨⟨z0, z1, z2, z3⟩, f0, f1, f2, f3⟩ := hl6.four
      obtain ⟨⟨t0, t1, t2, t3⟩, _⟩ := (hl6.put4 (a := .string { data := #[] }) (b := .slice none 0 0) (c := .int .i64 0) (d := .int .i64 0)).four
      have HE := Lib.hid (FoundEnd.miss (ok := ok) HF.out (HB.out.trans (hb.mono HB.out.size)))
      clear hl6 hb
      go_wp2
      exact bodyPost_ret (v := .tuple #[kv ByteArray.empty nilS 0 0, .bool false]) (by simp [results, Try.results23, go_sem, t0, t1, t2, t3]; rfl) rfl HE.out

set_option maxHeartbeats 1000000 in
set_option maxRecDepth 100000 in
theorem signing_any {ok : Nat → Prop} (l : List Kq.K) (A : Option Addr) (c n : Nat) (now : Int) (w : World) (hL : KsIs w ok (.slice A n c) l) (hn : l.length = n) :
    Calls Try.prog 19 #[.slice A n c, .int .i64 now] w (FoundEnd (w.heap.size ≤ ·) (Kq.signing l now) w) := by
  have hns : n * 56 ≤ 140737488355328 := by rw [← hn]; exact hL.len
  obtain ⟨W1, eW1⟩ : ∃ W1, W1 = w.alloc (.cells #[.string { data := #[] }, .slice none 0 0, .int .i64 0, .int .i64 0] 27) := ⟨_, rfl⟩
  have hb1 : Below w.heap.size w W1 := by rw [eW1]; exact below_new _ _
  have hl1 : Lies W1 w.heap.size 27 zero4 := by rw [eW1]; exact Lies.new_ rfl
  have hs : W1.heap.size = w.heap.size + 1 := by rw [eW1]; simp

  have HL := Lib.hid (hL.on hb1)
  have HN := Lib.hid hn
  have HB := Lib.hid hb1
  have HL1 := Lib.hid hl1
  have HS := Lib.hid hs
  have HW := Lib.hid eW1
  have h0 : Hid (Kq.signing (l.drop n) now = none) := by unfold Hid; rw [← hn]; exact Kq.signing_start l now
  clear hL hn hb1 hl1 hs eW1
  go_enter Try.func19, Try.ntmps19
  go_wp2_with fail
  rw [← HW.out]
  go_loopw [6] (fun i wr => ∃ k : Nat, i = .int .i64 ((k : Int) - 1) ∧ k ≤ n ∧ Hid (Kq.signing (l.drop k) now = none) ∧ Below W1.heap.size W1 wr) (fun i _ => (intOf i + 1).toNat)
  case atStart => exact ⟨n, rfl, Nat.le_refl _, h0, Below.refl _ _⟩
  case round =>
    obtain ⟨k, e6, hk, he, hb⟩ := hrel
    rcases Nat.eq_zero_or_pos k with h0k | h0k
    · subst h0k
      obtain rfl : u6 = .int .i64 (-1) := e6
      have hd2 : decide ((0 : Int) ≤ -1) = false := by decide
      have HF : Hid (Kq.signing l now = none) := he.out
      have hl6 := HL1.out.below hb HL1.out.lt
      obtain ⟨⟨z0, z1, z2, z3⟩, f0, f1, f2, f3⟩ := hl6.four
      obtain ⟨⟨t0, t1, t2, t3⟩, _⟩ := (hl6.put4 (a := .string { data := #[] }) (b := .slice none 0 0) (c := .int .i64 0) (d := .int .i64 0)).four
      have HE := Lib.hid (FoundEnd.miss (ok := (w.heap.size ≤ ·)) HF.out (HB.out.trans (hb.mono HB.out.size)))
      clear hl6 hb
      go_wp2
      exact bodyPost_ret (v := .tuple #[kv ByteArray.empty nilS 0 0, .bool false]) (by simp [results, Try.results19, go_sem, t0, t1, t2, t3]; rfl) rfl HE.out
    · obtain ⟨m, em⟩ : ∃ m, k = m + 1 := ⟨k - 1, by omega⟩
      obtain rfl : u6 = .int .i64 (m : Int) := by rw [e6, em]; congr 1; omega
      have hmn : m < n := by omega
      have he' : Hid (Kq.signing (l.drop (m + 1)) now = none) := by rw [← em]; exact he
      clear em e6 he hk h0k k
      obtain ⟨b, off, x, A1, c1, rfl, _, _, hx, hK, s0, s1, s2, s3⟩ := (HL.out.on hb).elem (by rw [HN.out]; exact hmn)
      have hd2 : decide ((0 : Int) ≤ (m : Int)) = true := decide_eq_true (by omega)
      have HX := Lib.hid hx
      have HBR := Lib.hid hb
      have hG := isGood_any x _ now wr hK
      clear hx hb hK
      go_wp2_with fail
      refine hG.mono ?_
      rintro e w3 ⟨hb4, ⟨hg, rfl⟩ | ⟨hg, rfl⟩⟩
      · clear hG
        have HF : Hid (Kq.signing l now = some x) := Kq.signing_hit he'.out HX.out hg
        obtain ⟨b', off', x', A1', c1', e0, _, _, hx', hK', v0, v1, v2, v3⟩ := ((HL.out.on HBR.out).on hb4).elem (by rw [HN.out]; exact hmn)
        injection e0 with e0
        injection e0 with e0 e1
        subst e0 e1
        rw [HX.out] at hx'
        injection hx' with hx'
        subst hx'
        have hC := copied_any x _ w3 hK'
        have HB4 := Lib.hid (below_more HBR.out hb4)
        clear hg hb4 s0 s1 s2 s3 hK'
        go_wp2_with fail
        refine hC.mono ?_
        rintro e w5 ⟨A5, c5, rfl, hK5, hb5⟩
        clear hC v0 v1 v2 v3
        have hb6 := below_more HB4.out hb5
        have hl6 := HL1.out.below hb6 HL1.out.lt
        obtain ⟨⟨z0, z1, z2, z3⟩, f0, f1, f2, f3⟩ := hl6.four
        obtain ⟨⟨t0, t1, t2, t3⟩, _⟩ := (hl6.put4 (a := .string x.id) (b := .slice A5 x.secret.length c5) (c := .int .i64 x.made) (d := .int .i64 x.ends)).four
        have HE := Lib.hid (FoundEnd.hit (ok := (w.heap.size ≤ ·)) HF.out (HB.out.trans (hb6.mono HB.out.size)) (((hK5.from (show w.heap.size + 1 ≤ w3.heap.size from by have := HB4.out.size; have := HS.out; omega)).put4 (a := .string x.id) (b := .slice A5 x.secret.length c5) (c := .int .i64 x.made) (d := .int .i64 x.ends) (Nat.lt_succ_self _)).from (Nat.le_succ _)))
        clear hK5 hb5 hb6 hl6
        go_wp2
        exact bodyPost_ret (v := .tuple #[kv x.id (.slice A5 x.secret.length c5) x.made x.ends, .bool true]) (by simp [results, Try.results19, go_sem, t0, t1, t2, t3]) rfl HE.out
      · clear hG
        have HQ : Hid (∃ k' : Nat, Value.int .i64 ((m : Int) - 1) = .int .i64 ((k' : Int) - 1) ∧ k' ≤ n ∧ Hid (Kq.signing (l.drop k') now = none) ∧ Below W1.heap.size W1 w3) := ⟨m, rfl, Nat.le_of_lt hmn, Kq.signing_step he'.out HX.out hg, below_more HBR.out hb4⟩
        clear hg hb4 s0 s1 s2 s3
        go_wp2
        go_roundw
        case rel => exact HQ.out
        case measure => simp [intOf]

set_option maxHeartbeats 1000000 in
set_option maxRecDepth 100000 in
theorem refSigning_any {ok : Nat → Prop} (l : List Kq.K) (A : Option Addr) (c n : Nat) (now : Int) (w : World) (hL : KsIs w ok (.slice A n c) l) (hn : l.length = n) (hok : ∀ b, ok b → b < w.heap.size) :
    Calls Try.prog 20 #[.slice A n c, .int .i64 now] w (FoundEnd ok (Kq.signing l now) w) := by
  have hns : n * 56 ≤ 140737488355328 := by rw [← hn]; exact hL.len
  obtain ⟨W1, eW1⟩ : ∃ W1, W1 = w.alloc (.cells #[.string { data := #[] }, .slice none 0 0, .int .i64 0, .int .i64 0] 27) := ⟨_, rfl⟩
  have hb1 : Below w.heap.size w W1 := by rw [eW1]; exact below_new _ _
  have hl1 : Lies W1 w.heap.size 27 zero4 := by rw [eW1]; exact Lies.new_ rfl
  have hs : W1.heap.size = w.heap.size + 1 := by rw [eW1]; simp
  have HOK := Lib.hid hok
  have HL := Lib.hid (hL.on hb1)
  have HN := Lib.hid hn
  have HB := Lib.hid hb1
  have HL1 := Lib.hid hl1
  have HS := Lib.hid hs
  have HW := Lib.hid eW1
  have h0 : Hid (Kq.signing (l.drop n) now = none) := by unfold Hid; rw [← hn]; exact Kq.signing_start l now
  clear hL hn hb1 hl1 hs eW1 hok
  go_enter Try.func20, Try.ntmps20
  go_wp2_with fail
  rw [← HW.out]
  go_loopw [6] (fun i wr => ∃ k : Nat, i = .int .i64 ((k : Int) - 1) ∧ k ≤ n ∧ Hid (Kq.signing (l.drop k) now = none) ∧ Below W1.heap.size W1 wr) (fun i _ => (intOf i + 1).toNat)
  case atStart => exact ⟨n, rfl, Nat.le_refl _, h0, Below.refl _ _⟩
  case round =>
    obtain ⟨k, e6, hk, he, hb⟩ := hrel
    rcases Nat.eq_zero_or_pos k with h0k | h0k
    · subst h0k
      obtain rfl : u6 = .int .i64 (-1) := e6
      have hd2 : decide ((0 : Int) ≤ -1) = false := by decide
      have HF : Hid (Kq.signing l now = none) := he.out
      have hl6 := HL1.out.below hb HL1.out.lt
      obtain ⟨⟨z0, z1, z2, z3⟩, f0, f1, f2, f3⟩ := hl6.four
      obtain ⟨⟨t0, t1, t2, t3⟩, _⟩ := (hl6.put4 (a := .string { data := #[] }) (b := .slice none 0 0) (c := .int .i64 0) (d := .int .i64 0)).four
      have HE := Lib.hid (FoundEnd.miss (ok := ok) HF.out (HB.out.trans (hb.mono HB.out.size)))
      clear hl6 hb
      go_wp2
      exact bodyPost_ret (v := .tuple #[kv ByteArray.empty nilS 0 0, .bool false]) (by simp [results, Try.results20, go_sem, t0, t1, t2, t3]; rfl) rfl HE.out
    · obtain ⟨m, em⟩ : ∃ m, k = m + 1 := ⟨k - 1, by omega⟩
      obtain rfl : u6 = .int .i64 (m : Int) := by rw [e6, em]; congr 1; omega
      have hmn : m < n := by omega
      have he' : Hid (Kq.signing (l.drop (m + 1)) now = none) := by rw [← em]; exact he
      clear em e6 he hk h0k k
      obtain ⟨b, off, x, A1, c1, rfl, _, _, hx, hK, s0, s1, s2, s3⟩ := (HL.out.on hb).elem (by rw [HN.out]; exact hmn)
      have hd2 : decide ((0 : Int) ≤ (m : Int)) = true := decide_eq_true (by omega)
      have HX := Lib.hid hx
      have HBR := Lib.hid hb
      have hG := refGood_any x _ now wr hK
      have HK2 := Lib.hid hK
      clear hx hb hK
      go_wp2_with fail
      refine hG.mono ?_
      rintro e w3 ⟨hb4, ⟨hg, rfl⟩ | ⟨hg, rfl⟩⟩
      · clear hG
        have HF : Hid (Kq.signing l now = some x) := Kq.signing_hit he'.out HX.out hg
        have v0 := (hb4.cell (World.block_lt_of_cell? _ _ s0)).trans s0
        have v1 := (hb4.cell (World.block_lt_of_cell? _ _ s1)).trans s1
        have v2 := (hb4.cell (World.block_lt_of_cell? _ _ s2)).trans s2
        have v3 := (hb4.cell (World.block_lt_of_cell? _ _ s3)).trans s3
        have hb6 := below_more HBR.out hb4
        have hl6 := HL1.out.below hb6 HL1.out.lt
        obtain ⟨⟨z0, z1, z2, z3⟩, f0, f1, f2, f3⟩ := hl6.four
        obtain ⟨⟨t0, t1, t2, t3⟩, _⟩ := (hl6.put4 (a := .string x.id) (b := .slice A1 x.secret.length c1) (c := .int .i64 x.made) (d := .int .i64 x.ends)).four
        have HE := Lib.hid (FoundEnd.hit (ok := ok) HF.out (HB.out.trans (hb6.mono HB.out.size)) ((HK2.out.on hb4).far4 (a := .string x.id) (b := .slice A1 x.secret.length c1) (c := .int .i64 x.made) (d := .int .i64 x.ends) (g := w.heap.size) (fun k hk => by have := HOK.out k hk; omega)))
        clear hg hb4 hb6 hl6 s0 s1 s2 s3
        go_wp2
        exact bodyPost_ret (v := .tuple #[kv x.id (.slice A1 x.secret.length c1) x.made x.ends, .bool true]) (by simp [results, Try.results20, go_sem, t0, t1, t2, t3]) rfl HE.out
      · clear hG
        have HQ : Hid (∃ k' : Nat, Value.int .i64 ((m : Int) - 1) = .int .i64 ((k' : Int) - 1) ∧ k' ≤ n ∧ Hid (Kq.signing (l.drop k') now = none) ∧ Below W1.heap.size W1 w3) := ⟨m, rfl, Nat.le_of_lt hmn, Kq.signing_step he'.out HX.out hg, below_more HBR.out hb4⟩
        clear hg hb4 s0 s1 s2 s3
        go_wp2
        go_roundw
        case rel => exact HQ.out
        case measure => simp [intOf]
end Go.Proofs.Ythklgpflaghojaa
