/-
  YC: YDrop YDropR YFind YRight YRot YRotR YSame YAlive YLaws YLaws2 YStay, side by side.
-/
import Derived.Test.YthklgpflaghojaaGreatDoorYB
import Derived.BigQuiet
import Derived.Lib.QuietBelow
import Derived.Lib.SlBytesConst

/-
  The contracts of without with the closure over the time, of Drop and of the document's.
-/
namespace Go.Proofs.YthklgpflaghojaaGreatDoor
open Go.RowKit

/-- The row that Drop answers: of the call's own. -/
def DropEnd (P : Nat → Prop) (B : Nat) (l : List Kq.K) (w : World) (e : Ending) (w' : World) : Prop := ∃ v, e = .returned v ∧ RowK P B l.length l v w' ∧ Below w.heap.size w w'
theorem RowK.down {P Q : Nat → Prop} {B C n : Nat} {l : List Kq.K} {lv : Value} {w : World} (h : RowK P B n l lv w) (hC : C ≤ B) (hP : ∀ b, P b → Q b) : RowK Q C n l lv w := by
  obtain ⟨r1, r2, vs, r3, ⟨o1, o2⟩, r5⟩ := h
  refine ⟨Nat.le_trans hC r1, r2, vs, r3, ⟨o1, ?_⟩, fun i v x e1 e2 => (r5 i v x e1 e2).keep (fun b hb _ => ⟨⟨hP b hb.1, hb.2⟩, rfl⟩) (Nat.le_refl _)⟩
  rcases o2 with h | ⟨g, cap, cur, e, hB, hr⟩
  · exact .inl h
  · exact .inr ⟨g, cap, cur, e, Nat.le_trans hC hB, hr⟩
theorem drop_bytes {l : List Kq.K} {n k : Nat} (now : Int) (hn : l.length = n) (hk : k ≤ n) : (Kq.drop now (l.take k)).length ≤ n := by
  have h1 := Kq.drop_len now (l.take k)
  rw [List.length_take] at h1
  omega

set_option maxHeartbeats 4000000 in
set_option maxRecDepth 100000 in
theorem without_any {ok : Nat → Prop} (l : List Kq.K) (A : Option Addr) (c n : Nat) (now : Int) (N : Nat) (w : World) (hL : KsIs w ok (.slice A n c) l) (hn : l.length = n) (hN : w.cell? ⟨N, 0, none⟩ = some (.int .i64 now)) :
    Calls Tryz.prog 44 #[.slice A n c, .func (.func 45) #[] #[.pointer (some ⟨N, 0, none⟩)]] w (DropEnd (w.heap.size ≤ ·) w.heap.size (Kq.drop now l) w) := by
  have hns : n * 56 ≤ 140737488355328 := by rw [← hn]; exact hL.len
  have HL := Lib.hid hL
  have HN := Lib.hid hn
  have HC := Lib.hid hN
  clear hL hn hN
  go_enter Tryz.func44, Tryz.ntmps44
  go_wp2_with fail
  go_loopw [5, 10] (fun lv i wr => ∃ k : Nat, i = .int .i64 k ∧ k ≤ n ∧ RowK (w.heap.size ≤ ·) w.heap.size (Kq.drop now (l.take k)).length (Kq.drop now (l.take k)) lv wr ∧ Below w.heap.size w wr) (fun _ i _ => n - (intOf i).toNat)
  case atStart => exact ⟨0, rfl, Nat.zero_le _, RowK.nil (Nat.le_refl _), Below.refl _ _⟩
  case round =>
    obtain ⟨k, rfl, hk, hrow, hb⟩ := hrel
    by_cases hlt : k < n
    · obtain ⟨b, off, x, A1, c1, rfl, _, _, hx, hK, s0, s1, s2, s3⟩ := (HL.out.on hb).elem (by rw [HN.out]; exact hlt)
      obtain ⟨W2, eW2⟩ : ∃ W2, W2 = wr.alloc (.cells #[.string x.id, .slice A1 x.secret.length c1, .int .i64 x.made, .int .i64 x.ends] 37) := ⟨_, rfl⟩
      have hb2 : Below wr.heap.size wr W2 := by rw [eW2]; exact below_new _ _
      have hl2 : Lies W2 wr.heap.size 37 [.string x.id, .slice A1 x.secret.length c1, .int .i64 x.made, .int .i64 x.ends] := by rw [eW2]; exact Lies.new_ rfl
      have hK2 := hK.on hb2
      have hbW2 := below_more hb hb2
      have hC := drop1_any x _ now N W2 hK2 ((hbW2.cell (World.block_lt_of_cell? _ _ HC.out)).trans HC.out)
      have hrow2 := hrow.on hb2
      have hstep := Kq.drop_step (now := now) hx
      have hle := drop_bytes now HN.out (show k + 1 ≤ n from hlt)
      rw [eW2] at hC
      have HW2 := Lib.hid eW2
      have HL2 := Lib.hid hl2
      have HK2 := Lib.hid hK2
      have HB2 := Lib.hid hbW2
      have HR2 := Lib.hid hrow2
      have HST := Lib.hid hstep
      have HLE := Lib.hid hle
      clear hx hK hb hb2 hl2 hK2 hbW2 hrow hrow2 hstep hle eW2
      go_wp2_with fail
      refine hC.mono ?_
      rintro e w3 hh
      clear hC
      rw [← HW2.out] at hh
      obtain ⟨hb3, ⟨hg, rfl⟩ | ⟨hg, rfl⟩⟩ := hh
      · have HQ : Hid (∃ k' : Nat, Value.int .i64 ((k + 1 : Nat) : Int) = .int .i64 k' ∧ k' ≤ n ∧ RowK (w.heap.size ≤ ·) w.heap.size (Kq.drop now (l.take k')).length (Kq.drop now (l.take k')) u5 w3 ∧ Below w.heap.size w w3) := ⟨k + 1, rfl, hlt, by
          have e : Kq.drop now (l.take (k + 1)) = Kq.drop now (l.take k) := by rw [HST.out, if_neg (by have : x.ends ≤ now := hg; omega), List.append_nil]
          rw [e]
          exact HR2.out.on hb3, below_more HB2.out hb3⟩
        clear hb3 hg s0 s1 s2 s3
        go_wp2
        go_roundw
        case rel => exact HQ.out
        case measure => simp [intOf]; omega
      · have hl3 := HL2.out.below hb3 HL2.out.lt
        have hC := copied_any x _ w3 (HK2.out.on hb3)
        obtain ⟨⟨y0, y1, y2, y3⟩, _⟩ := hl3.four
        have HR3 := Lib.hid (HR2.out.on hb3)
        have HB3 := Lib.hid (below_more HB2.out hb3)
        have HG : Hid (Kq.drop now (l.take (k + 1)) = Kq.drop now (l.take k) ++ [x]) := by
          unfold Hid
          rw [HST.out, if_pos (Kq.not_gone.1 hg)]
        clear hb3 hg s0 s1 s2 s3 hl3
        go_wp2_with fail
        refine hC.mono ?_
        rintro e w4 ⟨A4, c4, rfl, hK4, hb4⟩
        clear hC y0 y1 y2 y3
        have hrow4 := HR3.out.on hb4
        have hlts := HR3.out.lt
        obtain ⟨r1, r2, vs, r3, r4, r5⟩ := hrow4
        obtain ⟨i0, hi, hz0, hz1, hz2⟩ := info_parts infoKey
        have HK4 := Lib.hid hK4
        have HB4 := Lib.hid (below_more HB3.out hb4)
        have HLT := Lib.hid hlts
        have HG3 := Lib.hid HR3.out.ge
        clear hK4 hb4 hlts
        obtain ⟨m, em⟩ : ∃ m, (Kq.drop now (l.take k)).length = m := ⟨_, rfl⟩
        have hm : m + 1 ≤ n := by have := HLE.out; rw [HG.out, List.length_append, em] at this; simpa using this
        rw [em] at r3 r4
        have HEM := Lib.hid em
        clear em
        repeat ((fail_if_success (with_reducible show wpList _ _ _ (⟨some 22, _, _, _, _, _⟩ :: _) _ _)); first | go_values | go_skip | go_guarded | go_step | go_upon | go_back | go_simp)
        with_reducible refine wpList_append_own_at _ rfl (.tmp 18) (.tmp 21) 22 rfl w.heap.size 37 i0 (kv ByteArray.empty nilS 0 0) 4 56 Tryz.underlying22 hi hz0 hz1 hz2 rfl (by decide) u5 m (vs.flatMap jcells) ?s1 (own_below r4 (below_new _ _)) ⟨w4.heap.size, 0, none⟩ 1 1 (jcells (kv x.id (.slice A4 x.secret.length c4) x.made x.ends)) ?s2 rfl ?s3 (kv_ones _ _ _ _ _ _) ?s4 ?s5 ?s6 ?_
        case s1 => rfl
        case s2 => rfl
        case s3 => exact fun j u hj => new_cells w4 _ _ j u hj
        case s4 => unfold maxLen; omega
        case s5 => omega
        case s6 => exact Nat.le_trans r1 (below_new w4 _).size
        intro lv5 w5 hown5 hgr5 _ hat5
        have hbz := below_new w4 (.cells #[.string x.id, .slice A4 x.secret.length c4, .int .i64 x.made, .int .i64 x.ends] 37)
        have HR5 := Lib.hid (rowK_more (Nat.le_trans r1 hbz.size) HEM.out r3 (fun i v x e1 e2 => (r5 i v x e1 e2).on hbz) ((HK4.out.keep (ok' := fun b => w.heap.size ≤ b ∧ u5.ownBlock ≠ some b) (fun b hb _ => ⟨⟨Nat.le_trans HG3.out hb, fun e => by
          have := (HLT.out b e).2
          have hb' : w3.heap.size ≤ b := hb
          omega⟩, rfl⟩) (Nat.le_refl _)).on hbz) hown5 hgr5 hat5)
        have HB5 := Lib.hid (((HB4.out.trans (hbz.mono HB4.out.size)).grown hgr5 (Nat.le_trans r1 hbz.size) (fun k e => (r4.lt k e).1)))
        have HQ : Hid (∃ k' : Nat, Value.int .i64 ((k + 1 : Nat) : Int) = .int .i64 k' ∧ k' ≤ n ∧ RowK (w.heap.size ≤ ·) w.heap.size (Kq.drop now (l.take k')).length (Kq.drop now (l.take k')) lv5 w5 ∧ Below w.heap.size w w5) := ⟨k + 1, rfl, hlt, by
          rw [HG.out, List.length_append, HEM.out]
          exact HR5.out, HB5.out⟩
        clear hown5 hgr5 hat5 hbz r1 r2 r3 r4 r5 hi hz0 hz1 hz2
        go_frame
        go_wp2
        go_roundw
        case rel => exact HQ.out
        case measure => simp [intOf]; omega
    · obtain rfl : k = n := by omega
      have hd2 : decide ((k : Int) < (k : Int)) = false := by simp
      have HE : Hid (DropEnd (w.heap.size ≤ ·) w.heap.size (Kq.drop now l) w (.returned u5) wr) := ⟨u5, rfl, by
        have := hrow
        rwa [List.take_of_length_le (by rw [HN.out]; exact Nat.le_refl _)] at this, hb⟩
      clear hrow hb
      go_wp2
      go_ret
      exact HE.out

set_option maxHeartbeats 1000000 in
set_option maxRecDepth 100000 in
theorem drop_any {ok : Nat → Prop} (l : List Kq.K) (A : Option Addr) (c n : Nat) (now : Int) (w : World) (hL : KsIs w ok (.slice A n c) l) (hn : l.length = n) :
    Calls Tryz.prog 22 #[.slice A n c, .int .i64 now] w (DropEnd (w.heap.size ≤ ·) w.heap.size (Kq.drop now l) w) := by
  obtain ⟨W1, eW1⟩ : ∃ W1, W1 = w.alloc (.cells #[.int .i64 now] 3) := ⟨_, rfl⟩
  have hb1 : Below w.heap.size w W1 := by rw [eW1]; exact below_new _ _
  have hl1 : Lies W1 w.heap.size 3 [.int .i64 now] := by rw [eW1]; exact Lies.new_ rfl
  have hC := without_any l A c n now w.heap.size W1 (hL.on hb1) hn (hl1.cell 0)
  have HE : Hid (∀ e w', DropEnd (W1.heap.size ≤ ·) W1.heap.size (Kq.drop now l) W1 e w' → DropEnd (w.heap.size ≤ ·) w.heap.size (Kq.drop now l) w e w') := fun e w' ⟨v, h1, h2, h3⟩ =>
    ⟨v, h1, h2.down hb1.size (fun b hb => Nat.le_trans hb1.size hb), below_more hb1 h3⟩
  have HW := Lib.hid eW1
  have HC := Lib.hid (hC.mono HE.out)
  have hC' := HC.out
  rw [eW1] at hC'
  have hmf : ∀ (fn : Fn) (first cap : Array Value) (w : World), (Instr.makeFunc fn first cap).run Tryz.prog w = .ok (.func fn first cap) w := fun _ _ _ _ => rfl
  clear hL hn hb1 hl1 eW1 hC HC HE
  go_enter Tryz.func22, Tryz.ntmps22
  go_wp2_with fail
  refine hC'.mono ?_
  rintro e w2 ⟨v, rfl, hr⟩
  have HE : Hid (DropEnd (w.heap.size ≤ ·) w.heap.size (Kq.drop now l) w (.returned v) w2) := ⟨v, rfl, hr⟩
  clear hr hC'
  go_wp2
  go_ret
  exact HE.out

end Go.Proofs.YthklgpflaghojaaGreatDoor

/-
  The contract of the document's Drop.
-/
namespace Go.Proofs.YthklgpflaghojaaGreatDoor
open Go.RowKit
end Go.Proofs.YthklgpflaghojaaGreatDoor

/-
  The contracts of Find and Signing, and of the document's.
-/
namespace Go.Proofs.YthklgpflaghojaaGreatDoor
open Go.RowKit

/-- What Find and Signing answer. -/
def FoundEnd (ok : Nat → Prop) (res : Option Kq.K) (w : World) (e : Ending) (w' : World) : Prop := Below w.heap.size w w' ∧ match res with
  | some x => ∃ A c, e = .returned (.tuple #[kv x.id (.slice A x.secret.length c) x.made x.ends, .bool true]) ∧ IsK w' ok (kv x.id (.slice A x.secret.length c) x.made x.ends) x
  | none => e = .returned (.tuple #[kv ByteArray.empty nilS 0 0, .bool false])
abbrev zero4 : List Value := [.string { data := #[] }, .slice none 0 0, .int .i64 0, .int .i64 0]
theorem FoundEnd.hit {ok : Nat → Prop} {res : Option Kq.K} {x : Kq.K} {w W : World} {A : Option Addr} {c : Nat} (h : res = some x) (hb : Below w.heap.size w W) (hK : IsK (put4 W w.heap.size (.string x.id) (.slice A x.secret.length c) (.int .i64 x.made) (.int .i64 x.ends)) ok (kv x.id (.slice A x.secret.length c) x.made x.ends) x) :
    FoundEnd ok res w (.returned (.tuple #[kv x.id (.slice A x.secret.length c) x.made x.ends, .bool true])) (put4 W w.heap.size (.string x.id) (.slice A x.secret.length c) (.int .i64 x.made) (.int .i64 x.ends)) :=
  ⟨below_put4 hb (Nat.le_refl _), by rw [h]; exact ⟨A, c, rfl, hK⟩⟩
theorem FoundEnd.miss {ok : Nat → Prop} {res : Option Kq.K} {w W : World} (h : res = none) (hb : Below w.heap.size w W) : FoundEnd ok res w (.returned (.tuple #[kv ByteArray.empty nilS 0 0, .bool false])) (put4 W w.heap.size (.string { data := #[] }) (.slice none 0 0) (.int .i64 0) (.int .i64 0)) :=
  ⟨below_put4 hb (Nat.le_refl _), by rw [h]⟩
set_option maxHeartbeats 1000000 in
set_option maxRecDepth 100000 in
theorem find_any {ok : Nat → Prop} (l : List Kq.K) (A : Option Addr) (c n : Nat) (id : ByteArray) (now : Int) (w : World) (hL : KsIs w ok (.slice A n c) l) (hn : l.length = n) :
    Calls Tryz.prog 13 #[.slice A n c, .string id, .int .i64 now] w (FoundEnd (w.heap.size ≤ ·) (Kq.find l id now) w) := by
  have hns : n * 56 ≤ 140737488355328 := by rw [← hn]; exact hL.len
  obtain ⟨W1, eW1⟩ : ∃ W1, W1 = w.alloc (.cells #[.string { data := #[] }, .slice none 0 0, .int .i64 0, .int .i64 0] 37) := ⟨_, rfl⟩
  have hb1 : Below w.heap.size w W1 := by rw [eW1]; exact below_new _ _
  have hl1 : Lies W1 w.heap.size 37 zero4 := by rw [eW1]; exact Lies.new_ rfl
  have hs : W1.heap.size = w.heap.size + 1 := by rw [eW1]; simp
  have HL := Lib.hid (hL.on hb1)
  have HN := Lib.hid hn
  have HB := Lib.hid hb1
  have HL1 := Lib.hid hl1
  have HS := Lib.hid hs
  have HW := Lib.hid eW1
  clear hL hn hb1 hl1 hs eW1
  go_enter Tryz.func13, Tryz.ntmps13
  go_wp2_with fail
  rw [← HW.out]
  go_loopw [12] (fun i wr => ∃ k : Nat, i = .int .i64 k ∧ k ≤ n ∧ Hid (Kq.find (l.take k) id now = none) ∧ Below W1.heap.size W1 wr) (fun i _ => n - (intOf i).toNat)
  case atStart => exact ⟨0, rfl, Nat.zero_le _, rfl, Below.refl _ _⟩
  case round =>
    obtain ⟨k, rfl, hk, he, hb⟩ := hrel
    by_cases hlt : k < n
    · obtain ⟨b, off, x, A1, c1, rfl, _, _, hx, hK, s0, s1, s2, s3⟩ := (HL.out.on hb).elem (by rw [HN.out]; exact hlt)
      have hid := Kq.id_beq x.id id
      obtain ⟨W2, eW2⟩ : ∃ W2, W2 = wr.alloc (.cells #[.string x.id, .slice A1 x.secret.length c1, .int .i64 x.made, .int .i64 x.ends] 37) := ⟨_, rfl⟩
      have hb2 : Below wr.heap.size wr W2 := by rw [eW2]; exact below_new _ _
      have hl2 : Lies W2 wr.heap.size 37 [.string x.id, .slice A1 x.secret.length c1, .int .i64 x.made, .int .i64 x.ends] := by rw [eW2]; exact Lies.new_ rfl
      have hb3 := below_more hb hb2
      have HB3 := Lib.hid hb3
      have HX := Lib.hid hx
      by_cases h1 : x.id = id
      · rw [decide_eq_true h1] at hid
        have hG := isGood_any x _ now W2 (hK.on hb2)
        have HK2 := Lib.hid (hK.on hb2)
        have HL2 := Lib.hid hl2
        have HI := Lib.hid h1
        rw [eW2] at hG
        have HW2 := Lib.hid eW2
        clear h1 hx hb hb2 hb3 eW2 hK hl2
        go_wp2_with fail
        refine hG.mono ?_
        rintro e w3 hh
        clear hG
        rw [← HW2.out] at hh
        obtain ⟨hb4, ⟨hg, rfl⟩ | ⟨hg, rfl⟩⟩ := hh
        · have HF : Hid (Kq.find l id now = some x) := Kq.find_hit he.out HX.out ⟨HI.out, hg⟩
          have hC := copied_any x _ w3 (HK2.out.on hb4)
          obtain ⟨⟨y0, y1, y2, y3⟩, _⟩ := (HL2.out.below hb4 HL2.out.lt).four
          have HB4 := Lib.hid (below_more HB3.out hb4)
          clear hg hb4 s0 s1 s2 s3
          go_wp2_with fail
          refine hC.mono ?_
          rintro e w5 ⟨A5, c5, rfl, hK5, hb5⟩
          clear hC y0 y1 y2 y3
          have hb6 := below_more HB4.out hb5
          have hl6 := HL1.out.below hb6 HL1.out.lt
          obtain ⟨⟨z0, z1, z2, z3⟩, f0, f1, f2, f3⟩ := hl6.four
          obtain ⟨⟨t0, t1, t2, t3⟩, _⟩ := (hl6.put4 (a := .string x.id) (b := .slice A5 x.secret.length c5) (c := .int .i64 x.made) (d := .int .i64 x.ends)).four
          have HE := Lib.hid (FoundEnd.hit (ok := (w.heap.size ≤ ·)) HF.out (HB.out.trans (hb6.mono HB.out.size)) (((hK5.from (show w.heap.size + 1 ≤ w3.heap.size from by have := HB4.out.size; have := HS.out; omega)).put4 (a := .string x.id) (b := .slice A5 x.secret.length c5) (c := .int .i64 x.made) (d := .int .i64 x.ends) (Nat.lt_succ_self _)).from (Nat.le_succ _)))
          clear hK5 hb5 hb6 hl6
          go_wp2
          exact bodyPost_ret (v := .tuple #[kv x.id (.slice A5 x.secret.length c5) x.made x.ends, .bool true]) (by simp [results, Tryz.results13, go_sem, t0, t1, t2, t3]) rfl HE.out
        · have HQ : Hid (∃ k' : Nat, Value.int .i64 ((k + 1 : Nat) : Int) = .int .i64 k' ∧ k' ≤ n ∧ Hid (Kq.find (l.take k') id now = none) ∧ Below W1.heap.size W1 w3) := ⟨k + 1, rfl, hlt, Kq.find_step he.out HX.out (fun h => hg h.2), below_more HB3.out hb4⟩
          clear hg hb4 s0 s1 s2 s3
          go_wp2
          go_roundw
          case rel => exact HQ.out
          case measure => simp [intOf]; omega
      · rw [decide_eq_false h1] at hid
        have HQ : Hid (∃ k' : Nat, Value.int .i64 ((k + 1 : Nat) : Int) = .int .i64 k' ∧ k' ≤ n ∧ Hid (Kq.find (l.take k') id now = none) ∧ Below W1.heap.size W1 W2) := ⟨k + 1, rfl, hlt, Kq.find_step he.out HX.out (fun h => h1 h.1), HB3.out⟩
        rw [eW2] at HQ
        clear h1 hx hb hb2 hb3 eW2 hK hl2
        go_wp2
        go_roundw
        case rel => exact HQ.out
        case measure => simp [intOf]; omega
    · obtain rfl : k = n := by omega
      have hd2 : decide ((k : Int) < (k : Int)) = false := by simp
      have HF : Hid (Kq.find l id now = none) := Kq.find_all (by rw [HN.out]; exact he.out)
      have hl6 := HL1.out.below hb HL1.out.lt
      obtain ⟨⟨z0, z1, z2, z3⟩, f0, f1, f2, f3⟩ := hl6.four
      obtain ⟨⟨t0, t1, t2, t3⟩, _⟩ := (hl6.put4 (a := .string { data := #[] }) (b := .slice none 0 0) (c := .int .i64 0) (d := .int .i64 0)).four
      have HE := Lib.hid (FoundEnd.miss (ok := (w.heap.size ≤ ·)) HF.out (HB.out.trans (hb.mono HB.out.size)))
      clear hl6 hb
      go_wp2
      exact bodyPost_ret (v := .tuple #[kv ByteArray.empty nilS 0 0, .bool false]) (by simp [results, Tryz.results13, go_sem, t0, t1, t2, t3]; rfl) rfl HE.out

set_option maxHeartbeats 1000000 in
set_option maxRecDepth 100000 in
theorem signing_any {ok : Nat → Prop} (l : List Kq.K) (A : Option Addr) (c n : Nat) (now : Int) (w : World) (hL : KsIs w ok (.slice A n c) l) (hn : l.length = n) :
    Calls Tryz.prog 18 #[.slice A n c, .int .i64 now] w (FoundEnd (w.heap.size ≤ ·) (Kq.signing l now) w) := by
  have hns : n * 56 ≤ 140737488355328 := by rw [← hn]; exact hL.len
  obtain ⟨W1, eW1⟩ : ∃ W1, W1 = w.alloc (.cells #[.string { data := #[] }, .slice none 0 0, .int .i64 0, .int .i64 0] 37) := ⟨_, rfl⟩
  have hb1 : Below w.heap.size w W1 := by rw [eW1]; exact below_new _ _
  have hl1 : Lies W1 w.heap.size 37 zero4 := by rw [eW1]; exact Lies.new_ rfl
  have hs : W1.heap.size = w.heap.size + 1 := by rw [eW1]; simp

  have HL := Lib.hid (hL.on hb1)
  have HN := Lib.hid hn
  have HB := Lib.hid hb1
  have HL1 := Lib.hid hl1
  have HS := Lib.hid hs
  have HW := Lib.hid eW1
  have h0 : Hid (Kq.signing (l.drop n) now = none) := by unfold Hid; rw [← hn]; exact Kq.signing_start l now
  clear hL hn hb1 hl1 hs eW1
  go_enter Tryz.func18, Tryz.ntmps18
  go_wp2_with fail
  rw [← HW.out]
  go_loopw [6] (fun i wr => ∃ k : Nat, i = .int .i64 ((k : Int) - 1) ∧ k ≤ n ∧ Hid (Kq.signing (l.drop k) now = none) ∧ Below W1.heap.size W1 wr) (fun i _ => (intOf i + 1).toNat)
  case atStart => exact ⟨n, rfl, Nat.le_refl _, h0, Below.refl _ _⟩
  case round =>
    obtain ⟨k, e6, hk, he, hb⟩ := hrel
    rcases Nat.eq_zero_or_pos k with h0k | h0k
    · subst h0k
      obtain rfl : u6 = .int .i64 (-1) := e6
      have hd2 : decide ((0 : Int) ≤ -1) = false := by decide
      have HF : Hid (Kq.signing l now = none) := he.out
      have hl6 := HL1.out.below hb HL1.out.lt
      obtain ⟨⟨z0, z1, z2, z3⟩, f0, f1, f2, f3⟩ := hl6.four
      obtain ⟨⟨t0, t1, t2, t3⟩, _⟩ := (hl6.put4 (a := .string { data := #[] }) (b := .slice none 0 0) (c := .int .i64 0) (d := .int .i64 0)).four
      have HE := Lib.hid (FoundEnd.miss (ok := (w.heap.size ≤ ·)) HF.out (HB.out.trans (hb.mono HB.out.size)))
      clear hl6 hb
      go_wp2
      exact bodyPost_ret (v := .tuple #[kv ByteArray.empty nilS 0 0, .bool false]) (by simp [results, Tryz.results18, go_sem, t0, t1, t2, t3]; rfl) rfl HE.out
    · obtain ⟨m, em⟩ : ∃ m, k = m + 1 := ⟨k - 1, by omega⟩
      obtain rfl : u6 = .int .i64 (m : Int) := by rw [e6, em]; congr 1; omega
      have hmn : m < n := by omega
      have he' : Hid (Kq.signing (l.drop (m + 1)) now = none) := by rw [← em]; exact he
      clear em e6 he hk h0k k
      obtain ⟨b, off, x, A1, c1, rfl, _, _, hx, hK, s0, s1, s2, s3⟩ := (HL.out.on hb).elem (by rw [HN.out]; exact hmn)
      have hd2 : decide ((0 : Int) ≤ (m : Int)) = true := decide_eq_true (by omega)
      have HX := Lib.hid hx
      have HBR := Lib.hid hb
      have hG := isGood_any x _ now wr hK
      clear hx hb hK
      go_wp2_with fail
      refine hG.mono ?_
      rintro e w3 ⟨hb4, ⟨hg, rfl⟩ | ⟨hg, rfl⟩⟩
      · clear hG
        have HF : Hid (Kq.signing l now = some x) := Kq.signing_hit he'.out HX.out hg
        obtain ⟨b', off', x', A1', c1', e0, _, _, hx', hK', v0, v1, v2, v3⟩ := ((HL.out.on HBR.out).on hb4).elem (by rw [HN.out]; exact hmn)
        injection e0 with e0
        injection e0 with e0 e1
        subst e0 e1
        rw [HX.out] at hx'
        injection hx' with hx'
        subst hx'
        have hC := copied_any x _ w3 hK'
        have HB4 := Lib.hid (below_more HBR.out hb4)
        clear hg hb4 s0 s1 s2 s3 hK'
        go_wp2_with fail
        refine hC.mono ?_
        rintro e w5 ⟨A5, c5, rfl, hK5, hb5⟩
        clear hC v0 v1 v2 v3
        have hb6 := below_more HB4.out hb5
        have hl6 := HL1.out.below hb6 HL1.out.lt
        obtain ⟨⟨z0, z1, z2, z3⟩, f0, f1, f2, f3⟩ := hl6.four
        obtain ⟨⟨t0, t1, t2, t3⟩, _⟩ := (hl6.put4 (a := .string x.id) (b := .slice A5 x.secret.length c5) (c := .int .i64 x.made) (d := .int .i64 x.ends)).four
        have HE := Lib.hid (FoundEnd.hit (ok := (w.heap.size ≤ ·)) HF.out (HB.out.trans (hb6.mono HB.out.size)) (((hK5.from (show w.heap.size + 1 ≤ w3.heap.size from by have := HB4.out.size; have := HS.out; omega)).put4 (a := .string x.id) (b := .slice A5 x.secret.length c5) (c := .int .i64 x.made) (d := .int .i64 x.ends) (Nat.lt_succ_self _)).from (Nat.le_succ _)))
        clear hK5 hb5 hb6 hl6
        go_wp2
        exact bodyPost_ret (v := .tuple #[kv x.id (.slice A5 x.secret.length c5) x.made x.ends, .bool true]) (by simp [results, Tryz.results18, go_sem, t0, t1, t2, t3]) rfl HE.out
      · clear hG
        have HQ : Hid (∃ k' : Nat, Value.int .i64 ((m : Int) - 1) = .int .i64 ((k' : Int) - 1) ∧ k' ≤ n ∧ Hid (Kq.signing (l.drop k') now = none) ∧ Below W1.heap.size W1 w3) := ⟨m, rfl, Nat.le_of_lt hmn, Kq.signing_step he'.out HX.out hg, below_more HBR.out hb4⟩
        clear hg hb4 s0 s1 s2 s3
        go_wp2
        go_roundw
        case rel => exact HQ.out
        case measure => simp [intOf]

end Go.Proofs.YthklgpflaghojaaGreatDoor

/-
  The contracts of Right and of the document's.
-/
namespace Go.Proofs.YthklgpflaghojaaGreatDoor
open Go.RowKit Go.Sort

theorem Tells.is_yes {P : Prop} {w w' : World} {e : Ending} (hP : P) (h : Tells P w e w') : e = .returned (.bool true) ∧ Below w.heap.size w w' := by
  obtain ⟨hb, ⟨_, rfl⟩ | ⟨hn, _⟩⟩ := h
  · exact ⟨rfl, hb⟩
  · exact absurd hP hn
theorem Tells.is_no {P : Prop} {w w' : World} {e : Ending} (hP : ¬ P) (h : Tells P w e w') : e = .returned (.bool false) ∧ Below w.heap.size w w' := by
  obtain ⟨hb, ⟨hy, _⟩ | ⟨_, rfl⟩⟩ := h
  · exact absurd hy hP
  · exact ⟨rfl, hb⟩
theorem KsIs.cap {w : World} {ok : Nat → Prop} {A : Option Addr} {n c : Nat} {l : List Kq.K} (h : KsIs w ok (.slice A n c) l) : n ≤ c ∧ c ≤ 9223372036854775807 := by
  obtain ⟨_, ⟨A', c', e, h1, h2, _⟩, _⟩ := h
  injection e with e1 e2 e3
  subst e1 e3
  exact ⟨by omega, h2⟩

set_option maxHeartbeats 1000000 in
set_option maxRecDepth 100000 in
theorem right_any {ok : Nat → Prop} (l : List Kq.K) (A : Option Addr) (c n : Nat) (w : World) (hL : KsIs w ok (.slice A n c) l) (hn : l.length = n) :
    Calls Tryz.prog 19 #[.slice A n c] w (Tells (Kq.Right l) w) := by
  have HL := Lib.hid hL
  have HN := Lib.hid hn
  have hc := hL.cap
  clear hL hn
  by_cases h8 : 8 < n
  · have d8 : decide ((8 : Int) < (n : Int)) = true := decide_eq_true (by omega)
    have HE : Hid (Tells (Kq.Right l) w (.returned (.bool false)) w) := Tells.no (fun h => by have := h.1; rw [HN.out] at this; omega) (Below.refl _ _)
    go_enter Tryz.func19, Tryz.ntmps19
    go_wp2
    go_ret
    exact HE.out
  have d8 : decide ((8 : Int) < (n : Int)) = false := decide_eq_false (by omega)
  go_enter Tryz.func19, Tryz.ntmps19
  go_wp2_with fail
  go_loopw [10] (fun i wr => ∃ k : Nat, i = .int .i64 k ∧ k ≤ n ∧ Hid (Kq.Rt (l.take k)) ∧ Below w.heap.size w wr) (fun i _ => n - (intOf i).toNat)
  case atStart => exact ⟨0, rfl, Nat.zero_le _, Kq.Rt.nil, Below.refl _ _⟩
  case round =>
    obtain ⟨k, rfl, hk, he, hb⟩ := hrel
    by_cases hlt : k < n
    · have hLr := HL.out.on hb
      obtain ⟨b, off, x, A1, c1, rfl, _, _, hx, hK, s0, s1, s2, s3⟩ := hLr.elem (by rw [HN.out]; exact hlt)
      obtain ⟨id, sec, made, ends⟩ := x
      simp only at *
      obtain ⟨W2, eW2⟩ : ∃ W2, W2 = wr.alloc (.cells #[.string id, .slice A1 sec.length c1, .int .i64 made, .int .i64 ends] 37) := ⟨_, rfl⟩
      have hb2 : Below wr.heap.size wr W2 := by rw [eW2]; exact below_new _ _
      have hl2 : Lies W2 wr.heap.size 37 [.string id, .slice A1 sec.length c1, .int .i64 made, .int .i64 ends] := by rw [eW2]; exact Lies.new_ rfl
      have hLt := (hLr.take (show k ≤ l.length by rw [HN.out]; exact hk)).on hb2
      have hK2 := hK.on hb2
      have hkc : (k : Int) ≤ (c : Int) := by omega
      have hkl : (l.take k).length = k := by rw [List.length_take, HN.out]; omega
      have HF : Hid (∀ d os, Calls Tryz.prog 21 #[.slice (some ⟨b, off, none⟩) k c, kv id (.slice A1 sec.length c1) made ends] (grow (redrawn W2 d) os) (Tells (Kq.Fits (l.take k) ⟨id, sec, made, ends⟩) (grow (redrawn W2 d) os))) := fun d os =>
        fits_any _ _ _ _ _ _ _ (hLt.on (below_regrown W2 d os)) hkl (hK2.on (below_regrown W2 d os))
      obtain ⟨⟨y0, y1, y2, y3⟩, _⟩ := hl2.four
      have k0 := cell_regrown y0
      have k1 := cell_regrown y1
      have k2 := cell_regrown y2
      have k3 := cell_regrown y3
      have HB2 := Lib.hid (below_more hb hb2)
      have HX := Lib.hid hx
      have HW2 := Lib.hid eW2
      have HSZ : W2.heap.size = wr.heap.size + 1 := by rw [eW2]; simp
      clear hx hK hb hb2 hl2 hLt hK2 hLr hkl eW2
      go_upto_region 6 with (fail)
      rw [← HW2.out]
      clear s0 s1 s2 s3
      by_cases hF : Kq.Fits (l.take k) ⟨id, sec, made, ends⟩
      · have cF : ∀ d os, Calls Tryz.prog 21 #[.slice (some ⟨b, off, none⟩) k c, kv id (.slice A1 sec.length c1) made ends] (grow (redrawn W2 d) os) fun e w2 => e = .returned (.bool true) ∧ ∃ r : Regrown, w2 = grow (redrawn W2 r.d) r.os := fun d os => Calls.regrown_of ((HF.out d os).mono fun _ _ h => h.is_yes hF)
        by_cases h3 : made < ends
        · have d3 : decide (ends ≤ made) = false := decide_eq_false (by omega)
          by_cases h4 : 1099511627776 < ends
          · have d4 : decide (1099511627776 < ends) = true := decide_eq_true h4
            have HE : Hid (∀ W', Below W2.heap.size W2 W' → Tells (Kq.Right l) w (.returned (.bool false)) W') := fun W' hW => Tells.no (Kq.rt_not HX.out (fun h => by have : ends ≤ 1099511627776 := h.2.2; omega)) (below_more HB2.out hW)
            clear hF h3 h4
            refine wp_region_quiet_below (by kernel_rfl) (by kernel_rfl) ?_
            repeat (go_big_quiet_step (with_reducible exact cF _ _))
            refine wpQuiet_nil ?_
            intro w' hw'
            obtain ⟨⟨dq, osq⟩, hw''⟩ := hw'
            subst hw''
            have hfin := below_regrown W2 dq osq
            have HQ := Lib.hid (HE.out _ hfin)
            clear cF k0 k1 k2 k3 hfin
            go_wp2
            go_ret
            exact HQ.out
          · have d4 : decide (1099511627776 < ends) = false := decide_eq_false h4
            have HR : Hid (Kq.Rt (l.take (k + 1))) := (Kq.rt_step HX.out).2 ⟨he.out, hF, h3, show ends ≤ 1099511627776 by omega⟩
            clear hF h3 h4
            refine wp_region_quiet_below (by kernel_rfl) (by kernel_rfl) ?_
            repeat (go_big_quiet_step (with_reducible exact cF _ _))
            refine wpQuiet_nil ?_
            intro w' hw'
            obtain ⟨⟨dq, osq⟩, hw''⟩ := hw'
            subst hw''
            have hfin := below_regrown W2 dq osq
            have HQ := Lib.hid (below_more HB2.out hfin)
            clear cF k0 k1 k2 k3 hfin
            go_wp2
            go_roundw
            case rel => exact ⟨k + 1, by go_num, hlt, HR, HQ.out⟩
            case measure => simp [intOf]; omega
        · have d3 : decide (ends ≤ made) = true := decide_eq_true (by omega)
          have HE : Hid (∀ W', Below W2.heap.size W2 W' → Tells (Kq.Right l) w (.returned (.bool false)) W') := fun W' hW => Tells.no (Kq.rt_not HX.out (fun h => h3 h.2.1)) (below_more HB2.out hW)
          clear hF h3
          refine wp_region_quiet_below (by kernel_rfl) (by kernel_rfl) ?_
          repeat (go_big_quiet_step (with_reducible exact cF _ _))
          refine wpQuiet_nil ?_
          intro w' hw'
          obtain ⟨⟨dq, osq⟩, hw''⟩ := hw'
          subst hw''
          have hfin := below_regrown W2 dq osq
          have HQ := Lib.hid (HE.out _ hfin)
          clear cF k0 k1 k2 k3 hfin
          go_wp2
          go_ret
          exact HQ.out
      · have cF : ∀ d os, Calls Tryz.prog 21 #[.slice (some ⟨b, off, none⟩) k c, kv id (.slice A1 sec.length c1) made ends] (grow (redrawn W2 d) os) fun e w2 => e = .returned (.bool false) ∧ ∃ r : Regrown, w2 = grow (redrawn W2 r.d) r.os := fun d os => Calls.regrown_of ((HF.out d os).mono fun _ _ h => h.is_no hF)
        have HE : Hid (∀ W', Below W2.heap.size W2 W' → Tells (Kq.Right l) w (.returned (.bool false)) W') := fun W' hW => Tells.no (Kq.rt_not HX.out (fun h => hF h.1)) (below_more HB2.out hW)
        clear hF
        refine wp_region_quiet_below (by kernel_rfl) (by kernel_rfl) ?_
        repeat (go_big_quiet_step (with_reducible exact cF _ _))
        refine wpQuiet_nil ?_
        intro w' hw'
        obtain ⟨⟨dq, osq⟩, hw''⟩ := hw'
        subst hw''
        have hfin := below_regrown W2 dq osq
        have HQ := Lib.hid (HE.out _ hfin)
        clear cF k0 k1 k2 k3 hfin
        go_wp2
        go_ret
        exact HQ.out
    · obtain rfl : k = n := by omega
      have hd2 : decide ((k : Int) < (k : Int)) = false := by simp
      have HE : Hid (Tells (Kq.Right l) w (.returned (.bool true)) wr) := Tells.yes (Kq.right_all (by rw [HN.out]; omega) (by rw [HN.out]; exact he.out)) hb
      clear hb
      go_wp2
      go_ret
      exact HE.out

end Go.Proofs.YthklgpflaghojaaGreatDoor

/-
  The contract of Rotate.
-/
namespace Go.Proofs.YthklgpflaghojaaGreatDoor
open Go.RowKit

/-- What Rotate answers. -/
def RotEnd (ok : Nat → Prop) (res : Except Int (List Kq.K)) (w : World) (e : Ending) (w' : World) : Prop := Below w.heap.size w w' ∧ match res with
  | .ok m => ∃ A c, e = .returned (.tuple #[.slice A m.length c, .int .i64 0]) ∧ KsIs w' ok (.slice A m.length c) m
  | .error n => e = .returned (.tuple #[.slice none 0 0, .int .i64 n]) ∧ (n = 90 ∨ n = 91)
theorem RotEnd.no {ok : Nat → Prop} {res : Except Int (List Kq.K)} {n : Int} {w w' : World} (h : res = .error n) (hn : n = 90 ∨ n = 91) (hb : Below w.heap.size w w') : RotEnd ok res w (.returned (.tuple #[.slice none 0 0, .int .i64 n])) w' := ⟨hb, by rw [h]; exact ⟨rfl, hn⟩⟩
theorem Kq.lived_min (made life : Int) : Kq.lived made life = made + min life (1099511627776 - made) := by
  unfold Kq.lived Kq.maxC
  split <;> omega
theorem Kq.rot_key {l : List Kq.K} {k : Kq.K} {life : Int} (h : ¬ (1 ≤ life ∧ k.made < Kq.maxC ∧ Kq.Fits l k)) : Kq.rotate l k life = .error 90 := by unfold Kq.rotate; rw [if_neg h]
theorem Kq.rot_full {l : List Kq.K} {k : Kq.K} {life : Int} (h : 1 ≤ life ∧ k.made < Kq.maxC ∧ Kq.Fits l k) (h8 : ¬ (Kq.drop k.made l).length < 8) : Kq.rotate l k life = .error 91 := by unfold Kq.rotate; rw [if_pos h, if_neg h8]
theorem Kq.rot_ok {l : List Kq.K} {k : Kq.K} {life : Int} (h : 1 ≤ life ∧ k.made < Kq.maxC ∧ Kq.Fits l k) (h8 : (Kq.drop k.made l).length < 8) : Kq.rotate l k life = .ok (Kq.drop k.made l ++ [Kq.newest k life]) := by unfold Kq.rotate; rw [if_pos h, if_pos h8]

set_option maxHeartbeats 1000000 in
set_option maxRecDepth 100000 in
theorem rotate_any {ok ok' : Nat → Prop} (l : List Kq.K) (A : Option Addr) (c n : Nat) (x : Kq.K) (v : Value) (life : Int) (w : World) (hL : KsIs w ok (.slice A n c) l) (hn : l.length = n) (h : IsK w ok' v x) (hi : I64 life) :
    Calls Tryz.prog 9 #[.slice A n c, v, .int .i64 life] w (RotEnd (w.heap.size ≤ ·) (Kq.rotate l x life) w) := by
  obtain ⟨B, d, rfl, hS, hlt, hm1, hm2⟩ := h
  obtain ⟨id, sec, made, ends⟩ := x
  simp only at *
  obtain ⟨W1, eW1⟩ : ∃ W1, W1 = w.alloc (.cells #[.string id, .slice B sec.length d, .int .i64 made, .int .i64 ends] 37) := ⟨_, rfl⟩
  have hb1 : Below w.heap.size w W1 := by rw [eW1]; exact below_new _ _
  have hl1 : Lies W1 w.heap.size 37 [.string id, .slice B sec.length d, .int .i64 made, .int .i64 ends] := by rw [eW1]; exact Lies.new_ rfl
  have hK1 : IsK W1 ok' (kv id (.slice B sec.length d) made ends) ⟨id, sec, made, ends⟩ := IsK.on ⟨B, d, rfl, hS, hlt, hm1, hm2⟩ hb1
  have hL1 := hL.on hb1
  have hF := fits_any l A c n _ _ W1 hL1 hn hK1
  have HB := Lib.hid hb1
  have HL1 := Lib.hid hl1
  have HK1 := Lib.hid hK1
  have HKS := Lib.hid hL1
  have HN := Lib.hid hn
  have HSZ : Hid (W1.heap.size = w.heap.size + 1) := by unfold Hid; rw [eW1]; simp
  rw [eW1] at hF
  have HW := Lib.hid eW1
  clear hb1 hl1 hK1 hL1 hL hn hS hlt eW1
  by_cases h1 : life < 1
  · have d1 : decide (life < 1) = true := decide_eq_true h1
    have HE : Hid (RotEnd (w.heap.size ≤ ·) (Kq.rotate l ⟨id, sec, made, ends⟩ life) w (.returned (.tuple #[.slice none 0 0, .int .i64 90])) W1) := RotEnd.no (Kq.rot_key (fun h => by have := h.1; omega)) (.inl rfl) HB.out
    rw [HW.out] at HE
    clear hF
    go_enter Tryz.func9, Tryz.ntmps9
    go_wp2
    go_ret2
    exact HE.out
  have d1 : decide (life < 1) = false := decide_eq_false h1
  by_cases h2 : 1099511627776 ≤ made
  · have d2 : decide (1099511627776 ≤ made) = true := decide_eq_true h2
    have HE : Hid (RotEnd (w.heap.size ≤ ·) (Kq.rotate l ⟨id, sec, made, ends⟩ life) w (.returned (.tuple #[.slice none 0 0, .int .i64 90])) W1) := RotEnd.no (Kq.rot_key (fun h => by have : made < 1099511627776 := h.2.1; omega)) (.inl rfl) HB.out
    rw [HW.out] at HE
    clear hF
    go_enter Tryz.func9, Tryz.ntmps9
    go_wp2
    go_ret2
    exact HE.out
  have d2 : decide (1099511627776 ≤ made) = false := decide_eq_false h2
  go_enter Tryz.func9, Tryz.ntmps9
  go_wp2_with fail
  refine hF.mono ?_
  rintro e w2 hh
  rw [← HW.out] at hh
  clear hF
  obtain ⟨hb2, ⟨hf, rfl⟩ | ⟨hf, rfl⟩⟩ := hh
  rotate_left
  · have HE : Hid (RotEnd (w.heap.size ≤ ·) (Kq.rotate l ⟨id, sec, made, ends⟩ life) w (.returned (.tuple #[.slice none 0 0, .int .i64 90])) w2) := RotEnd.no (Kq.rot_key (fun h => hf h.2.2)) (.inl rfl) (below_more HB.out hb2)
    clear hf hb2
    go_wp2
    go_ret2
    exact HE.out
  have HOK : Hid (1 ≤ life ∧ made < Kq.maxC ∧ Kq.Fits l ⟨id, sec, made, ends⟩) := ⟨by omega, by show made < 1099511627776; omega, hf⟩
  have h0 : 0 ≤ made := hf.2.2.1
  obtain ⟨⟨y0, y1, y2, y3⟩, _⟩ := (HL1.out.below hb2 HL1.out.lt).four
  have hD := drop_any l A c n made w2 (HKS.out.on hb2) HN.out
  have HB2 := Lib.hid (below_more HB.out hb2)
  have HL2 := Lib.hid (HL1.out.below hb2 HL1.out.lt)
  have HK2 := Lib.hid (HK1.out.on hb2)
  clear hf hb2
  go_wp2_with fail
  refine hD.mono ?_
  rintro e w3 ⟨lv, rfl, hrow, hb3⟩
  clear hD y0 y1 y2 y3
  obtain ⟨m, em⟩ : ∃ m, (Kq.drop made l).length = m := ⟨_, rfl⟩
  rw [em] at hrow
  obtain ⟨Ad, cd, rfl⟩ := hrow.form
  have HEM := Lib.hid em
  have HROW := Lib.hid hrow
  have HB3 := Lib.hid (below_more HB2.out hb3)
  have HL3 := Lib.hid (HL2.out.below hb3 HL2.out.lt)
  have HK3 := Lib.hid (HK2.out.on hb3)
  clear em hrow hb3
  by_cases h8 : 8 ≤ m
  · have d8 : decide ((8 : Int) ≤ (m : Int)) = true := decide_eq_true (by omega)
    have HE : Hid (RotEnd (w.heap.size ≤ ·) (Kq.rotate l ⟨id, sec, made, ends⟩ life) w (.returned (.tuple #[.slice none 0 0, .int .i64 91])) w3) := RotEnd.no (Kq.rot_full HOK.out (by show ¬ (Kq.drop made l).length < 8; rw [HEM.out]; omega)) (.inr rfl) HB3.out
    go_wp2
    go_ret2
    exact HE.out
  have d8 : decide ((8 : Int) ≤ (m : Int)) = false := decide_eq_false (by omega)
  have hC := copied_any _ _ w3 HK3.out
  obtain ⟨⟨y0, y1, y2, y3⟩, _⟩ := HL3.out.four
  go_wp2_with fail
  refine hC.mono ?_
  rintro e w4 ⟨A4, c4, rfl, hK4, hb4⟩
  clear hC y0 y1 y2 y3
  simp only at *
  have hl4 := HL3.out.below hb4 HL3.out.lt
  have hlv : (made + if 1099511627776 - made < life then 1099511627776 - made else life) = Kq.lived made life := by
    unfold Kq.lived Kq.maxC
    split <;> split <;> omega
  have y2 := ((hl4.alloc (.cells #[.string id, .slice A4 sec.length c4, .int .i64 made, .int .i64 ends] 37))).four.1.2.2.1
  have HLV := Lib.hid hlv
  have HLV2 := Lib.hid (Kq.lived_min made life).symm
  have HK4 := Lib.hid hK4
  have HB4 := Lib.hid (below_more HB3.out hb4)
  have HROW4 := Lib.hid (HROW.out.on hb4)
  have HLT := Lib.hid HROW.out.lt
  clear hl4 hlv hK4 hb4
  go_upto_region 8 with (fail)
  first
    | (rw [HLV.out]; generalize (if 1099511627776 - made < life then 1099511627776 - made else life) = MN)
    | (rw [HLV2.out]; generalize min life (1099511627776 - made) = MN)
  obtain ⟨LV, eLV⟩ : ∃ LV, Kq.lived made life = LV := ⟨_, rfl⟩
  obtain ⟨W5, eW5⟩ : ∃ W5, W5 = w4.alloc (.cells #[.string id, .slice A4 sec.length c4, .int .i64 made, .int .i64 LV] 37) := ⟨_, rfl⟩
  rw [eLV, ← eW5]
  have hb5 : Below w4.heap.size w4 W5 := by rw [eW5]; exact below_new _ _
  have hl5 : Lies W5 w4.heap.size 37 [.string id, .slice A4 sec.length c4, .int .i64 made, .int .i64 LV] := by rw [eW5]; exact Lies.new_ rfl
  obtain ⟨⟨z0, z1, z2, z3⟩, _⟩ := hl5.four
  have HLE := Lib.hid eLV
  have HRES : Hid (∀ A' c' w', Below w.heap.size w w' → KsIs w' (w.heap.size ≤ ·) (.slice A' (m + 1) c') (Kq.drop made l ++ [⟨id, sec, made, LV⟩]) → RotEnd (w.heap.size ≤ ·) (Kq.rotate l ⟨id, sec, made, ends⟩ life) w (.returned (.tuple #[.slice A' (m + 1) c', .int .i64 0])) w') := fun A' c' w' hb hK => ⟨hb, by
    rw [Kq.rot_ok HOK.out (by show (Kq.drop made l).length < 8; rw [HEM.out]; omega)]
    have e : (Kq.drop made l ++ [⟨id, sec, made, LV⟩] : List Kq.K).length = m + 1 := by rw [List.length_append, HEM.out]; rfl
    have e2 : Kq.newest ⟨id, sec, made, ends⟩ life = ⟨id, sec, made, LV⟩ := by unfold Kq.newest; simp only; rw [HLE.out]
    show ∃ A c, _ ∧ KsIs w' _ (.slice A (Kq.drop made l ++ [Kq.newest ⟨id, sec, made, ends⟩ life]).length c) (Kq.drop made l ++ [Kq.newest ⟨id, sec, made, ends⟩ life])
    rw [e2, e]
    exact ⟨A', c', rfl, hK⟩⟩
  obtain ⟨r1, r2, vs, r3, r4, r5⟩ := HROW4.out.on hb5
  obtain ⟨i0, hi0, hz0, hz1, hz2⟩ := info_parts infoKey
  have hsz : w4.heap.size ≤ W5.heap.size := hb5.size
  have HIK : Hid (IsK W5 (fun b => w2.heap.size ≤ b ∧ (Value.slice Ad m cd).ownBlock ≠ some b) (kv id (.slice A4 sec.length c4) made LV) ⟨id, sec, made, LV⟩) := by
    obtain ⟨A', c', e, hS, hl, i1, i2⟩ := HK4.out
    injection e with e
    injection e with e
    simp only [List.cons.injEq, Value.slice.injEq, and_true, true_and] at e
    obtain ⟨rfl, rfl⟩ := e
    refine ⟨A4, c4, rfl, (hS.keep (ok' := fun b => w2.heap.size ≤ b ∧ (Value.slice Ad m cd).ownBlock ≠ some b) (fun b hb _ => ⟨⟨Nat.le_trans HROW.out.ge hb, fun e => by
      have := (HLT.out b e).2
      have hb' : w3.heap.size ≤ b := hb
      omega⟩, rfl⟩) (Nat.le_refl _)).on hb5, hl, i1, ?_⟩
    have h1 := Kq.lived_le made life HOK.out.1 HOK.out.2.1
    rw [HLE.out] at h1
    obtain ⟨h1, h2⟩ := h1
    have h2 : LV ≤ 1099511627776 := h2
    have h5 : I64 LV := ⟨by omega, by omega⟩
    exact h5
  clear eW5 eLV y2
  repeat ((fail_if_success (with_reducible show wpList _ _ _ (⟨some 44, _, _, _, _, _⟩ :: _) _ _)); first | go_values | go_skip | go_guarded | go_step | go_upon | go_back | go_simp)
  with_reducible refine wpList_append_own_at _ rfl (.tmp 41) (.tmp 43) 22 rfl w2.heap.size 37 i0 (kv ByteArray.empty nilS 0 0) 4 56 Tryz.underlying22 hi0 hz0 hz1 hz2 rfl (by decide) (.slice Ad m cd) m (vs.flatMap jcells) ?s1 (own_below r4 (below_new _ _)) ⟨W5.heap.size, 0, none⟩ 1 1 (jcells (kv id (.slice A4 sec.length c4) made LV)) ?s2 rfl ?s3 (kv_ones _ _ _ _ _ _) ?s4 ?s5 ?s6 ?_
  case s1 => rfl
  case s2 => rfl
  case s3 => exact fun j u hj => new_cells W5 _ _ j u hj
  case s4 => unfold maxLen; omega
  case s5 => omega
  case s6 => exact Nat.le_trans r1 (below_new W5 _).size
  intro lv6 w6 hown6 hgr6 _ hat6
  have hbz := below_new W5 (.cells #[.string id, .slice A4 sec.length c4, .int .i64 made, .int .i64 LV] 37)
  have hR6 := rowK_more (Nat.le_trans r1 hbz.size) HEM.out r3 (fun i v x e1 e2 => (r5 i v x e1 e2).on hbz) (HIK.out.on hbz) hown6 hgr6 hat6
  obtain ⟨A6, c6, rfl⟩ := hR6.form
  have hBW := HB2.out.size
  have HB6 := Lib.hid (((below_more (below_more HB4.out hb5) hbz).grown hgr6 (Nat.le_trans (Nat.le_trans hBW r1) hbz.size) (fun k e => Nat.le_trans hBW (r4.lt k e).1)))
  have HE := Lib.hid (HRES.out A6 c6 w6 HB6.out (hR6.list (Q := (w.heap.size ≤ ·)) (fun b hb => Nat.le_trans hBW hb) (fun b hb => Nat.le_trans hBW hb) (by omega)))
  clear hown6 hgr6 hat6 hbz r1 r2 r3 r4 r5 hi0 hz0 hz1 hz2 hR6 hb5 hl5 z0 z1 z2 z3
  go_frame
  go_wp2
  go_ret2
  exact HE.out
end Go.Proofs.YthklgpflaghojaaGreatDoor

/-
  The contract of the document's Rotate.
-/
namespace Go.Proofs.YthklgpflaghojaaGreatDoor
open Go.RowKit
end Go.Proofs.YthklgpflaghojaaGreatDoor

/-
  The contract of the document's Same.
-/
namespace Go.Proofs.YthklgpflaghojaaGreatDoor
open Go.RowKit Go.Sort
end Go.Proofs.YthklgpflaghojaaGreatDoor

/-
  The law package's alive: it answers true.
-/
namespace Go.Proofs.YthklgpflaghojaaGreatDoor
open Go.RowKit

abbrev keyA : ByteArray := { data := #[97] }
theorem Kq.al_fits : Kq.Fits [] ⟨keyA, [120], 5, 0⟩ := ⟨fun ⟨_, h, _⟩ => (nomatch h), by unfold Kq.IdOk; decide, by decide, fun _ h => (nomatch h)⟩
theorem Kq.al_rotate : Kq.rotate [] ⟨keyA, [120], 5, 0⟩ 10 = .ok [⟨keyA, [120], 5, 15⟩] := Kq.rot_ok ⟨by decide, by decide, Kq.al_fits⟩ (by decide)
theorem Kq.al_signs : Kq.signing [⟨keyA, [120], 5, 15⟩] 5 = some ⟨keyA, [120], 5, 15⟩ := by
  unfold Kq.signing
  rw [List.reverse_singleton, List.find?_cons_of_pos (by decide)]
theorem Kq.al_late : Kq.signing [⟨keyA, [120], 5, 15⟩] 15 = none := by
  unfold Kq.signing
  rw [List.reverse_singleton, List.find?_cons_of_neg (by decide), List.find?_nil]
theorem Kq.al_right : Kq.Right [⟨keyA, [120], 5, 15⟩] := Kq.rotate_right Kq.right_nil Kq.al_rotate

theorem alK_is {w : World} {g : Nat} (h : ArgIs w (some ⟨g, 0, none⟩) 1 [120]) : IsK w (fun _ => True) (kv keyA (.slice (some ⟨g, 0, none⟩) 1 1) 5 0) ⟨keyA, [120], 5, 0⟩ :=
  ⟨_, 1, rfl, argIs_slIs h, ⟨by decide, by decide⟩, ⟨by decide, by decide⟩, by decide, by decide⟩
/-- What alive's calls answer. -/
theorem al_rot {ok : Nat → Prop} {w w' : World} {e : Ending} (h : RotEnd ok (Kq.rotate [] ⟨keyA, [120], 5, 0⟩ 10) w e w') : Below w.heap.size w w' ∧ ∃ A c, e = .returned (.tuple #[.slice A 1 c, .int .i64 0]) ∧ KsIs w' ok (.slice A 1 c) [⟨keyA, [120], 5, 15⟩] := by
  rw [Kq.al_rotate] at h
  exact h
theorem al_sig {ok : Nat → Prop} {w w' : World} {e : Ending} (h : FoundEnd ok (Kq.signing [⟨keyA, [120], 5, 15⟩] 5) w e w') : Below w.heap.size w w' ∧ ∃ A c, e = .returned (.tuple #[kv keyA (.slice A 1 c) 5 15, .bool true]) := by
  rw [Kq.al_signs] at h
  obtain ⟨hb, A, c, he, _⟩ := h
  exact ⟨hb, A, c, he⟩
theorem al_sig2 {ok : Nat → Prop} {w w' : World} {e : Ending} (h : FoundEnd ok (Kq.signing [⟨keyA, [120], 5, 15⟩] 15) w e w') : Below w.heap.size w w' ∧ e = .returned (.tuple #[kv ByteArray.empty nilS 0 0, .bool false]) := by
  rw [Kq.al_late] at h
  exact h
theorem al_cells {w : World} {ok : Nat → Prop} {A : Option Addr} {c : Nat} (h : KsIs w ok (.slice A 1 c) [⟨keyA, [120], 5, 15⟩]) : ∃ b off, A = some ⟨b, off, none⟩ ∧ w.cell? ⟨b, off + 3, none⟩ = some (.int .i64 15) := by
  obtain ⟨b, off, x, A1, c1, e, _, _, hx, _, _, _, _, s3⟩ := h.elem (i := 0) (by simp)
  simp at hx
  subst hx
  refine ⟨b, off, e, ?_⟩
  simpa using s3

set_option maxHeartbeats 1000000 in
set_option maxRecDepth 100000 in
theorem alive9_any (w : World) :
    Calls Tryz.prog 7 #[] w (IsTrue w) := by
  have kc := Lib.hid (fun (w : World) (C : Array Value) (n c : Nat) => Lib.run_convert_bytes_const (P := Tryz.prog) w 27 5 C n c Tryz.underlying27 Tryz.underlying5)
  have k1 := kc.out w #[.int .u8 120] 1 1
  obtain ⟨W1, eW1⟩ : ∃ W1, W1 = w.alloc (.cells #[.int .u8 120] 5 (1, 2)) := ⟨_, rfl⟩
  have hb1 : Below w.heap.size w W1 := by rw [eW1]; exact below_new _ _
  have hA1 : ArgIs W1 (some ⟨w.heap.size, 0, none⟩) 1 [120] := by rw [eW1]; exact arg_new rfl 5 (1, 2) [120] 1 (by decide) (by decide) (by decide)
  have hR := rotate_any [] none 0 0 _ _ 10 W1 (KsIs.nil W1 (fun _ => True)) rfl (alK_is hA1) ⟨by decide, by decide⟩
  have HB1 := Lib.hid hb1
  rw [eW1] at hR
  have HW1 := Lib.hid eW1
  clear hb1 hA1 eW1
  go_enter Tryz.func7, Tryz.ntmps7
  go_wp2_with fail
  refine hR.mono ?_
  intro e w2 hh
  rw [← HW1.out] at hh
  clear hR k1
  obtain ⟨hb2, A2, c2, rfl, hK2⟩ := al_rot hh
  have HB2 := Lib.hid (below_more HB1.out hb2)
  have HK2 := Lib.hid hK2
  have hS := signing_any _ A2 c2 1 5 w2 hK2 rfl
  clear hh hb2 hK2
  go_wp2_with fail
  refine hS.mono ?_
  intro e w3 hh
  clear hS
  obtain ⟨hb3, A3, c3, rfl⟩ := al_sig hh
  obtain ⟨W4, eW4⟩ : ∃ W4, W4 = w3.alloc (.cells #[.string keyA, .slice A3 1 c3, .int .i64 5, .int .i64 15] 37) := ⟨_, rfl⟩
  have hb4 : Below w3.heap.size w3 W4 := by rw [eW4]; exact below_new _ _
  have hl4 : Lies W4 w3.heap.size 37 [.string keyA, .slice A3 1 c3, .int .i64 5, .int .i64 15] := by rw [eW4]; exact Lies.new_ rfl
  have hK4 := (HK2.out.on hb3).on hb4
  have hS := signing_any _ A2 c2 1 15 W4 hK4 rfl
  have HB4 := Lib.hid (below_more (below_more HB2.out hb3) hb4)
  have HL4 := Lib.hid hl4
  have HK4 := Lib.hid hK4
  rw [eW4] at hS
  have HW4 := Lib.hid eW4
  clear hh hb3 hb4 hl4 hK4 eW4
  go_wp2_with fail
  refine hS.mono ?_
  intro e w5 hh
  rw [← HW4.out] at hh
  clear hS
  obtain ⟨hb5, rfl⟩ := al_sig2 hh
  obtain ⟨W6, eW6⟩ : ∃ W6, W6 = w5.alloc (.cells #[.string ByteArray.empty, nilS, .int .i64 0, .int .i64 0] 37) := ⟨_, rfl⟩
  have hb6 : Below w5.heap.size w5 W6 := by rw [eW6]; exact below_new _ _
  have hl6 := (HL4.out.below hb5 HL4.out.lt).below hb6 (HL4.out.below hb5 HL4.out.lt).lt
  have hK6 := (HK4.out.on hb5).on hb6
  have hR := right_any _ A2 c2 1 W6 hK6 rfl
  obtain ⟨b, off, rfl, s3⟩ := al_cells hK6
  obtain ⟨⟨y0, _⟩, _⟩ := hl6.four
  have HB6 := Lib.hid (below_more (below_more HB4.out hb5) hb6)
  rw [eW6] at hR s3 y0
  have HW6 := Lib.hid eW6
  have hka : (keyA.toList == [97]) = true := by rw [ByteArray.toList_eq]; decide
  clear hh hb5 hb6 hl6 hK6 eW6
  go_wp2_with fail
  refine hR.mono ?_
  intro e w7 hh
  rw [← HW6.out] at hh
  clear hR
  obtain ⟨rfl, hb7⟩ := hh.is_yes Kq.al_right
  have HE : Hid (IsTrue w (.returned (.bool true)) w7) := ⟨rfl, below_more HB6.out hb7⟩
  clear hh hb7 s3 y0 hka
  go_wp2
  go_ret
  exact HE.out
end Go.Proofs.YthklgpflaghojaaGreatDoor

/-
  The laws RingRight, RingDrops, RingRotates.
-/
namespace Go.Proofs.YthklgpflaghojaaGreatDoor
open Go.RowKit
open Classical in
/-- What Rotate answers, in one form: the row and the error. -/
def Kq.errOf : Except Int (List Kq.K) → Int
  | .ok _ => 0
  | .error n => n
def Kq.rowOf : Except Int (List Kq.K) → List Kq.K
  | .ok m => m
  | .error _ => []
theorem RotEnd.shows {ok : Nat → Prop} {res : Except Int (List Kq.K)} {w w' : World} {e : Ending} (h : RotEnd ok res w e w') : Below w.heap.size w w' ∧ ∃ A c, e = .returned (.tuple #[.slice A (Kq.rowOf res).length c, .int .i64 (Kq.errOf res)]) ∧ KsIs w' ok (.slice A (Kq.rowOf res).length c) (Kq.rowOf res) := by
  obtain ⟨hb, h⟩ := h
  refine ⟨hb, ?_⟩
  cases res with
  | ok m =>
    obtain ⟨A, c, rfl, hK⟩ := h
    exact ⟨A, c, rfl, hK⟩
  | error n =>
    obtain ⟨rfl, _⟩ := h
    exact ⟨none, 0, rfl, KsIs.nil _ _⟩

end Go.Proofs.YthklgpflaghojaaGreatDoor

/-
  The laws RingSigns, RingFinds, RingNewest.
-/
namespace Go.Proofs.YthklgpflaghojaaGreatDoor
open Go.RowKit

/-- The bytes of a key whose cells are known. -/
theorem IsK.arg {w : World} {ok : Nat → Prop} {id : ByteArray} {A : Option Addr} {n c : Nat} {m e : Int} {x : Kq.K} (h : IsK w ok (kv id (.slice A n c) m e) x) : ArgIs w A c x.secret ∧ x.secret.length = n ∧ x.secret.length ≤ 140737488355328 ∧ ∀ y ∈ x.secret, y < 256 := by
  obtain ⟨A', c', e, hS, hl, _⟩ := h
  injection e with e
  injection e with e
  simp only [List.cons.injEq, Value.slice.injEq, and_true] at e
  obtain ⟨_, ⟨rfl, rfl, rfl⟩, _⟩ := e
  exact ⟨slIs_argIs hS hl.2, rfl, hl⟩
def Kq.keyOf : Option Kq.K → Kq.K
  | some x => x
  | none => ⟨ByteArray.empty, [], 0, 0⟩
/-- What Find and Signing answer, in one form: the key, and whether there is one. -/
theorem FoundEnd.shows {ok : Nat → Prop} {res : Option Kq.K} {w w' : World} {e : Ending} (h : FoundEnd ok res w e w') : Below w.heap.size w w' ∧ ∃ A c, e = .returned (.tuple #[kv (Kq.keyOf res).id (.slice A (Kq.keyOf res).secret.length c) (Kq.keyOf res).made (Kq.keyOf res).ends, .bool res.isSome]) ∧ IsK w' ok (kv (Kq.keyOf res).id (.slice A (Kq.keyOf res).secret.length c) (Kq.keyOf res).made (Kq.keyOf res).ends) (Kq.keyOf res) := by
  obtain ⟨hb, h⟩ := h
  refine ⟨hb, ?_⟩
  cases res with
  | some m =>
    obtain ⟨A, c, rfl, hK⟩ := h
    exact ⟨A, c, rfl, hK⟩
  | none =>
    subst h
    exact ⟨none, 0, rfl, isK_zero _ _⟩

end Go.Proofs.YthklgpflaghojaaGreatDoor

/-
  Rotations in memory; the law RingStays.
-/
namespace Go.Proofs.YthklgpflaghojaaGreatDoor
open Go.RowKit

abbrev tnv (id : ByteArray) (sec : Value) (made ends life : Int) : Value := .agg #[.string id, sec, .int .i64 made, .int .i64 ends, .int .i64 life]
/-- A rotation in memory: a key, its life. -/
def IsTn (w : World) (ok : Nat → Prop) (v : Value) (t : Kq.K × Int) : Prop :=
  ∃ A c, v = tnv t.1.id (.slice A t.1.secret.length c) t.1.made t.1.ends t.2 ∧ IsK w ok (kv t.1.id (.slice A t.1.secret.length c) t.1.made t.1.ends) t.1 ∧ I64 t.2
theorem tncells_len {w : World} {ok : Nat → Prop} {v : Value} {t : Kq.K × Int} (h : IsTn w ok v t) : (jcells v).length = 5 := by
  obtain ⟨A, c, rfl, _⟩ := h; rfl
theorem flat5_at : ∀ (vs : List Value), (∀ v ∈ vs, (jcells v).length = 5) → ∀ (i j : Nat) (v : Value), vs[i]? = some v → j < 5 → (vs.flatMap jcells)[i * 5 + j]? = (jcells v)[j]?
  | [], _, i, j, v, h, _ => by simp at h
  | a :: r, hl, 0, j, v, h, hj => by
    simp at h
    subst h
    rw [List.flatMap_cons, List.getElem?_append_left (by have := hl a (by simp); omega)]
    simp
  | a :: r, hl, i + 1, j, v, h, hj => by
    have ha := hl a (by simp)
    rw [List.flatMap_cons, List.getElem?_append_right (by omega), show (i + 1) * 5 + j - (jcells a).length = i * 5 + j from by omega]
    exact flat5_at r (fun v hv => hl v (by simp [hv])) i j v (by simpa using h) hj
/-- A row of rotations in memory. -/
def TsIs (w : World) (ok : Nat → Prop) (v : Value) (l : List (Kq.K × Int)) : Prop :=
  ∃ vs : List Value, SlIs w ok v l.length (vs.flatMap jcells) ∧ vs.length = l.length ∧ l.length * 64 ≤ 140737488355328 ∧ ∀ (i : Nat) v x, vs[i]? = some v → l[i]? = some x → IsTn w ok v x
section
variable {w w' : World} {ok ok' : Nat → Prop} {v : Value} {l : List (Kq.K × Int)}
theorem TsIs.len (h : TsIs w ok v l) : l.length * 64 ≤ 140737488355328 := by
  obtain ⟨_, _, _, h3, _⟩ := h
  exact h3
theorem TsIs.form (h : TsIs w ok v l) : ∃ A c, v = .slice A l.length c := by
  obtain ⟨_, ⟨A, c, rfl, _⟩, _⟩ := h
  exact ⟨A, c, rfl⟩
theorem TsIs.on (h : TsIs w ok v l) (hb : Below w.heap.size w w') : TsIs w' ok v l := by
  obtain ⟨vs, h1, h2, h3, h4⟩ := h
  refine ⟨vs, h1.on hb, h2, h3, fun i v x e1 e2 => ?_⟩
  obtain ⟨A, c, e, hK, hi⟩ := h4 i v x e1 e2
  exact ⟨A, c, e, hK.on hb, hi⟩
/-- The rotation at a place. -/
theorem TsIs.elem {A : Option Addr} {n c : Nat} (h : TsIs w ok (.slice A n c) l) {i : Nat} (hi : i < l.length) :
    ∃ b off x life A1 c1, A = some ⟨b, off, none⟩ ∧ b < w.heap.size ∧ l[i]? = some (x, life) ∧ IsK w ok (kv x.id (.slice A1 x.secret.length c1) x.made x.ends) x ∧ I64 life ∧
      w.cell? ⟨b, off + i * 5, none⟩ = some (.string x.id) ∧ w.cell? ⟨b, off + i * 5 + 1, none⟩ = some (.slice A1 x.secret.length c1) ∧ w.cell? ⟨b, off + i * 5 + 2, none⟩ = some (.int .i64 x.made) ∧ w.cell? ⟨b, off + i * 5 + 3, none⟩ = some (.int .i64 x.ends) ∧ w.cell? ⟨b, off + i * 5 + 4, none⟩ = some (.int .i64 life) := by
  obtain ⟨vs, ⟨A', c', e, h1, h2, h3⟩, hvs, hl, hel⟩ := h
  injection e with e1 e2 e3
  subst e1 e3
  obtain ⟨b, off, rfl, hb, hlt, hc⟩ := h3 (by omega)
  have hv : vs[i]? = some (vs[i]'(by omega)) := List.getElem?_eq_getElem (by omega)
  have hx : l[i]? = some l[i] := List.getElem?_eq_getElem hi
  obtain ⟨A1, c1, ev, hK, hI⟩ := hel i _ _ hv hx
  have h6 : ∀ v ∈ vs, (jcells v).length = 5 := fun v hm => by
    obtain ⟨j, hj, rfl⟩ := List.mem_iff_getElem.1 hm
    exact tncells_len (hel j _ _ (List.getElem?_eq_getElem hj) (List.getElem?_eq_getElem (by omega)))
  have hcell : ∀ j u, j < 5 → (jcells (vs[i]'(by omega)))[j]? = some u → w.cell? ⟨b, off + (i * 5 + j), none⟩ = some u := fun j u hj hu => hc _ u (by rw [flat5_at vs h6 i j _ hv hj, hu])
  rw [ev] at hcell
  refine ⟨b, off, l[i].1, l[i].2, A1, c1, rfl, hlt, hx, hK, hI, hcell 0 _ (by omega) rfl, ?_, ?_, ?_, ?_⟩
  all_goals rw [Nat.add_assoc]
  · exact hcell 1 _ (by omega) rfl
  · exact hcell 2 _ (by omega) rfl
  · exact hcell 3 _ (by omega) rfl
  · exact hcell 4 _ (by omega) rfl
end
/-- A ring in a variable. -/
def RingAt (lv : Value) (w : World) : Prop := ∃ m : List Kq.K, ∃ A c, lv = .slice A m.length c ∧ KsIs w (fun _ => True) lv m ∧ Kq.Right m
theorem RingAt.on {lv : Value} {w w' : World} (h : RingAt lv w) (hb : Below w.heap.size w w') : RingAt lv w' := by
  obtain ⟨m, A, c, h1, h2, h3⟩ := h
  exact ⟨m, A, c, h1, h2.on hb, h3⟩

end Go.Proofs.YthklgpflaghojaaGreatDoor
