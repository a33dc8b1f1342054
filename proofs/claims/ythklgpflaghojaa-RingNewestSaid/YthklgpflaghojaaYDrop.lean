/-
  The contracts of without with the closure over the time, of Drop and of the document's.
-/
import Derived.Test.YthklgpflaghojaaYSmall
namespace Go.Proofs.Ythklgpflaghojaa
open Go.RowKit

/-- The row that Drop answers: of the call's own. -/
def DropEnd (P : Nat → Prop) (B : Nat) (l : List Kq.K) (w : World) (e : Ending) (w' : World) : Prop := ∃ v, e = .returned v ∧ RowK P B l.length l v w' ∧ Below w.heap.size w w'
theorem RowK.down {P Q : Nat → Prop} {B C n : Nat} {l : List Kq.K} {lv : Value} {w : World} (h : RowK P B n l lv w) (hC : C ≤ B) (hP : ∀ b, P b → Q b) : RowK Q C n l lv w := by
  obtain ⟨r1, r2, vs, r3, ⟨o1, o2⟩, r5⟩ := h
  refine ⟨Nat.le_trans hC r1, r2, vs, r3, ⟨o1, ?_⟩, fun i v x e1 e2 => (r5 i v x e1 e2).keep (fun b hb _ => ⟨⟨hP b hb.1, hb.2⟩, rfl⟩) (Nat.le_refl _)⟩
  rcases o2 with h | ⟨g, cap, cur, e, hB, hr⟩
  · exact .inl h
  · exact .inr ⟨g, cap, cur, e, Nat.le_trans hC hB, hr⟩
theorem drop_bytes {l : List Kq.K} {n k : Nat} (now : Int) (hn : l.length = n) (hk : k ≤ n) : (Kq.drop now (l.take k)).length ≤ n := by
  have h1 := Kq.drop_len now (l.take k)
  rw [List.length_take] at h1
  omega

set_option maxHeartbeats 4000000 in
set_option maxRecDepth 100000 in
theorem without_any {ok : Nat → Prop} (l : List Kq.K) (A : Option Addr) (c n : Nat) (now : Int) (N : Nat) (w : World) (hL : KsIs w ok (.slice A n c) l) (hn : l.length = n) (hN : w.cell? ⟨N, 0, none⟩ = some (.int .i64 now)) :
    Calls Try.prog 28 #[.slice A n c, .func (.func 29) #[] #[.pointer (some ⟨N, 0, none⟩)]] w (DropEnd (w.heap.size ≤ ·) w.heap.size (Kq.drop now l) w) := by
  have hns : n * 56 ≤ 140737488355328 := by rw [← hn]; exact hL.len
  have HL := Lib.hid hL
  have HN := Lib.hid hn
  have HC := Lib.hid hN
  clear hL hn hN
  go_enter Try.func28, Try.ntmps28
  go_wp2_with fail
  go_loopw [5, 10] (fun lv i wr => ∃ k : Nat, i = .int .i64 k ∧ k ≤ n ∧ RowK (w.heap.size ≤ ·) w.heap.size (Kq.drop now (l.take k)).length (Kq.drop now (l.take k)) lv wr ∧ Below w.heap.size w wr) (fun _ i _ => n - (intOf i).toNat)
  case atStart => exact ⟨0, rfl, Nat.zero_le _, RowK.nil (Nat.le_refl _), Below.refl _ _⟩
  case round =>
    obtain ⟨k, rfl, hk, hrow, hb⟩ := hrel
    by_cases hlt : k < n
    · obtain ⟨b, off, x, A1, c1, rfl, _, _, hx, hK, s0, s1, s2, s3⟩ := (HL.out.on hb).elem (by rw [HN.out]; exact hlt)
      obtain ⟨W2, eW2⟩ : ∃ W2, W2 = wr.alloc (.cells #[.string x.id, .slice A1 x.secret.length c1, .int .i64 x.made, .int .i64 x.ends] 27) := ⟨_, rfl⟩
      have hb2 : Below wr.heap.size wr W2 := by rw [eW2]; exact below_new _ _
      have hl2 : Lies W2 wr.heap.size 27 [.string x.id, .slice A1 x.secret.length c1, .int .i64 x.made, .int .i64 x.ends] := by rw [eW2]; exact Lies.new_ rfl
      have hK2 := hK.on hb2
      have hbW2 := below_more hb hb2
      have hC := drop1_any x _ now N W2 hK2 ((hbW2.cell (World.block_lt_of_cell? _ _ HC.out)).trans HC.out)
      have hrow2 := hrow.on hb2
      have hstep := Kq.drop_step (now := now) hx
      have hle := drop_bytes now HN.out (show k + 1 ≤ n from hlt)
      rw [eW2] at hC
      have HW2 := Lib.hid eW2
      have HL2 := Lib.hid hl2
      have HK2 := Lib.hid hK2
      have HB2 := Lib.hid hbW2
      have HR2 := Lib.hid hrow2
      have HST := Lib.hid hstep
      have HLE := Lib.hid hle
      clear hx hK hb hb2 hl2 hK2 hbW2 hrow hrow2 hstep hle eW2
      go_wp2_with fail
      refine hC.mono ?_
      rintro e w3 hh
      clear hC
      rw [← HW2.out] at hh
      obtain ⟨hb3, ⟨hg, rfl⟩ | ⟨hg, rfl⟩⟩ := hh
      · have HQ : Hid (∃ k' : Nat, Value.int .i64 ((k + 1 : Nat) : Int) = .int .i64 k' ∧ k' ≤ n ∧ RowK (w.heap.size ≤ ·) w.heap.size (Kq.drop now (l.take k')).length (Kq.drop now (l.take k')) u5 w3 ∧ Below w.heap.size w w3) := ⟨k + 1, rfl, hlt, by
          have e : Kq.drop now (l.take (k + 1)) = Kq.drop now (l.take k) := by rw [HST.out, if_neg (by have : x.ends ≤ now := hg; omega), List.append_nil]
          rw [e]
          exact HR2.out.on hb3, below_more HB2.out hb3⟩
        clear hb3 hg s0 s1 s2 s3
        go_wp2
        go_roundw
        case rel => exact HQ.out
        case measure => simp [intOf]; omega
      · have hl3 := HL2.out.below hb3 HL2.out.lt
        have hC := copied_any x _ w3 (HK2.out.on hb3)
        obtain ⟨⟨y0, y1, y2, y3⟩, _⟩ := hl3.four
        have HR3 := Lib.hid (HR2.out.on hb3)
        have HB3 := Lib.hid (below_more HB2.out hb3)
        have HG : Hid (Kq.drop now (l.take (k + 1)) = Kq.drop now (l.take k) ++ [x]) := by
          unfold Hid
          rw [HST.out, if_pos (Kq.not_gone.1 hg)]
        clear hb3 hg s0 s1 s2 s3 hl3
        go_wp2_with fail
        refine hC.mono ?_
        rintro e w4 ⟨A4, c4, rfl, hK4, hb4⟩
        clear hC y0 y1 y2 y3
        have hrow4 := HR3.out.on hb4
        have hlts := HR3.out.lt
        obtain ⟨r1, r2, vs, r3, r4, r5⟩ := hrow4
        obtain ⟨i0, hi, hz0, hz1, hz2⟩ := info_parts infoKey
        have HK4 := Lib.hid hK4
        have HB4 := Lib.hid (below_more HB3.out hb4)
        have HLT := Lib.hid hlts
        have HG3 := Lib.hid HR3.out.ge
        clear hK4 hb4 hlts
        obtain ⟨m, em⟩ : ∃ m, (Kq.drop now (l.take k)).length = m := ⟨_, rfl⟩
        have hm : m + 1 ≤ n := by have := HLE.out; rw [HG.out, List.length_append, em] at this; simpa using this
        rw [em] at r3 r4
        have HEM := Lib.hid em
        clear em
        repeat ((fail_if_success (with_reducible show wpList _ _ _ (⟨some 22, _, _, _, _, _⟩ :: _) _ _)); first | go_values | go_skip | go_guarded | go_step | go_upon | go_back | go_simp)
        with_reducible refine wpList_append_own_at _ rfl (.tmp 18) (.tmp 21) 22 rfl w.heap.size 27 i0 (kv ByteArray.empty nilS 0 0) 4 56 Try.underlying22 hi hz0 hz1 hz2 rfl (by decide) u5 m (vs.flatMap jcells) ?s1 (own_below r4 (below_new _ _)) ⟨w4.heap.size, 0, none⟩ 1 1 (jcells (kv x.id (.slice A4 x.secret.length c4) x.made x.ends)) ?s2 rfl ?s3 (kv_ones _ _ _ _ _ _) ?s4 ?s5 ?s6 ?_
        case s1 => rfl
        case s2 => rfl
        case s3 => exact fun j u hj => new_cells w4 _ _ j u hj
        case s4 => unfold maxLen; omega
        case s5 => omega
        case s6 => exact Nat.le_trans r1 (below_new w4 _).size
        intro lv5 w5 hown5 hgr5 _ hat5
        have hbz := below_new w4 (.cells #[.string x.id, .slice A4 x.secret.length c4, .int .i64 x.made, .int .i64 x.ends] 27)
        have HR5 := Lib.hid (rowK_more (Nat.le_trans r1 hbz.size) HEM.out r3 (fun i v x e1 e2 => (r5 i v x e1 e2).on hbz) ((HK4.out.keep (ok' := fun b => w.heap.size ≤ b ∧ u5.ownBlock ≠ some b) (fun b hb _ => ⟨⟨Nat.le_trans HG3.out hb, fun e => by
          have := (HLT.out b e).2
          have hb' : w3.heap.size ≤ b := hb
          omega⟩, rfl⟩) (Nat.le_refl _)).on hbz) hown5 hgr5 hat5)
        have HB5 := Lib.hid (((HB4.out.trans (hbz.mono HB4.out.size)).grown hgr5 (Nat.le_trans r1 hbz.size) (fun k e => (r4.lt k e).1)))
        have HQ : Hid (∃ k' : Nat, Value.int .i64 ((k + 1 : Nat) : Int) = .int .i64 k' ∧ k' ≤ n ∧ RowK (w.heap.size ≤ ·) w.heap.size (Kq.drop now (l.take k')).length (Kq.drop now (l.take k')) lv5 w5 ∧ Below w.heap.size w w5) := ⟨k + 1, rfl, hlt, by
          rw [HG.out, List.length_append, HEM.out]
          exact HR5.out, HB5.out⟩
        clear hown5 hgr5 hat5 hbz r1 r2 r3 r4 r5 hi hz0 hz1 hz2
        go_frame
        go_wp2
        go_roundw
        case rel => exact HQ.out
        case measure => simp [intOf]; omega
    · obtain rfl : k = n := by omega
      have hd2 : decide ((k : Int) < (k : Int)) = false := by simp
      have HE : Hid (DropEnd (w.heap.size ≤ ·) w.heap.size (Kq.drop now l) w (.returned u5) wr) := ⟨u5, rfl, by
        have := hrow
        rwa [List.take_of_length_le (by rw [HN.out]; exact Nat.le_refl _)] at this, hb⟩
      clear hrow hb
      go_wp2
      go_ret
      exact HE.out

set_option maxHeartbeats 1000000 in
set_option maxRecDepth 100000 in
theorem drop_any {ok : Nat → Prop} (l : List Kq.K) (A : Option Addr) (c n : Nat) (now : Int) (w : World) (hL : KsIs w ok (.slice A n c) l) (hn : l.length = n) :
    Calls Try.prog 17 #[.slice A n c, .int .i64 now] w (DropEnd (w.heap.size ≤ ·) w.heap.size (Kq.drop now l) w) := by
  obtain ⟨W1, eW1⟩ : ∃ W1, W1 = w.alloc (.cells #[.int .i64 now] 3) := ⟨_, rfl⟩
  have hb1 : Below w.heap.size w W1 := by rw [eW1]; exact below_new _ _
  have hl1 : Lies W1 w.heap.size 3 [.int .i64 now] := by rw [eW1]; exact Lies.new_ rfl
  have hC := without_any l A c n now w.heap.size W1 (hL.on hb1) hn (hl1.cell 0)
  have HE : Hid (∀ e w', DropEnd (W1.heap.size ≤ ·) W1.heap.size (Kq.drop now l) W1 e w' → DropEnd (w.heap.size ≤ ·) w.heap.size (Kq.drop now l) w e w') := fun e w' ⟨v, h1, h2, h3⟩ =>
    ⟨v, h1, h2.down hb1.size (fun b hb => Nat.le_trans hb1.size hb), below_more hb1 h3⟩
  have HW := Lib.hid eW1
  have HC := Lib.hid (hC.mono HE.out)
  have hC' := HC.out
  rw [eW1] at hC'
  have hmf : ∀ (fn : Fn) (first cap : Array Value) (w : World), (Instr.makeFunc fn first cap).run Try.prog w = .ok (.func fn first cap) w := fun _ _ _ _ => rfl
  clear hL hn hb1 hl1 eW1 hC HC HE
  go_enter Try.func17, Try.ntmps17
  go_wp2_with fail
  refine hC'.mono ?_
  rintro e w2 ⟨v, rfl, hr⟩
  have HE : Hid (DropEnd (w.heap.size ≤ ·) w.heap.size (Kq.drop now l) w (.returned v) w2) := ⟨v, rfl, hr⟩
  clear hr hC'
  go_wp2
  go_ret
  exact HE.out

end Go.Proofs.Ythklgpflaghojaa
