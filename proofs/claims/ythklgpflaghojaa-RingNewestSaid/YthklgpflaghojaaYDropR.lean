/-
  The contract of the document's Drop.
-/
import Derived.Test.YthklgpflaghojaaYDrop
namespace Go.Proofs.Ythklgpflaghojaa
open Go.RowKit

set_option maxHeartbeats 1000000 in
set_option maxRecDepth 100000 in
theorem refDrop_any {ok : Nat → Prop} (l : List Kq.K) (A : Option Addr) (c n : Nat) (now : Int) (w : World) (hL : KsIs w ok (.slice A n c) l) (hn : l.length = n) (hok : ∀ b, ok b → b < w.heap.size) :
    Calls Try.prog 18 #[.slice A n c, .int .i64 now] w (DropEnd ok w.heap.size (Kq.drop now l) w) := by
  have hns : n * 56 ≤ 140737488355328 := by rw [← hn]; exact hL.len
  have HL := Lib.hid hL
  have HN := Lib.hid hn
  have HOK := Lib.hid hok
  clear hL hn hok
  go_enter Try.func18, Try.ntmps18
  go_wp2_with fail
  go_loopw [5, 6] (fun lv i wr => ∃ k : Nat, i = .int .i64 k ∧ k ≤ n ∧ RowK ok w.heap.size (Kq.drop now (l.take k)).length (Kq.drop now (l.take k)) lv wr ∧ Below w.heap.size w wr) (fun _ i _ => n - (intOf i).toNat)
  case atStart => exact ⟨0, rfl, Nat.zero_le _, RowK.nil (Nat.le_refl _), Below.refl _ _⟩
  case round =>
    obtain ⟨k, rfl, hk, hrow, hb⟩ := hrel
    by_cases hlt : k < n
    · obtain ⟨b, off, x, A1, c1, rfl, _, _, hx, hK, s0, s1, s2, s3⟩ := (HL.out.on hb).elem (by rw [HN.out]; exact hlt)
      have hstep := Kq.drop_step (now := now) hx
      have HLE := Lib.hid (drop_bytes now HN.out (show k + 1 ≤ n from hlt))
      have HST := Lib.hid hstep
      clear hx hstep
      by_cases hg : now < x.ends
      · have dg : decide (now < x.ends) = true := decide_eq_true hg
        have HG : Hid (Kq.drop now (l.take (k + 1)) = Kq.drop now (l.take k) ++ [x]) := by
          unfold Hid
          rw [HST.out, if_pos hg]
        have hlts := hrow.lt
        obtain ⟨r1, r2, vs, r3, r4, r5⟩ := hrow
        obtain ⟨i0, hi, hz0, hz1, hz2⟩ := info_parts infoKey
        have HK := Lib.hid hK
        have HB := Lib.hid hb
        have HLT := Lib.hid hlts
        clear hK hlts hb hg
        obtain ⟨m, em⟩ : ∃ m, (Kq.drop now (l.take k)).length = m := ⟨_, rfl⟩
        have hm : m + 1 ≤ n := by have := HLE.out; rw [HG.out, List.length_append, em] at this; simpa using this
        rw [em] at r3 r4
        have HEM := Lib.hid em
        clear em
        go_upto_region 6 with (fail)
        repeat ((fail_if_success (with_reducible show wpList _ _ _ (⟨some 26, _, _, _, _, _⟩ :: _) _ _)); first | go_values | go_skip | go_guarded | go_step | go_upon | go_back | go_simp)
        with_reducible refine wpList_append_own_at _ rfl (.tmp 20) (.tmp 25) 22 rfl w.heap.size 27 i0 (kv ByteArray.empty nilS 0 0) 4 56 Try.underlying22 hi hz0 hz1 hz2 rfl (by decide) u5 m (vs.flatMap jcells) ?s1 (own_below r4 (below_new _ _)) ⟨wr.heap.size, 0, none⟩ 1 1 (jcells (kv x.id (.slice A1 x.secret.length c1) x.made x.ends)) ?s2 rfl ?s3 (kv_ones _ _ _ _ _ _) ?s4 ?s5 ?s6 ?_
        case s1 => rfl
        case s2 => rfl
        case s3 => exact fun j u hj => new_cells wr _ _ j u hj
        case s4 => unfold maxLen; omega
        case s5 => omega
        case s6 => exact Nat.le_trans r1 (below_new wr _).size
        intro lv5 w5 hown5 hgr5 _ hat5
        have hbz := below_new wr (.cells #[.string x.id, .slice A1 x.secret.length c1, .int .i64 x.made, .int .i64 x.ends] 27)
        have HR5 := Lib.hid (rowK_more (Nat.le_trans r1 hbz.size) HEM.out r3 (fun i v x e1 e2 => (r5 i v x e1 e2).on hbz) ((HK.out.keep (ok' := fun b => ok b ∧ u5.ownBlock ≠ some b) (fun b hb _ => ⟨⟨hb, fun e => by
          have := (HLT.out b e).1
          have := HOK.out b hb
          omega⟩, rfl⟩) (Nat.le_refl _)).on hbz) hown5 hgr5 hat5)
        have HB5 := Lib.hid (((HB.out.trans (hbz.mono HB.out.size)).grown hgr5 (Nat.le_trans r1 hbz.size) (fun k e => (r4.lt k e).1)))
        have HQ : Hid (∃ k' : Nat, Value.int .i64 ((k + 1 : Nat) : Int) = .int .i64 k' ∧ k' ≤ n ∧ RowK ok w.heap.size (Kq.drop now (l.take k')).length (Kq.drop now (l.take k')) lv5 w5 ∧ Below w.heap.size w w5) := ⟨k + 1, rfl, hlt, by
          rw [HG.out, List.length_append, HEM.out]
          exact HR5.out, HB5.out⟩
        clear hown5 hgr5 hat5 hbz r1 r2 r3 r4 r5 hi hz0 hz1 hz2
        go_frame
        go_wp2
        go_roundw
        case rel => exact HQ.out
        case measure => simp [intOf]; omega
      · have dg : decide (now < x.ends) = false := decide_eq_false hg
        have HQ : Hid (∃ k' : Nat, Value.int .i64 ((k + 1 : Nat) : Int) = .int .i64 k' ∧ k' ≤ n ∧ RowK ok w.heap.size (Kq.drop now (l.take k')).length (Kq.drop now (l.take k')) u5 wr ∧ Below w.heap.size w wr) := ⟨k + 1, rfl, hlt, by
          have e : Kq.drop now (l.take (k + 1)) = Kq.drop now (l.take k) := by rw [HST.out, if_neg hg, List.append_nil]
          rw [e]
          exact hrow, hb⟩
        clear hrow hb hK hg
        go_wp2
        go_roundw
        case rel => exact HQ.out
        case measure => simp [intOf]; omega
    · obtain rfl : k = n := by omega
      have hd2 : decide ((k : Int) < (k : Int)) = false := by simp
      have HE : Hid (DropEnd ok w.heap.size (Kq.drop now l) w (.returned u5) wr) := ⟨u5, rfl, by
        have := hrow
        rwa [List.take_of_length_le (by rw [HN.out]; exact Nat.le_refl _)] at this, hb⟩
      clear hrow hb
      go_wp2
      go_ret
      exact HE.out
end Go.Proofs.Ythklgpflaghojaa
