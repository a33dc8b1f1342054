/-
  The contract of Escape.
-/
import Derived.Test.YtejmkijnngkoaaaDoorPUn
import Derived.Deep.RegionLaw
import Derived.Outline
namespace Go.Proofs.YtejmkijnngkoaaaDoor
open Go.RowKit

section
variable {ops : Array Oper} {o : Oper} {a : Act} {Q : Exit → Act → World → Prop} {w : World} {K : Act → World → Prop} {E : Prop}
/-- append of values that were just laid, in a region that draws its order. -/
theorem step_append_row (hgd : o.guard = none) (s x : Operand) (t e : TypeId) (z : Value) (size bytes : Nat)
    (ho : o.op = .call { callee := .builtin .append, args := #[s, x], argTypes := #[t, t] }) (ht : Tryd.prog.underlying t = some (.slice e))
    (hi : (Tryd.prog.info? e).map (fun i => (i.zero, i.size, i.bytes)) = some (some z, size, bytes)) (hz : z.cells.size = size) (hsz : 0 < size)
    (base : Nat) (v : Value) (n : Nat) (xs : List Value) (A : Addr) (m c : Nat) (us : List Value) (hown : w.ownsRow base e size v n xs) (hl : us.length = m * size) (hc : ∀ j u, us[j]? = some u → w.cell? (A.add j) = some u) (h1 : ∀ u ∈ us, u.oneCell' = true)
    (hs : a.eval s = v) (hx : a.eval x = .slice (some A) m c) (hb : (n + m) * bytes ≤ 140737488355328) (hm : n + m ≤ 140737488355328) (hbase : base ≤ w.heap.size)
    (hK : ∀ v' w', w'.ownsRow base e size v' (n + m) (xs ++ us) → w.grownBy w' v.ownBlock → K (a.put o.dst v') w') : if Region.wanted o (yielded ops a.tmps) = true then Oper.wp Tryd.prog o a w K Q else E := by
  have hw : Region.wanted o (yielded ops a.tmps) = true := by simp [Region.wanted, hgd]
  rw [if_pos hw]
  obtain ⟨i0, hi0, hz0, hz1, hz2⟩ := info_parts hi
  obtain ⟨v', w', hrun, h2, h3, _⟩ := run_append_own (P := Tryd.prog) w base t o.type e i0 z size bytes ht hi0 hz0 hz1 hz2 hz hsz v n xs hown A m c us hl hc h1 (by unfold maxLen; omega) hb hbase
  unfold Oper.wp
  simp [execOp, ho, resolve, invoke, builtin, hs, hx, hrun, Result.andThen]
  exact hK v' w' h2 h3
end

theorem own_drew {w : World} {base : Nat} {e : TypeId} {size n : Nat} {v : Value} {xs : List Value} (h : w.ownsRow base e size v n xs) : w.drew.ownsRow base e size v n xs := h
theorem grown_drew {w w' : World} {row : Option Nat} (h : w.drew.grownBy w' row) : w.grownBy w' row := ⟨h.os, h.tape, h.output, h.size, h.block⟩
theorem own_as {w : World} {base : Nat} {e : TypeId} {size n : Nat} {v : Value} {xs us vs : List Value} (h : w.ownsRow base e size v n (xs ++ us)) (hv : us = vs) : w.ownsRow base e size v n (xs ++ vs) := hv ▸ h
theorem new_drew (w : World) (cs : Array Value) (t : TypeId) (j : Nat) (u : Value) (h : cs.toList[j]? = some u) : (w.alloc (.cells cs t)).drew.cell? ((⟨w.heap.size, 0, none⟩ : Addr).add j) = some u := new_cells w cs t j u h
theorem three_one (a b c : Int) : ∀ u ∈ (#[Value.int .u8 a, .int .u8 b, .int .u8 c] : Array Value).toList, u.oneCell' = true := by
  intro u hu
  simp at hu
  rcases hu with rfl | rfl | rfl <;> rfl
/-- The signs, as the program has them. -/
abbrev hexB : ByteArray := { data := #[48, 49, 50, 51, 52, 53, 54, 55, 56, 57, 65, 66, 67, 68, 69, 70] }
theorem hex_get : ∀ n, n < 16 → (hexB.data.toList[n]?).map (fun u : UInt8 => u.toNat) = some (Pq.hx n) := by decide +kernel
theorem hex_at (i : Int) (n : Nat) (hi : i = n) (hn : n < 16) (p : i.toNat < hexB.size) : ((hexB[i.toNat]'p).toNat : Int) = ((Pq.hx n : Nat) : Int) := by
  subst hi
  have hg := hex_get n hn
  have hn' : n < hexB.data.toList.length := hn
  rw [List.getElem?_eq_getElem hn'] at hg
  have hg' : (hexB.data.toList[n]).toNat = Pq.hx n := by simpa using hg
  rw [← hg']
  rfl
theorem and15 (c : Nat) (hc : c < 256) : bits .and .u8 (c : Int) 15 = (c : Int) % 16 := by
  rw [show (15 : Int) = ((15 : Nat) : Int) from rfl, u8_and_nat _ _ hc (by decide), show (15 : Nat) = 2 ^ 4 - 1 from rfl, Nat.and_two_pow_sub_one_eq_mod]
  omega

/-- What holds at each round of Escape's loop. -/
def EsRel (S : List Nat) (w : World) (text i : Value) (wr : World) : Prop :=
  ∃ (k n : Nat), i = .int .i64 k ∧ k ≤ S.length ∧ n ≤ 3 * k ∧ (Pq.es (S.take k)).length = n ∧ wr.ownsRow w.heap.size 5 1 text n (u8s (Pq.es (S.take k))) ∧ Below w.heap.size w wr

set_option maxHeartbeats 2000000 in
set_option maxRecDepth 100000 in
theorem escape_any (s : ByteArray) (w : World) (hs : s.size ≤ 4194304) :
    Calls Tryd.prog 47 #[.string s] w fun e w' => e = .returned (.string (strOf (Pq.es (numsOf s)))) ∧ Below w.heap.size w w' := by
  have Hlen := Lib.hid (numsOf_length s)
  go_enter Tryd.func47, Tryd.ntmps47
  repeat ((fail_if_success (with_reducible show wpList _ _ _ (⟨some 8, _, _, _, _, _⟩ :: _) _ _)); first | go_values | go_skip | go_guarded | go_step | go_upon | go_back | go_simp)
  with_reducible refine make_at rfl (.const (.int .i64 0)) (.tmp 7) rfl 0 s.size ?s1 ?s2 (Nat.zero_le _) (by omega) ?_
  case s1 => rfl
  case s2 => rfl
  intro w1 hL1 hb1
  have hown1 : w1.ownsRow w.heap.size 5 1 (.slice (some ⟨w.heap.size, 0, none⟩) 0 s.size) 0 (u8s []) := ⟨rfl, .inr ⟨w.heap.size, s.size, _, rfl, Nat.le_refl _, hL1, Nat.zero_le _, by unfold maxLen; omega, by simp [u8s_length], rfl⟩⟩
  go_frame
  go_wp2_with fail
  go_loopw [3, 11] (fun t i wr => EsRel (numsOf s) w t i wr) (fun _ i _ => s.size - (intOf i).toNat)
  case atStart => exact ⟨0, 0, rfl, Nat.zero_le _, Nat.zero_le _, rfl, hown1, hb1⟩
  case round =>
    obtain ⟨k, n, rfl, hk, hnk, hn, hown, hb⟩ := hrel
    rw [Hlen.out] at hk
    have Hn := Lib.hid hn
    clear hn hL1 hb1 hown1
    by_cases hlt : k < s.size
    · have hX := Lib.hid (nums_at s k hlt)
      have hx256 := s[k].toNat_lt
      have HE := Lib.hid (Pq.es_take (numsOf s) k (by rw [Hlen.out]; exact hlt))
      rw [hX.out] at HE
      have hP := fun w => plain_any s[k].toNat hx256 w
      have HLen : Hid (∀ m, (Pq.e1 s[k].toNat).length = m → (Pq.es (List.take (k + 1) (numsOf s))).length = n + m) := fun m hm => by rw [HE.out, List.length_append, Hn.out, hm]
      cases hp : Pq.pl s[k].toNat
      · rw [hp] at hP
        rw [Pq.e1_no hp] at HE HLen
        clear hp
        go_wp2_with fail
        refine (hP _).mono ?_
        rintro e w' ⟨rfl, rfl⟩
        clear hP
        generalize s[k].toNat = c at *
        go_upto_region 8 with (fail)
        have b1 : (0 : Int) ≤ (c : Int) / 16 := by omega
        have b2 : (c : Int) / 16 < 16 := by omega
        have b3 : (0 : Int) ≤ (c : Int) % 16 := by omega
        have b4 : (c : Int) % 16 < 16 := by omega
        have b5 := and15 c hx256
        have b6 : w.heap.size ≤ wr.heap.size := hb.size
        go_region_law (refine step_append_row rfl (.tmp 23) (.tmp 30) 37 5 (.int .u8 0) 1 1 rfl Tryd.underlying37 infoByte rfl (by decide) w.heap.size u3 n _ ⟨wr.heap.size, 0, none⟩ 3 3 _ (own_drew (hown.alloc _)) ?_ (fun j u hj => new_drew wr _ _ j u hj) ?_ rfl rfl ?_ ?_ ?_ ?_; rotate_left 5; intro v2 w2 hown2 hgr2; rotate_right 5; exact rfl; exact three_one _ _ _; omega; omega; simp; omega)
        all_goals
          have hb2 : Below w.heap.size w w2 := (hb.alloc hb.size _).grown (grown_drew hgr2) (by simp; omega) (own_ge hown)
          have hown3 : w2.ownsRow w.heap.size 5 1 v2 (n + 3) (u8s (Pq.es (List.take (k + 1) (numsOf s)))) := by
            rw [HE.out, u8s_append]
            refine own_as hown2 ?_
            rw [hex_at _ (c / 16) (by omega) (by omega), hex_at _ (c % 16) (by omega) (by omega)]
            rfl
          clear hgr2 hown2 hown hb b5
          go_wp2
          go_roundw
          case rel => exact ⟨k + 1, n + 3, by go_num, by rw [Hlen.out]; omega, by omega, HLen.out 3 rfl, hown3, hb2⟩
          case measure => simp [intOf]; omega
      · rw [hp] at hP
        rw [Pq.e1_yes hp] at HE HLen
        clear hp
        go_wp2_with fail
        refine (hP _).mono ?_
        rintro e w' ⟨rfl, rfl⟩
        clear hP
        go_upto_region 7 with (fail)
        repeat ((fail_if_success (with_reducible show wpList _ _ _ (⟨some 22, _, _, _, _, _⟩ :: _) _ _)); first | go_values | go_skip | go_guarded | go_step | go_upon | go_back | go_simp)
        with_reducible refine append_row rfl (.tmp 19) (.tmp 21) 37 5 (.int .u8 0) 1 1 rfl Tryd.underlying37 infoByte rfl (by decide) w.heap.size _ n _ ⟨wr.heap.size, 0, none⟩ 1 1 (u8s [s[k].toNat]) (hown.alloc _) ?c1 ?c2 ?c3 ?c4 ?c5 ?c6 ?c7 ?c8 ?_
        case c1 => rfl
        case c2 => exact fun j u hj => new_cells wr _ _ j u hj
        case c3 => exact u8s_one _
        case c4 => rfl
        case c5 => rfl
        case c6 => omega
        case c7 => omega
        case c8 => have := hb.size; simp; omega
        intro v2 w2 hown2 hgr2
        have hb2 : Below w.heap.size w w2 := (hb.alloc hb.size _).grown hgr2 (by have := hb.size; simp; omega) (own_ge hown)
        rw [← u8s_append, ← HE.out] at hown2
        clear hgr2 hown hb
        go_frame
        go_wp2
        go_roundw
        case rel => exact ⟨k + 1, n + 1, by go_num, by rw [Hlen.out]; omega, by omega, HLen.out 1 rfl, hown2, hb2⟩
        case measure => simp [intOf]; omega
    · obtain rfl : k = s.size := by omega
      have hd : decide ((s.size : Int) < (s.size : Int)) = false := by simp
      obtain ⟨A1, c1, rfl⟩ := own_slice hown
      rw [List.take_of_length_le (by rw [Hlen.out]; exact Nat.le_refl _)] at hown
      obtain ⟨hl, harg⟩ := own_arg hown (Pq.es_lt (numsOf_lt s))
      have hconv := conv_str harg
      rw [hl] at hconv
      clear hl harg hown
      go_wp2
      go_ret
      exact ⟨rfl, hb⟩
end Go.Proofs.YtejmkijnngkoaaaDoor
