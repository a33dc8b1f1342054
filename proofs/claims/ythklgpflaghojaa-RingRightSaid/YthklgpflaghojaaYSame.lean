/-
  The contract of the document's Same.
-/
import Derived.Test.YthklgpflaghojaaYRight
namespace Go.Proofs.Ythklgpflaghojaa
open Go.RowKit Go.Sort

theorem keys_take {l m : List Kq.K} {k : Nat} {x y : Kq.K} (h : l.take k = m.take k) (hx : l[k]? = some x) (hy : m[k]? = some y) (he : x = y) : l.take (k + 1) = m.take (k + 1) := by
  obtain ⟨h1, e1⟩ := List.getElem?_eq_some_iff.1 hx
  obtain ⟨h2, e2⟩ := List.getElem?_eq_some_iff.1 hy
  rw [List.take_succ_eq_append_getElem h1, List.take_succ_eq_append_getElem h2, h, e1, e2, he]

set_option maxHeartbeats 1000000 in
set_option maxRecDepth 100000 in
theorem same9_any {ok ok' : Nat → Prop} (l m : List Kq.K) (A B : Option Addr) (c d n n' : Nat) (w : World) (hL : KsIs w ok (.slice A n c) l) (hM : KsIs w ok' (.slice B n' d) m) (hn : l.length = n) (hn' : m.length = n') :
    Calls Try.prog 16 #[.slice A n c, .slice B n' d] w (Tells (l = m) w) := by
  have hcN := hL.len
  rw [hn] at hcN
  by_cases hlen : n = n'
  · subst hlen
    have HL := Lib.hid hL
    have HM := Lib.hid hM
    have HN := Lib.hid hn
    have HN' := Lib.hid hn'
    have hd0 : ((n : Int) != (n : Int)) = false := by simp
    clear hL hM hn hn'
    go_enter Try.func16, Try.ntmps16
    go_wp2_with fail
    go_loopw [5] (fun i wr => ∃ k : Nat, i = .int .i64 k ∧ k ≤ n ∧ Hid (l.take k = m.take k) ∧ Below w.heap.size w wr) (fun i _ => n - (intOf i).toNat)
    case atStart => exact ⟨0, rfl, Nat.zero_le _, Lib.hid rfl, Below.refl _ _⟩
    case round =>
      obtain ⟨k, rfl, hk, he, hb⟩ := hrel
      by_cases hlt : k < n
      · obtain ⟨b, off, x, A1, c1, rfl, _, _, hx, hK, s0, s1, s2, s3⟩ := (HL.out.on hb).elem (by rw [HN.out]; exact hlt)
        obtain ⟨b', off', y, A2, c2, rfl, _, _, hy, hJ, t0, t1, t2, t3⟩ := (HM.out.on hb).elem (by rw [HN'.out]; exact hlt)
        have HC : Hid (∀ d os, Calls Try.prog 21 #[kv x.id (.slice A1 x.secret.length c1) x.made x.ends, kv y.id (.slice A2 y.secret.length c2) y.made y.ends] (grow (redrawn wr d) os) (Tells (x = y) (grow (redrawn wr d) os))) := fun d os =>
          sameKey_any _ _ _ _ _ (hK.on (below_regrown wr d os)) (hJ.on (below_regrown wr d os))
        have k0 := cell_regrown s0
        have k1 := cell_regrown s1
        have k2 := cell_regrown s2
        have k3 := cell_regrown s3
        have j0 := cell_regrown t0
        have j1 := cell_regrown t1
        have j2 := cell_regrown t2
        have j3 := cell_regrown t3
        have HB := Lib.hid hb
        have HX := Lib.hid hx
        have HY := Lib.hid hy
        clear hx hy hK hJ hb
        by_cases hq : x = y
        · have cC : ∀ d os, Calls Try.prog 21 #[kv x.id (.slice A1 x.secret.length c1) x.made x.ends, kv y.id (.slice A2 y.secret.length c2) y.made y.ends] (grow (redrawn wr d) os) fun e w2 => e = .returned (.bool true) ∧ ∃ r : Regrown, w2 = grow (redrawn wr r.d) r.os := fun d os => Calls.regrown_of ((HC.out d os).mono fun _ _ h => h.is_yes hq)
          have HR : Hid (l.take (k + 1) = m.take (k + 1)) := keys_take he.out HX.out HY.out hq
          clear hq
          go_upto_region 6 with (fail)
          refine wp_region_quiet_below (by kernel_rfl) (by kernel_rfl) ?_
          repeat (go_big_quiet_step (with_reducible exact cC _ _))
          refine wpQuiet_nil ?_
          intro w' hw'
          obtain ⟨⟨dq, osq⟩, hw''⟩ := hw'
          subst hw''
          have HQ := Lib.hid (below_more HB.out (below_regrown wr dq osq))
          clear cC k0 k1 k2 k3 j0 j1 j2 j3 s0 s1 s2 s3 t0 t1 t2 t3
          go_wp2
          go_roundw
          case rel => exact ⟨k + 1, by go_num, hlt, HR, HQ.out⟩
          case measure => simp [intOf]; omega
        · have cC : ∀ d os, Calls Try.prog 21 #[kv x.id (.slice A1 x.secret.length c1) x.made x.ends, kv y.id (.slice A2 y.secret.length c2) y.made y.ends] (grow (redrawn wr d) os) fun e w2 => e = .returned (.bool false) ∧ ∃ r : Regrown, w2 = grow (redrawn wr r.d) r.os := fun d os => Calls.regrown_of ((HC.out d os).mono fun _ _ h => h.is_no hq)
          have HR : Hid (l ≠ m) := fun h => hq (by
            have h1 := HX.out
            rw [h] at h1
            exact Option.some.inj (h1.symm.trans HY.out))
          clear hq
          go_upto_region 6 with (fail)
          refine wp_region_quiet_below (by kernel_rfl) (by kernel_rfl) ?_
          repeat (go_big_quiet_step (with_reducible exact cC _ _))
          refine wpQuiet_nil ?_
          intro w' hw'
          obtain ⟨⟨dq, osq⟩, hw''⟩ := hw'
          subst hw''
          have HQ : Hid (Tells (l = m) w (.returned (.bool false)) (grow (redrawn wr dq) osq)) := Tells.no HR.out (below_more HB.out (below_regrown wr dq osq))
          clear cC k0 k1 k2 k3 j0 j1 j2 j3 s0 s1 s2 s3 t0 t1 t2 t3
          go_wp2
          go_ret
          exact HQ.out
      · obtain rfl : k = n := by omega
        have hd2 : decide ((k : Int) < (k : Int)) = false := by simp
        have HE : Hid (Tells (l = m) w (.returned (.bool true)) wr) := Tells.yes (by
          have := he.out
          rwa [List.take_of_length_le (by rw [HN.out]; exact Nat.le_refl _), List.take_of_length_le (by rw [HN'.out]; exact Nat.le_refl _)] at this) hb
        clear hb
        go_wp2
        go_ret
        exact HE.out
  · have hd0 : ((n : Int) != (n' : Int)) = true := by rw [bne_iff_ne]; omega
    have HQ : Hid (Tells (l = m) w (.returned (.bool false)) w) := Tells.no (fun h => hlen (by rw [← hn, ← hn', h])) (Below.refl _ _)
    clear hL hM hn hn' hlen
    go_enter Try.func16, Try.ntmps16
    go_wp2
    go_ret
    exact HQ.out
end Go.Proofs.Ythklgpflaghojaa
