/-
  The contracts of the small functions over keys: which is good, which goes, which is copied, which are the same; names of keys.
-/
import Derived.Test.YthklgpflaghojaaYKey
namespace Go.Proofs.Ythklgpflaghojaa
open Go.RowKit

theorem below_new (w : World) (o : Obj) : Below w.heap.size w (w.alloc o) := (Below.refl _ _).alloc (Nat.le_refl _) o

/-- A copy of bytes, in memory of its own. -/
def CopyB (q : List Nat) (w : World) (e : Ending) (w' : World) : Prop := ∃ A c, e = .returned (.slice A q.length c) ∧ SlIs w' (w.heap.size ≤ ·) (.slice A q.length c) q.length (u8s q) ∧ Below w.heap.size w w'
set_option maxHeartbeats 2000000 in
set_option maxRecDepth 100000 in
theorem cloneB_any (A : Option Addr) (c : Nat) (q : List Nat) (w : World) (h : ArgIs w A c q) (hn : q.length ≤ 140737488355328) :
    Calls Try.prog 33 #[.slice A q.length c] w (CopyB q w) := by
  have q22 : ∀ (w : World) (a : Option Addr) (n c n' c' : Nat), (binOp .eql 25 (.slice a n c) (.slice none n' c')).run Try.prog w = .ok (.bool a.isNone) w := fun w a n c n' c' => Lib.run_eql_slice_nil w _ _ a n c n' c' Try.underlying25
  cases A with
  | none =>
    have hq : q = [] := by
      rcases Nat.eq_zero_or_pos q.length with h0 | h0
      · exact List.eq_nil_of_length_eq_zero h0
      · obtain ⟨b, off, e, _⟩ := h.2.2.2 h0
        cases e
    subst hq
    have HE : Hid (CopyB [] w (.returned (.slice none 0 0)) w) := ⟨none, 0, rfl, SlIs.nil w _, Below.refl _ _⟩
    clear h hn
    go_enter Try.func33, Try.ntmps33
    go_wp2
    go_ret
    exact HE.out
  | some a =>
    obtain ⟨W1, eW1⟩ : ∃ W1, W1 = w.alloc (.cells #[] 5) := ⟨_, rfl⟩
    have hb1 : Below w.heap.size w W1 := by rw [eW1]; exact below_new _ _
    have hown : W1.ownsRow w.heap.size 5 1 (.slice (some ⟨w.heap.size, 0, none⟩) 0 0) 0 [] := by rw [eW1]; exact World.ownsRow_made w #[] 0 (Nat.le_refl _) (Nat.zero_le _) rfl
    have hq1 := h.below hb1 (Nat.le_refl _)
    have HQ := Lib.hid h.2.2.1
    have HO := Lib.hid hown
    have HA := Lib.hid hq1
    have HB := Lib.hid hb1
    have HW := Lib.hid eW1
    clear h hown hq1 hb1 eW1
    go_enter Try.func33, Try.ntmps33
    repeat ((fail_if_success (with_reducible show wpList _ _ _ (⟨some 7, _, _, _, _, _⟩ :: _) _ _)); first | go_values | go_skip | go_guarded | go_step | go_upon | go_back | go_simp)
    rw [← HW.out]
    with_reducible refine append_arg rfl (.tmp 5) (.tmp 6) rfl w.heap.size (.slice (some ⟨w.heap.size, 0, none⟩) 0 0) 0 [] (some a) c q HO.out HA.out ?s1 ?s2 ?s3 ?s4 ?_
    case s1 => rfl
    case s2 => rfl
    case s3 => omega
    case s4 => exact HB.out.size
    intro v' w2 hown2 hgr
    rw [Nat.zero_add, List.nil_append] at hown2
    obtain ⟨A2, c2, rfl⟩ := own_slice hown2
    have HE : Hid (CopyB q w (.returned (.slice A2 q.length c2)) w2) := ⟨A2, c2, rfl, own_slIs hown2, HB.out.grown hgr HB.out.size (fun k e => by
      simp [Value.ownBlock] at e
      omega)⟩
    clear hown2 hgr
    go_frame
    go_wp2
    go_ret
    exact HE.out

set_option maxHeartbeats 1000000 in
set_option maxRecDepth 100000 in
theorem isGood_any {ok : Nat → Prop} (x : Kq.K) (v : Value) (now : Int) (w : World) (h : IsK w ok v x) :
    Calls Try.prog 30 #[v, .int .i64 now] w (Tells (Kq.Good now x) w) := by
  obtain ⟨A, c, rfl, _⟩ := h
  obtain ⟨id, sec, made, ends⟩ := x
  have HB := Lib.hid (below_new w)
  simp only
  by_cases h1 : made ≤ now
  · by_cases h2 : now < ends
    · have HE : Hid (∀ o, Tells (Kq.Good now ⟨id, sec, made, ends⟩) w (.returned (.bool true)) (w.alloc o)) := fun o => Tells.yes ⟨h1, h2⟩ (below_new w o)
      have d1 : decide (made ≤ now) = true := decide_eq_true h1
      have d2 : decide (now < ends) = true := decide_eq_true h2
      go_enter Try.func30, Try.ntmps30
      go_wp2
      go_ret
      exact HE.out _
    · have HE : Hid (∀ o, Tells (Kq.Good now ⟨id, sec, made, ends⟩) w (.returned (.bool false)) (w.alloc o)) := fun o => Tells.no (fun h => h2 h.2) (below_new w o)
      have d1 : decide (made ≤ now) = true := decide_eq_true h1
      have d2 : decide (now < ends) = false := decide_eq_false h2
      go_enter Try.func30, Try.ntmps30
      go_wp2
      go_ret
      exact HE.out _
  · have HE : Hid (∀ o, Tells (Kq.Good now ⟨id, sec, made, ends⟩) w (.returned (.bool false)) (w.alloc o)) := fun o => Tells.no (fun h => h1 h.1) (below_new w o)
    have d1 : decide (made ≤ now) = false := decide_eq_false h1
    go_enter Try.func30, Try.ntmps30
    go_wp2
    go_ret
    exact HE.out _

set_option maxHeartbeats 1000000 in
set_option maxRecDepth 100000 in
theorem refGood_any {ok : Nat → Prop} (x : Kq.K) (v : Value) (now : Int) (w : World) (h : IsK w ok v x) :
    Calls Try.prog 31 #[v, .int .i64 now] w (Tells (Kq.Good now x) w) := by
  obtain ⟨A, c, rfl, _⟩ := h
  obtain ⟨id, sec, made, ends⟩ := x
  have HB := Lib.hid (below_new w)
  simp only
  by_cases h1 : made ≤ now
  · by_cases h2 : now < ends
    · have HE : Hid (∀ o, Tells (Kq.Good now ⟨id, sec, made, ends⟩) w (.returned (.bool true)) (w.alloc o)) := fun o => Tells.yes ⟨h1, h2⟩ (below_new w o)
      have d1 : decide (made ≤ now) = true := decide_eq_true h1
      have d2 : decide (now < ends) = true := decide_eq_true h2
      go_enter Try.func31, Try.ntmps31
      go_wp2
      go_ret
      exact HE.out _
    · have HE : Hid (∀ o, Tells (Kq.Good now ⟨id, sec, made, ends⟩) w (.returned (.bool false)) (w.alloc o)) := fun o => Tells.no (fun h => h2 h.2) (below_new w o)
      have d1 : decide (made ≤ now) = true := decide_eq_true h1
      have d2 : decide (now < ends) = false := decide_eq_false h2
      go_enter Try.func31, Try.ntmps31
      go_wp2
      go_ret
      exact HE.out _
  · have HE : Hid (∀ o, Tells (Kq.Good now ⟨id, sec, made, ends⟩) w (.returned (.bool false)) (w.alloc o)) := fun o => Tells.no (fun h => h1 h.1) (below_new w o)
    have d1 : decide (made ≤ now) = false := decide_eq_false h1
    go_enter Try.func31, Try.ntmps31
    go_wp2
    go_ret
    exact HE.out _

set_option maxHeartbeats 1000000 in
set_option maxRecDepth 100000 in
/-- The closure over the time: whether a key goes. -/
theorem drop1_any {ok : Nat → Prop} (x : Kq.K) (v : Value) (now : Int) (N : Nat) (w : World) (h : IsK w ok v x) (hN : w.cell? ⟨N, 0, none⟩ = some (.int .i64 now)) :
    Calls Try.prog 29 #[v, .pointer (some ⟨N, 0, none⟩)] w (Tells (Kq.Gone now x) w) := by
  obtain ⟨A, c, rfl, _⟩ := h
  obtain ⟨id, sec, made, ends⟩ := x
  simp only
  obtain ⟨W1, eW1⟩ : ∃ W1, W1 = w.alloc (.cells #[.string id, .slice A sec.length c, .int .i64 made, .int .i64 ends] 27) := ⟨_, rfl⟩
  have hb1 : Below w.heap.size w W1 := by rw [eW1]; exact below_new _ _
  have hc1 : W1.cell? ⟨N, 0, none⟩ = some (.int .i64 now) := (hb1.cell (World.block_lt_of_cell? _ _ hN)).trans hN
  have hs : W1.heap.size = w.heap.size + 1 := by rw [eW1]; simp
  rw [eW1] at hc1
  have HB := Lib.hid hb1
  have HW := Lib.hid eW1
  clear hb1 eW1 hN hs
  by_cases h2 : ends ≤ now
  · have HE : Hid (Tells (Kq.Gone now ⟨id, sec, made, ends⟩) w (.returned (.bool true)) W1) := Tells.yes h2 HB.out
    rw [HW.out] at HE
    have d1 : decide (ends ≤ now) = true := decide_eq_true h2
    go_enter Try.func29, Try.ntmps29
    go_wp2
    go_ret
    exact HE.out
  · have HE : Hid (Tells (Kq.Gone now ⟨id, sec, made, ends⟩) w (.returned (.bool false)) W1) := Tells.no h2 HB.out
    rw [HW.out] at HE
    have d1 : decide (ends ≤ now) = false := decide_eq_false h2
    go_enter Try.func29, Try.ntmps29
    go_wp2
    go_ret
    exact HE.out

/-- A key's copy, in memory of its own. -/
def CopyEnd (x : Kq.K) (w : World) (e : Ending) (w' : World) : Prop := ∃ A c, e = .returned (kv x.id (.slice A x.secret.length c) x.made x.ends) ∧ IsK w' (w.heap.size ≤ ·) (kv x.id (.slice A x.secret.length c) x.made x.ends) x ∧ Below w.heap.size w w'
set_option maxHeartbeats 2000000 in
set_option maxRecDepth 100000 in
theorem copied_any {ok : Nat → Prop} (x : Kq.K) (v : Value) (w : World) (h : IsK w ok v x) :
    Calls Try.prog 27 #[v] w (CopyEnd x w) := by
  obtain ⟨A, c, rfl, hS, hlt, i1, i2⟩ := h
  have hA := slIs_argIs hS hlt.2
  have hl := hlt.1
  obtain ⟨id, sec, made, ends⟩ := x
  simp only at *
  obtain ⟨W1, eW1⟩ : ∃ W1, W1 = (w.alloc (.cells #[.string id, .slice A sec.length c, .int .i64 made, .int .i64 ends] 27)).alloc (.cells #[.string { data := #[] }, .slice none 0 0, .int .i64 0, .int .i64 0] 27) := ⟨_, rfl⟩
  have hb1 : Below w.heap.size w W1 := by rw [eW1]; exact (below_new _ _).alloc (by simp) _
  have hl1 : Lies W1 w.heap.size 27 [.string id, .slice A sec.length c, .int .i64 made, .int .i64 ends] := by rw [eW1]; exact (Lies.new_ rfl).alloc _
  have hl2 : Lies W1 (w.heap.size + 1) 27 [.string { data := #[] }, .slice none 0 0, .int .i64 0, .int .i64 0] := by rw [eW1]; exact Lies.new_ (by simp)
  have hs : w.heap.size + 2 ≤ W1.heap.size := by rw [eW1]; simp
  have hC := cloneB_any A c sec W1 (hA.below hb1 (Nat.le_refl _)) hl
  rw [eW1] at hC
  have HB := Lib.hid hb1
  have HW := Lib.hid eW1
  have HL1 := Lib.hid hl1
  have HL2 := Lib.hid hl2
  have HS := Lib.hid hs
  have HP := Lib.hid (And.intro hlt (And.intro i1 i2))
  clear hb1 eW1 hA hS hl hl1 hl2 hs hlt i1 i2
  go_enter Try.func27, Try.ntmps27
  go_wp2_with fail
  refine hC.mono ?_
  rintro e w2 hh
  rw [← HW.out] at hh
  obtain ⟨A2, c2, rfl, hS2, hb2⟩ := hh
  clear hC
  have hl1 := HL1.out.below hb2 HL1.out.lt
  have hl2 := HL2.out.below hb2 HL2.out.lt
  have hl1' : Lies (w2.setCell ⟨w.heap.size, 1, none⟩ (.slice A2 sec.length c2)) w.heap.size 27 [.string id, .slice A2 sec.length c2, .int .i64 made, .int .i64 ends] := by have := hl1.put 1 (.slice A2 sec.length c2); simpa using this
  have hl2' : Lies (w2.setCell ⟨w.heap.size, 1, none⟩ (.slice A2 sec.length c2)) (w.heap.size + 1) 27 [.string { data := #[] }, .slice none 0 0, .int .i64 0, .int .i64 0] := (Below.heap_setCell _ _ _ _ (by show w.heap.size + 1 ≠ w.heap.size; omega)).trans hl2
  obtain ⟨W3, eW3⟩ : ∃ W3, W3 = put4 (w2.setCell ⟨w.heap.size, 1, none⟩ (.slice A2 sec.length c2)) (w.heap.size + 1) (.string id) (.slice A2 sec.length c2) (.int .i64 made) (.int .i64 ends) := ⟨_, rfl⟩
  have hl3 : Lies W3 (w.heap.size + 1) 27 [.string id, .slice A2 sec.length c2, .int .i64 made, .int .i64 ends] := by rw [eW3]; exact hl2'.put4
  have hb3 : Below w.heap.size w W3 := by rw [eW3]; exact below_put4 ((HB.out.trans (hb2.mono HB.out.size)).setCell (p := ⟨w.heap.size, 1, none⟩) (Nat.le_refl _) _) (Nat.le_succ _)
  have hS3 : SlIs W3 (w.heap.size ≤ ·) (.slice A2 sec.length c2) sec.length (u8s sec) := hS2.keep (fun b hb _ => ⟨Nat.le_trans HB.out.size hb, by
    have hb' : W1.heap.size ≤ b := hb
    have := HS.out
    rw [eW3, put4_far (by omega), Below.heap_setCell _ _ _ _ (by show b ≠ w.heap.size; omega)]⟩) (by rw [eW3, put4_size]; simp [World.setCell])
  have HE : Hid (CopyEnd ⟨id, sec, made, ends⟩ w (.returned (kv id (.slice A2 sec.length c2) made ends)) W3) := ⟨A2, c2, rfl, ⟨A2, c2, rfl, hS3, HP.out⟩, hb3⟩
  rw [eW3] at HE hl3
  obtain ⟨⟨y0, y1, y2, y3⟩, g0, g1, g2, g3⟩ := hl1.four
  obtain ⟨⟨x0, x1, x2, x3⟩, f0, f1, f2, f3⟩ := hl1'.four
  obtain ⟨⟨z0, z1, z2, z3⟩, k0, k1, k2, k3⟩ := hl2'.four
  obtain ⟨⟨t0, t1, t2, t3⟩, _⟩ := hl3.four
  clear hl1 hl2 hl1' hl2' hl3 hb3 hS3 eW3 hS2 hb2
  go_wp2
  exact bodyPost_ret (v := kv id (.slice A2 sec.length c2) made ends) (by simp [results, Try.results27, go_sem, t0, t1, t2, t3]) rfl HE.out
set_option maxHeartbeats 1000000 in
set_option maxRecDepth 100000 in
theorem isId_any (s : ByteArray) (w : World) :
    Calls Try.prog 32 #[.string s] w (KidEnd (numsOf s) w) := by
  have Hlen := Lib.hid (numsOf_length s)
  by_cases h0 : s.size = 0
  · obtain rfl : s = ByteArray.empty := by
      apply ByteArray.ext
      exact Array.eq_empty_of_size_eq_zero h0
    have HE : Hid (¬ Wq.KidOk (numsOf ByteArray.empty)) := fun h => absurd h.1 (by decide)
    clear h0
    go_enter Try.func32, Try.ntmps32
    go_wp2
    go_ret
    exact ⟨rfl, .inr ⟨HE.out, rfl⟩⟩
  have hne : s.toList ≠ [] := fun h => h0 (by
    have := congrArg List.length h
    rw [ByteArray.toList_eq] at this
    simpa using this)
  have hne2 : s.toList.isEmpty = false := by cases h : s.toList with | nil => exact absurd h hne | cons => rfl
  by_cases h64 : 64 < s.size
  · have hd : decide ((64 : Int) < (s.size : Int)) = true := decide_eq_true (by omega)
    have HE : Hid (¬ Wq.KidOk (numsOf s)) := fun h => absurd h.2.1 (by rw [Hlen.out]; omega)
    clear h0
    go_enter Try.func32, Try.ntmps32
    go_wp2
    go_ret
    exact ⟨rfl, .inr ⟨HE.out, rfl⟩⟩
  have hd : decide ((64 : Int) < (s.size : Int)) = false := decide_eq_false (by omega)
  go_enter Try.func32, Try.ntmps32
  go_wp2_with fail
  go_loop [13] (fun i => ∃ k : Nat, i = .int .i64 k ∧ k ≤ s.size ∧ Hid (∀ j, j < k → 33 ≤ (numsOf s).getD j 0 ∧ (numsOf s).getD j 0 ≤ 126)) (fun i => s.size - (intOf i).toNat)
  case atStart => exact ⟨0, rfl, Nat.zero_le _, fun j hj => by omega⟩
  case round =>
    obtain ⟨k, rfl, hk, Hno⟩ := hrel
    by_cases hlt : k < s.size
    · have hX := Lib.hid (nums_at s k hlt)
      have HN : Hid (¬ (33 ≤ s[k].toNat ∧ s[k].toNat ≤ 126) → ¬ Wq.KidOk (numsOf s)) := fun hn h => by
        have := h.2.2 _ (getD_mem'' (S := numsOf s) (k := k) (by rw [Hlen.out]; exact hlt))
        rw [hX.out] at this
        exact hn this
      by_cases h1 : s[k].toNat < 33
      · have HE := Lib.hid (HN.out (by omega))
        go_wp2
        go_ret
        exact ⟨rfl, .inr ⟨HE.out, rfl⟩⟩
      · by_cases h2 : 126 < s[k].toNat
        · have HE := Lib.hid (HN.out (by omega))
          go_wp2
          go_ret
          exact ⟨rfl, .inr ⟨HE.out, rfl⟩⟩
        · have HC : Hid (∀ j, j < k + 1 → 33 ≤ (numsOf s).getD j 0 ∧ (numsOf s).getD j 0 ≤ 126) := fun j hj => by
            rcases Nat.lt_or_eq_of_le (Nat.le_of_lt_succ hj) with h | h
            · exact Hno.out j h
            · rw [h, hX.out]; omega
          go_wp2
          go_round
          case rel => exact ⟨k + 1, by go_num, by omega, HC⟩
          case measure => simp [intOf]; omega
    · obtain rfl : k = s.size := by omega
      have hdl : decide ((s.size : Int) < (s.size : Int)) = false := by simp
      have HC : Hid (Wq.KidOk (numsOf s)) := ⟨by rw [Hlen.out]; omega, by rw [Hlen.out]; omega, mem_getD (P := fun c => 33 ≤ c ∧ c ≤ 126) fun j hj => Hno.out j (by rwa [Hlen.out] at hj)⟩
      go_wp2
      go_ret
      exact ⟨rfl, .inl ⟨HC.out, rfl⟩⟩

end Go.Proofs.Ythklgpflaghojaa
