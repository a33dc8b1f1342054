/-
  Rotations in memory; the law RingStays.
-/
import Derived.Test.YthklgpflaghojaaYLaws2
namespace Go.Proofs.Ythklgpflaghojaa
open Go.RowKit

abbrev tnv (id : ByteArray) (sec : Value) (made ends life : Int) : Value := .agg #[.string id, sec, .int .i64 made, .int .i64 ends, .int .i64 life]
/-- A rotation in memory: a key, its life. -/
def IsTn (w : World) (ok : Nat → Prop) (v : Value) (t : Kq.K × Int) : Prop :=
  ∃ A c, v = tnv t.1.id (.slice A t.1.secret.length c) t.1.made t.1.ends t.2 ∧ IsK w ok (kv t.1.id (.slice A t.1.secret.length c) t.1.made t.1.ends) t.1 ∧ I64 t.2
theorem tncells_len {w : World} {ok : Nat → Prop} {v : Value} {t : Kq.K × Int} (h : IsTn w ok v t) : (jcells v).length = 5 := by
  obtain ⟨A, c, rfl, _⟩ := h; rfl
theorem flat5_at : ∀ (vs : List Value), (∀ v ∈ vs, (jcells v).length = 5) → ∀ (i j : Nat) (v : Value), vs[i]? = some v → j < 5 → (vs.flatMap jcells)[i * 5 + j]? = (jcells v)[j]?
  | [], _, i, j, v, h, _ => by simp at h
  | a :: r, hl, 0, j, v, h, hj => by
    simp at h
    subst h
    rw [List.flatMap_cons, List.getElem?_append_left (by have := hl a (by simp); omega)]
    simp
  | a :: r, hl, i + 1, j, v, h, hj => by
    have ha := hl a (by simp)
    rw [List.flatMap_cons, List.getElem?_append_right (by omega), show (i + 1) * 5 + j - (jcells a).length = i * 5 + j from by omega]
    exact flat5_at r (fun v hv => hl v (by simp [hv])) i j v (by simpa using h) hj
/-- A row of rotations in memory. -/
def TsIs (w : World) (ok : Nat → Prop) (v : Value) (l : List (Kq.K × Int)) : Prop :=
  ∃ vs : List Value, SlIs w ok v l.length (vs.flatMap jcells) ∧ vs.length = l.length ∧ l.length * 64 ≤ 140737488355328 ∧ ∀ (i : Nat) v x, vs[i]? = some v → l[i]? = some x → IsTn w ok v x
section
variable {w w' : World} {ok ok' : Nat → Prop} {v : Value} {l : List (Kq.K × Int)}
theorem TsIs.len (h : TsIs w ok v l) : l.length * 64 ≤ 140737488355328 := by
  obtain ⟨_, _, _, h3, _⟩ := h
  exact h3
theorem TsIs.form (h : TsIs w ok v l) : ∃ A c, v = .slice A l.length c := by
  obtain ⟨_, ⟨A, c, rfl, _⟩, _⟩ := h
  exact ⟨A, c, rfl⟩
theorem TsIs.on (h : TsIs w ok v l) (hb : Below w.heap.size w w') : TsIs w' ok v l := by
  obtain ⟨vs, h1, h2, h3, h4⟩ := h
  refine ⟨vs, h1.on hb, h2, h3, fun i v x e1 e2 => ?_⟩
  obtain ⟨A, c, e, hK, hi⟩ := h4 i v x e1 e2
  exact ⟨A, c, e, hK.on hb, hi⟩
/-- The rotation at a place. -/
theorem TsIs.elem {A : Option Addr} {n c : Nat} (h : TsIs w ok (.slice A n c) l) {i : Nat} (hi : i < l.length) :
    ∃ b off x life A1 c1, A = some ⟨b, off, none⟩ ∧ b < w.heap.size ∧ l[i]? = some (x, life) ∧ IsK w ok (kv x.id (.slice A1 x.secret.length c1) x.made x.ends) x ∧ I64 life ∧
      w.cell? ⟨b, off + i * 5, none⟩ = some (.string x.id) ∧ w.cell? ⟨b, off + i * 5 + 1, none⟩ = some (.slice A1 x.secret.length c1) ∧ w.cell? ⟨b, off + i * 5 + 2, none⟩ = some (.int .i64 x.made) ∧ w.cell? ⟨b, off + i * 5 + 3, none⟩ = some (.int .i64 x.ends) ∧ w.cell? ⟨b, off + i * 5 + 4, none⟩ = some (.int .i64 life) := by
  obtain ⟨vs, ⟨A', c', e, h1, h2, h3⟩, hvs, hl, hel⟩ := h
  injection e with e1 e2 e3
  subst e1 e3
  obtain ⟨b, off, rfl, hb, hlt, hc⟩ := h3 (by omega)
  have hv : vs[i]? = some (vs[i]'(by omega)) := List.getElem?_eq_getElem (by omega)
  have hx : l[i]? = some l[i] := List.getElem?_eq_getElem hi
  obtain ⟨A1, c1, ev, hK, hI⟩ := hel i _ _ hv hx
  have h6 : ∀ v ∈ vs, (jcells v).length = 5 := fun v hm => by
    obtain ⟨j, hj, rfl⟩ := List.mem_iff_getElem.1 hm
    exact tncells_len (hel j _ _ (List.getElem?_eq_getElem hj) (List.getElem?_eq_getElem (by omega)))
  have hcell : ∀ j u, j < 5 → (jcells (vs[i]'(by omega)))[j]? = some u → w.cell? ⟨b, off + (i * 5 + j), none⟩ = some u := fun j u hj hu => hc _ u (by rw [flat5_at vs h6 i j _ hv hj, hu])
  rw [ev] at hcell
  refine ⟨b, off, l[i].1, l[i].2, A1, c1, rfl, hlt, hx, hK, hI, hcell 0 _ (by omega) rfl, ?_, ?_, ?_, ?_⟩
  all_goals rw [Nat.add_assoc]
  · exact hcell 1 _ (by omega) rfl
  · exact hcell 2 _ (by omega) rfl
  · exact hcell 3 _ (by omega) rfl
  · exact hcell 4 _ (by omega) rfl
end
/-- A ring in a variable. -/
def RingAt (lv : Value) (w : World) : Prop := ∃ m : List Kq.K, ∃ A c, lv = .slice A m.length c ∧ KsIs w (fun _ => True) lv m ∧ Kq.Right m
theorem RingAt.on {lv : Value} {w w' : World} (h : RingAt lv w) (hb : Below w.heap.size w w') : RingAt lv w' := by
  obtain ⟨m, A, c, h1, h2, h3⟩ := h
  exact ⟨m, A, c, h1, h2.on hb, h3⟩

set_option maxHeartbeats 1000000 in
set_option maxRecDepth 100000 in
theorem lawStays_any {ok : Nat → Prop} (ts : List (Kq.K × Int)) (A : Option Addr) (c n : Nat) (w : World) (hT : TsIs w ok (.slice A n c) ts) (hn : ts.length = n) :
    Calls Try.prog 8 #[.slice A n c] w (IsTrue w) := by
  have hcN := hT.len
  rw [hn] at hcN
  have HT := Lib.hid hT
  have HN := Lib.hid hn
  clear hT hn
  go_enter Try.func8, Try.ntmps8
  go_wp2_with fail
  go_loopw [3, 10] (fun lv i wr => ∃ k : Nat, i = .int .i64 k ∧ k ≤ n ∧ RingAt lv wr ∧ Below w.heap.size w wr) (fun _ i _ => n - (intOf i).toNat)
  case atStart => exact ⟨0, rfl, Nat.zero_le _, ⟨[], none, 0, rfl, KsIs.nil _ _, Kq.right_nil⟩, Below.refl _ _⟩
  case round =>
    obtain ⟨k, rfl, hk, hrow, hb⟩ := hrel
    by_cases hlt : k < n
    · obtain ⟨m, A3, c3, rfl, hm, hmr⟩ := hrow
      obtain ⟨b, off, x, life, A1, c1, rfl, _, _, hK, hI, s0, s1, s2, s3, s4⟩ := (HT.out.on hb).elem (by rw [HN.out]; exact hlt)
      obtain ⟨W2, eW2⟩ : ∃ W2, W2 = wr.alloc (.cells #[.string x.id, .slice A1 x.secret.length c1, .int .i64 x.made, .int .i64 x.ends, .int .i64 life] 42) := ⟨_, rfl⟩
      have hb2 : Below wr.heap.size wr W2 := by rw [eW2]; exact below_new _ _
      have hR := rotate_any m A3 c3 _ x _ life W2 (hm.on hb2) rfl (hK.on hb2) hI
      have HM := Lib.hid (hm.on hb2)
      have HMR := Lib.hid hmr
      have HB2 := Lib.hid (below_more hb hb2)
      have HOK : Hid (∀ m', Kq.rotate m x life = .ok m' → Kq.Right m') := fun m' h => Kq.rotate_right hmr h
      obtain ⟨RES, eR⟩ : ∃ RES, Kq.rotate m x life = RES := ⟨_, rfl⟩
      rw [eR] at hR HOK
      rw [eW2] at hR
      have HW2 := Lib.hid eW2
      clear hm hmr hK hb hb2 eR eW2
      go_wp2_with fail
      refine hR.mono ?_
      intro e w3 hh
      clear hR
      rw [← HW2.out] at hh
      clear s0 s1 s2 s3 s4
      cases RES with
      | error N9 =>
        obtain ⟨hb3, rfl, hN9⟩ := hh
        have hne : (N9 == 0) = false := by rw [beq_eq_false_iff_ne]; omega
        have HRR : Hid (RingAt (.slice A3 m.length c3) w3) := ⟨m, A3, c3, rfl, HM.out.on hb3, HMR.out⟩
        have HP := Lib.hid (right_any m A3 c3 _ w3 (HM.out.on hb3) rfl)
        have HKS := Lib.hid (HM.out.on hb3)
        have HRT := Lib.hid HMR.out
        have HB3 := Lib.hid (below_more HB2.out hb3)
        clear hb3 hN9
        have hP := HP.out
        go_wp2_with fail
        refine hP.mono ?_
        intro e w4 hh
        clear hP
        obtain ⟨rfl, hb4⟩ := hh.is_yes HRT.out
        have hQ := refRight_any m A3 c3 _ w4 (HKS.out.on hb4) rfl
        have HB4 := Lib.hid (below_more HB3.out hb4)
        have HR4 := Lib.hid (HRR.out.on hb4)
        clear hh hb4
        go_wp2_with fail
        refine hQ.mono ?_
        intro e w5 hh
        clear hQ
        obtain ⟨rfl, hb5⟩ := hh.is_yes HRT.out
        have HQ : Hid (RingAt (.slice A3 m.length c3) w5 ∧ Below w.heap.size w w5) := ⟨HR4.out.on hb5, below_more HB4.out hb5⟩
        clear hh hb5
        go_wp2
        go_roundw
        case rel => exact ⟨k + 1, by go_num, hlt, HQ.out.1, HQ.out.2⟩
        case measure => simp [intOf]; omega
      | ok m' =>
        obtain ⟨hb3, A4, c4, rfl, hK4⟩ := hh
        have hr4 := HOK.out m' rfl
        have HRR : Hid (RingAt (.slice A4 m'.length c4) w3) := ⟨m', A4, c4, rfl, hK4.any, hr4⟩
        have HP := Lib.hid (right_any m' A4 c4 _ w3 hK4 rfl)
        have HKS := Lib.hid hK4.any
        have HRT := Lib.hid hr4
        have HB3 := Lib.hid (below_more HB2.out hb3)
        clear hb3 hK4 hr4
        have hP := HP.out
        go_wp2_with fail
        refine hP.mono ?_
        intro e w4 hh
        clear hP
        obtain ⟨rfl, hb4⟩ := hh.is_yes HRT.out
        have hQ := refRight_any m' A4 c4 _ w4 (HKS.out.on hb4) rfl
        have HB4 := Lib.hid (below_more HB3.out hb4)
        have HR4 := Lib.hid (HRR.out.on hb4)
        clear hh hb4
        go_wp2_with fail
        refine hQ.mono ?_
        intro e w5 hh
        clear hQ
        obtain ⟨rfl, hb5⟩ := hh.is_yes HRT.out
        have HQ : Hid (RingAt (.slice A4 m'.length c4) w5 ∧ Below w.heap.size w w5) := ⟨HR4.out.on hb5, below_more HB4.out hb5⟩
        clear hh hb5
        go_wp2
        go_roundw
        case rel => exact ⟨k + 1, by go_num, hlt, HQ.out.1, HQ.out.2⟩
        case measure => simp [intOf]; omega
    · obtain rfl : k = n := by omega
      have hd2 : decide ((k : Int) < (k : Int)) = false := by simp
      have hA := alive9_any wr
      have HB := Lib.hid hb
      clear hb
      go_wp2_with fail
      refine hA.mono ?_
      rintro e w7 ⟨rfl, hb7⟩
      have HE : Hid (IsTrue w (.returned (.bool true)) w7) := ⟨rfl, below_more HB.out hb7⟩
      clear hA hb7
      go_wp2
      go_ret
      exact HE.out
end Go.Proofs.Ythklgpflaghojaa
