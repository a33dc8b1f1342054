/-
  of: the value of a node behind others.
-/
import Derived.Test.YtnbaajdcakjlmaaDoorMC
import Derived.Test.YtnbaajdcakjlmaaDoorMF
import Derived.Test.YtnbaajdcakjlmaaDoorM06
namespace Go.Proofs.YtnbaajdcakjlmaaDoor
open Go.RowKit Go.Sort

abbrev zobjD : Obj := .cells #[.int .i64 0, .bool false, .int .i64 0, .string { data := #[] }, .slice none 0 0, .slice none 0 0] 27
abbrev nbox (op int a b : Int) (t : List Nat) : Obj := .cells #[.int .i64 op, .int .i64 int, .int .i64 a, .int .i64 b, .string (strOf t)] 44
/-- A list of values in memory; the row's block and what its elements hold are told apart. -/
def ListE (w : World) (okR ok : Nat → Prop) (v : Value) (l : List Jq.J) : Prop :=
  ∃ vs : List Value, SlIs w okR v l.length (vs.flatMap jcells) ∧ vs.length = l.length ∧ l.length * 88 ≤ 140737488355328 ∧ ∀ (i : Nat) v x, vs[i]? = some v → l[i]? = some x → IsJ w ok v x
theorem ListE.on {w w' : World} {okR ok : Nat → Prop} {v : Value} {l : List Jq.J} (h : ListE w okR ok v l) (hb : Below w.heap.size w w') : ListE w' okR ok v l := by
  obtain ⟨vs, h1, h2, h3, h4⟩ := h
  exact ⟨vs, h1.on hb, h2, h3, fun i v x e1 e2 => (h4 i v x e1 e2).on hb⟩
theorem ListE.in_ {w : World} {okR ok : Nat → Prop} {v : Value} {l : List Jq.J} (h : ListE w okR ok v l) : ListE w okR (fun b => ok b ∧ b < w.heap.size) v l := by
  obtain ⟨vs, h1, h2, h3, h4⟩ := h
  exact ⟨vs, h1, h2, h3, fun i v x e1 e2 => (h4 i v x e1 e2).in_⟩
theorem ListE.elem {w : World} {okR ok : Nat → Prop} {A : Option Addr} {n c : Nat} {l : List Jq.J} (h : ListE w okR ok (.slice A n c) l) {i : Nat} (hi : i < l.length) :
    ∃ b off x A1 c1 A2 c2, A = some ⟨b, off, none⟩ ∧ okR b ∧ b < w.heap.size ∧ l[i]? = some x ∧ IsJ w ok (jv x.kind x.bool x.int (strOf x.text) (.slice A1 x.names.length c1) (.slice A2 x.list.length c2)) x ∧
      SixAt w b (off + i * 6) (.int .i64 x.kind) (.bool x.bool) (.int .i64 x.int) (.string (strOf x.text)) (.slice A1 x.names.length c1) (.slice A2 x.list.length c2) := by
  obtain ⟨vs, ⟨A', c', e, h1, h2, h3⟩, hvs, hl, hel⟩ := h
  injection e with e1 e2 e3
  subst e1 e3
  obtain ⟨b, off, rfl, hb, hlt, hc⟩ := h3 (by omega)
  have hv : vs[i]? = some (vs[i]'(by omega)) := List.getElem?_eq_getElem (by omega)
  have hx : l[i]? = some l[i] := List.getElem?_eq_getElem hi
  have hJ := hel i _ _ hv hx
  obtain ⟨A1, c1, A2, c2, ev⟩ := hJ.form
  have h6 : ∀ v ∈ vs, (jcells v).length = 6 := fun v hm => by
    obtain ⟨j, hj, rfl⟩ := List.mem_iff_getElem.1 hm
    exact jcells_len (hel j _ _ (List.getElem?_eq_getElem hj) (List.getElem?_eq_getElem (by omega)))
  have hcell : ∀ j u, j < 6 → (jcells (vs[i]'(by omega)))[j]? = some u → w.cell? ⟨b, off + (i * 6 + j), none⟩ = some u := fun j u hj hu => hc _ u (by rw [flat_at vs h6 i j _ hv hj, hu])
  rw [ev] at hJ hcell
  refine ⟨b, off, l[i], A1, c1, A2, c2, rfl, hb, hlt, hx, hJ, ?_⟩
  refine ⟨hcell 0 _ (by omega) rfl, ?_, ?_, ?_, ?_, ?_⟩
  all_goals rw [Nat.add_assoc]
  · exact hcell 1 _ (by omega) rfl
  · exact hcell 2 _ (by omega) rfl
  · exact hcell 3 _ (by omega) rfl
  · exact hcell 4 _ (by omega) rfl
  · exact hcell 5 _ (by omega) rfl
theorem RowJ.listE {B n : Nat} {l : List Jq.J} {lv : Value} {w : World} (h : RowJ B n l lv w) (hl : n * 88 ≤ 140737488355328) : ListE w (B ≤ ·) (fun b => B ≤ b ∧ lv.ownBlock ≠ some b) lv l := by
  obtain ⟨_, rfl, vs, h3, h4, h5⟩ := h
  exact ⟨vs, own_slIs h4, h3, hl, h5⟩
set_option maxHeartbeats 2000000 in
set_option maxRecDepth 100000 in
theorem atM_in (y : Jq.J) (b off n c m : Nat) (B1 : Option Addr) (e1 : Nat) (B2 : Option Addr) (e2 : Nat) (w : World) (hm : m < n) (hsix : SixAt w b (off + m * 6) (.int .i64 y.kind) (.bool y.bool) (.int .i64 y.int) (.string (strOf y.text)) (.slice B1 y.names.length e1) (.slice B2 y.list.length e2)) :
    Calls Tryd.prog 22 #[.slice (some ⟨b, off, none⟩) n c, .int .i64 (m : Int)] w fun e w' => e = .returned (jv y.kind y.bool y.int (strOf y.text) (.slice B1 y.names.length e1) (.slice B2 y.list.length e2)) ∧ Below w.heap.size w w' := by
  obtain ⟨W, eW⟩ : ∃ W, W = w.alloc zobj := ⟨_, rfl⟩
  have hbW : Below w.heap.size w W := by rw [eW]; exact below_new _ _
  have hl0 : Lies W w.heap.size 27 zero6 := by rw [eW]; exact Lies.new_ rfl
  have hH := hasM_any (some ⟨b, off, none⟩) n c (m : Int) W
  have hlt : b < w.heap.size := World.block_lt_of_cell? _ _ hsix.1
  have HW := Lib.hid eW
  have HL0 := Lib.hid hl0
  have HBW := Lib.hid hbW
  have HS := Lib.hid hsix
  have HLT := Lib.hid hlt
  rw [decide_eq_true (show 0 ≤ (m : Int) ∧ (m : Int) < (n : Int) by omega), eW] at hH
  clear hsix hlt hbW hl0 eW
  go_enter Tryd.func22, Tryd.ntmps22
  go_wp2_with fail
  refine hH.mono ?_
  rintro e w1 ⟨hb, rfl⟩
  clear hH
  rw [← HW.out] at hb
  have hbw := below_more HBW.out hb
  have hl1 := HL0.out.below hb HL0.out.lt
  obtain ⟨s0, s1, s2, s3, s4, s5⟩ := HS.out.on HLT.out hbw
  have hlf : Lies (put6 w1 w.heap.size (.int .i64 y.kind) (.bool y.bool) (.int .i64 y.int) (.string (strOf y.text)) (.slice B1 y.names.length e1) (.slice B2 y.list.length e2)) w.heap.size 27 [.int .i64 y.kind, .bool y.bool, .int .i64 y.int, .string (strOf y.text), .slice B1 y.names.length e1, .slice B2 y.list.length e2] := hl1.put6
  obtain ⟨⟨q0, q1, q2, q3, q4, q5⟩, _⟩ := hlf.six
  obtain ⟨⟨r0, r1, r2, r3, r4, r5⟩, g0, g1, g2, g3, g4, g5⟩ := hl1.six
  have HB : Hid (Below w.heap.size w (put6 w1 w.heap.size (.int .i64 y.kind) (.bool y.bool) (.int .i64 y.int) (.string (strOf y.text)) (.slice B1 y.names.length e1) (.slice B2 y.list.length e2))) := hbw.trans (gb_down gb_put6 hbw.size (Nat.le_refl _))
  clear hb hbw hl1 hlf
  go_wp2
  exact bodyPost_ret (by simp [results, Tryd.results22, go_sem, q0, q1, q2, q3, q4, q5]) rfl ⟨rfl, HB.out⟩
set_option maxHeartbeats 2000000 in
set_option maxRecDepth 100000 in
theorem atM_out (A : Option Addr) (n c : Nat) (k : Int) (w : World) (h : ¬ (0 ≤ k ∧ k < (n : Int))) :
    Calls Tryd.prog 22 #[.slice A n c, .int .i64 k] w fun e w' => e = .returned (jv 0 false 0 ByteArray.empty nilS nilS) ∧ Below w.heap.size w w' := by
  obtain ⟨W, eW⟩ : ∃ W, W = w.alloc zobj := ⟨_, rfl⟩
  have hbW : Below w.heap.size w W := by rw [eW]; exact below_new _ _
  have hl0 : Lies W w.heap.size 27 zero6 := by rw [eW]; exact Lies.new_ rfl
  have hH := hasM_any A n c k W
  have HW := Lib.hid eW
  have HL0 := Lib.hid hl0
  have HBW := Lib.hid hbW
  rw [decide_eq_false h, eW] at hH
  clear h hbW hl0 eW
  go_enter Tryd.func22, Tryd.ntmps22
  go_wp2_with fail
  refine hH.mono ?_
  rintro e w1 ⟨hb, rfl⟩
  clear hH
  rw [← HW.out] at hb
  have hbw := below_more HBW.out hb
  have hl1 := HL0.out.below hb HL0.out.lt
  have hlf : Lies (put6 w1 w.heap.size (.int .i64 0) (.bool false) (.int .i64 0) (.string { data := #[] }) nilS nilS) w.heap.size 27 [.int .i64 0, .bool false, .int .i64 0, .string { data := #[] }, nilS, nilS] := hl1.put6
  obtain ⟨⟨q0, q1, q2, q3, q4, q5⟩, _⟩ := hlf.six
  obtain ⟨⟨r0, r1, r2, r3, r4, r5⟩, g0, g1, g2, g3, g4, g5⟩ := hl1.six
  have HB : Hid (Below w.heap.size w (put6 w1 w.heap.size (.int .i64 0) (.bool false) (.int .i64 0) (.string { data := #[] }) nilS nilS)) := hbw.trans (gb_down gb_put6 hbw.size (Nat.le_refl _))
  clear hb hbw hl1 hlf
  go_wp2
  exact bodyPost_ret (by simp [results, Tryd.results22, go_sem, q0, q1, q2, q3, q4, q5]; rfl) rfl ⟨rfl, HB.out⟩
/-- What at answers is fixed by what lies in memory now. -/
theorem atM_known {okR ok : Nat → Prop} (l : List Jq.J) (A : Option Addr) (n c : Nat) (k : Int) (w : World) (hL : ListE w okR ok (.slice A n c) l) (hl : l.length = n) :
    ∃ B1 B2 e1 e2, IsJ w ok (jv (Mq.at_ l k).kind (Mq.at_ l k).bool (Mq.at_ l k).int (strOf (Mq.at_ l k).text) (.slice B1 (Mq.at_ l k).names.length e1) (.slice B2 (Mq.at_ l k).list.length e2)) (Mq.at_ l k) ∧
      ∀ w', Below w.heap.size w w' → Calls Tryd.prog 22 #[.slice A n c, .int .i64 k] w' fun e w'' => e = .returned (jv (Mq.at_ l k).kind (Mq.at_ l k).bool (Mq.at_ l k).int (strOf (Mq.at_ l k).text) (.slice B1 (Mq.at_ l k).names.length e1) (.slice B2 (Mq.at_ l k).list.length e2)) ∧ Below w'.heap.size w' w'' := by
  by_cases h : 0 ≤ k ∧ k < (n : Int)
  · obtain ⟨m, rfl⟩ : ∃ m : Nat, k = (m : Int) := ⟨k.toNat, by omega⟩
    have hm : m < n := by omega
    obtain ⟨b, off, y, B1, e1, B2, e2, rfl, hbb, hblt, hx, hJ, hsix⟩ := hL.elem (i := m) (by rw [hl]; exact hm)
    rw [Mq.at_some hx]
    exact ⟨B1, B2, e1, e2, hJ, fun w' hb => atM_in y b off n c m B1 e1 B2 e2 w' hm (hsix.on hblt hb)⟩
  · have e : Mq.at_ l k = Jq.nullJ := Mq.at_none (by unfold Mq.has; rw [hl]; exact h)
    rw [e]
    exact ⟨none, none, 0, 0, isJ_null _ _, fun w' _ => atM_out A n c k w' h⟩

set_option maxHeartbeats 2000000 in
set_option maxRecDepth 100000 in
theorem ofM_text {ok : Nat → Prop} {R : Jq.J} (int a b : Int) (t : List Nat) (A : Option Addr) (n c : Nat) (v : Jq.J) (V1 V2 : Option Addr) (e1 e2 : Nat) (w : World) (ht : t.length ≤ 140737488355328 ∧ ∀ x ∈ t, x < 256) (eR : Jq.textJ t = R) :
    Calls Tryd.prog 21 #[.slice A n c, .agg #[.int .i64 1, .int .i64 int, .int .i64 a, .int .i64 b, .string (strOf t)], jv v.kind v.bool v.int (strOf v.text) (.slice V1 v.names.length e1) (.slice V2 v.list.length e2)] w (ValE (fun b => ok b ∨ w.heap.size ≤ b) R w) := by
  obtain ⟨W, eW⟩ : ∃ W, W = ((w.alloc (nbox 1 int a b t)).alloc (jbox v V1 e1 V2 e2)).alloc zobjD := ⟨_, rfl⟩
  have hbW : Below w.heap.size w W := by rw [eW]; exact (below_new2 _ _ _).alloc (by simp; omega) _
  have hsW : W.heap.size = w.heap.size + 3 := by rw [eW]; simp
  have hl0 : Lies W (w.heap.size + 2) 27 zero6 := by rw [eW]; exact Lies.new_ (by simp)
  have hlv : Lies W (w.heap.size + 1) 27 [.int .i64 v.kind, .bool v.bool, .int .i64 v.int, .string (strOf v.text), .slice V1 v.names.length e1, .slice V2 v.list.length e2] := by rw [eW]; exact (Lies.new_ (by simp)).alloc _
  have hln : Lies W w.heap.size 44 [.int .i64 1, .int .i64 int, .int .i64 a, .int .i64 b, .string (strOf t)] := by rw [eW]; exact ((Lies.new_ rfl).alloc _).alloc _
  have HBW := Lib.hid hbW
  have HSW := Lib.hid hsW
  have HL0 := Lib.hid hl0
  have HLN := Lib.hid hln
  have HLV := Lib.hid hlv
  have HW := Lib.hid eW
  have HR := Lib.hid eR
  have hC := textMade_any (strOf t) W
  rw [eW] at hC
  have HT := Lib.hid ht
  clear ht
  go_enter Tryd.func21, Tryd.ntmps21
  go_wp2_with fail
  refine hC.mono ?_
  rintro e wE ⟨rfl, hbE⟩
  clear hC
  rw [← HW.out] at hbE
  have hbw := below_more HBW.out hbE
  have hlE := HL0.out.below hbE HL0.out.lt
  have HQ : Hid (ValE (fun b => ok b ∨ w.heap.size ≤ b) R w (.returned (jv 3 false 0 (strOf t) nilS nilS)) (put6 wE (w.heap.size + 2) (.int .i64 3) (.bool false) (.int .i64 0) (.string (strOf t)) nilS nilS)) := valE_put (ok' := (fun _ => False)) (Nat.le_add_right _ 2) hbw (fun _ h => h.elim) (by rw [← HR.out]; exact isJ_text _ _ HT.out)
  have hlf : Lies (put6 wE (w.heap.size + 2) (.int .i64 3) (.bool false) (.int .i64 0) (.string (strOf t)) nilS nilS) (w.heap.size + 2) 27 [.int .i64 3, .bool false, .int .i64 0, .string (strOf t), nilS, nilS] := hlE.put6
  obtain ⟨⟨q0, q1, q2, q3, q4, q5⟩, _⟩ := hlf.six
  obtain ⟨⟨r0, r1, r2, r3, r4, r5⟩, g0, g1, g2, g3, g4, g5⟩ := hlE.six
  clear hbE hbw hlE hlf hl0 hlv hln hbW hsW eW eR
  go_wp2
  exact bodyPost_ret (by simp [results, Tryd.results21, go_sem, q0, q1, q2, q3, q4, q5]) rfl HQ.out
set_option maxHeartbeats 2000000 in
set_option maxRecDepth 100000 in
theorem ofM_int {ok : Nat → Prop} {R : Jq.J} (int a b : Int) (t : List Nat) (A : Option Addr) (n c : Nat) (v : Jq.J) (V1 V2 : Option Addr) (e1 e2 : Nat) (w : World) (hi : -9223372036854775808 ≤ int ∧ int ≤ 9223372036854775807) (eR : Jq.intJ int = R) :
    Calls Tryd.prog 21 #[.slice A n c, .agg #[.int .i64 2, .int .i64 int, .int .i64 a, .int .i64 b, .string (strOf t)], jv v.kind v.bool v.int (strOf v.text) (.slice V1 v.names.length e1) (.slice V2 v.list.length e2)] w (ValE (fun b => ok b ∨ w.heap.size ≤ b) R w) := by
  obtain ⟨W, eW⟩ : ∃ W, W = ((w.alloc (nbox 2 int a b t)).alloc (jbox v V1 e1 V2 e2)).alloc zobjD := ⟨_, rfl⟩
  have hbW : Below w.heap.size w W := by rw [eW]; exact (below_new2 _ _ _).alloc (by simp; omega) _
  have hsW : W.heap.size = w.heap.size + 3 := by rw [eW]; simp
  have hl0 : Lies W (w.heap.size + 2) 27 zero6 := by rw [eW]; exact Lies.new_ (by simp)
  have hlv : Lies W (w.heap.size + 1) 27 [.int .i64 v.kind, .bool v.bool, .int .i64 v.int, .string (strOf v.text), .slice V1 v.names.length e1, .slice V2 v.list.length e2] := by rw [eW]; exact (Lies.new_ (by simp)).alloc _
  have hln : Lies W w.heap.size 44 [.int .i64 2, .int .i64 int, .int .i64 a, .int .i64 b, .string (strOf t)] := by rw [eW]; exact ((Lies.new_ rfl).alloc _).alloc _
  have HBW := Lib.hid hbW
  have HSW := Lib.hid hsW
  have HL0 := Lib.hid hl0
  have HLN := Lib.hid hln
  have HLV := Lib.hid hlv
  have HW := Lib.hid eW
  have HR := Lib.hid eR
  have hC := intMade_any int W
  rw [eW] at hC
  have HT := Lib.hid hi
  clear hi
  go_enter Tryd.func21, Tryd.ntmps21
  go_wp2_with fail
  refine hC.mono ?_
  rintro e wE ⟨rfl, hbE⟩
  clear hC
  rw [← HW.out] at hbE
  have hbw := below_more HBW.out hbE
  have hlE := HL0.out.below hbE HL0.out.lt
  have HQ : Hid (ValE (fun b => ok b ∨ w.heap.size ≤ b) R w (.returned (jv 2 false int ByteArray.empty nilS nilS)) (put6 wE (w.heap.size + 2) (.int .i64 2) (.bool false) (.int .i64 int) (.string ByteArray.empty) nilS nilS)) := valE_put (ok' := (fun _ => False)) (Nat.le_add_right _ 2) hbw (fun _ h => h.elim) (by rw [← HR.out]; exact isJ_int _ _ HT.out)
  have hlf : Lies (put6 wE (w.heap.size + 2) (.int .i64 2) (.bool false) (.int .i64 int) (.string ByteArray.empty) nilS nilS) (w.heap.size + 2) 27 [.int .i64 2, .bool false, .int .i64 int, .string ByteArray.empty, nilS, nilS] := hlE.put6
  obtain ⟨⟨q0, q1, q2, q3, q4, q5⟩, _⟩ := hlf.six
  obtain ⟨⟨r0, r1, r2, r3, r4, r5⟩, g0, g1, g2, g3, g4, g5⟩ := hlE.six
  clear hbE hbw hlE hlf hl0 hlv hln hbW hsW eW eR
  go_wp2
  exact bodyPost_ret (by simp [results, Tryd.results21, go_sem, q0, q1, q2, q3, q4, q5]) rfl HQ.out
set_option maxHeartbeats 2000000 in
set_option maxRecDepth 100000 in
theorem ofM_claim {ok : Nat → Prop} {R : Jq.J} (int a b : Int) (t : List Nat) (A : Option Addr) (n c : Nat) (v : Jq.J) (V1 V2 : Option Addr) (e1 e2 : Nat) (w : World) (ht : t.length ≤ 140737488355328 ∧ ∀ x ∈ t, x < 256) {okv : Nat → Prop} (hV : IsJ w okv (jv v.kind v.bool v.int (strOf v.text) (.slice V1 v.names.length e1) (.slice V2 v.list.length e2)) v) (eR : Mq.claimV v t = R) :
    Calls Tryd.prog 21 #[.slice A n c, .agg #[.int .i64 3, .int .i64 int, .int .i64 a, .int .i64 b, .string (strOf t)], jv v.kind v.bool v.int (strOf v.text) (.slice V1 v.names.length e1) (.slice V2 v.list.length e2)] w (ValE (fun b => ok b ∨ w.heap.size ≤ b) R w) := by
  obtain ⟨W, eW⟩ : ∃ W, W = ((w.alloc (nbox 3 int a b t)).alloc (jbox v V1 e1 V2 e2)).alloc zobjD := ⟨_, rfl⟩
  have hbW : Below w.heap.size w W := by rw [eW]; exact (below_new2 _ _ _).alloc (by simp; omega) _
  have hsW : W.heap.size = w.heap.size + 3 := by rw [eW]; simp
  have hl0 : Lies W (w.heap.size + 2) 27 zero6 := by rw [eW]; exact Lies.new_ (by simp)
  have hlv : Lies W (w.heap.size + 1) 27 [.int .i64 v.kind, .bool v.bool, .int .i64 v.int, .string (strOf v.text), .slice V1 v.names.length e1, .slice V2 v.list.length e2] := by rw [eW]; exact (Lies.new_ (by simp)).alloc _
  have hln : Lies W w.heap.size 44 [.int .i64 3, .int .i64 int, .int .i64 a, .int .i64 b, .string (strOf t)] := by rw [eW]; exact ((Lies.new_ rfl).alloc _).alloc _
  have HBW := Lib.hid hbW
  have HSW := Lib.hid hsW
  have HL0 := Lib.hid hl0
  have HLN := Lib.hid hln
  have HLV := Lib.hid hlv
  have HW := Lib.hid eW
  have HR := Lib.hid eR
  have hC := claimM_any v V1 V2 e1 e2 t ht.2 W (hV.on hbW)
  rw [eR] at hC
  obtain ⟨⟨s0, s1, s2, s3, s4, s5⟩, _⟩ := hlv.six
  have HC := Lib.hid hC
  clear ht hV hC s0 s1 s2 s3 s4 s5
  have hC := HC.out
  rw [eW] at hC
  go_enter Tryd.func21, Tryd.ntmps21
  go_wp2_with fail
  refine hC.mono ?_
  rintro e wE ⟨u, rfl, hJ, hbE⟩
  clear hC HC
  rw [← HW.out] at hbE hJ
  obtain ⟨B1, d1, B2, d2, rfl⟩ := hJ.form
  have HJ := Lib.hid hJ
  clear hJ
  have hbw := below_more HBW.out hbE
  have hlE := HL0.out.below hbE HL0.out.lt
  have HQ : Hid (ValE (fun b => ok b ∨ w.heap.size ≤ b) R w (.returned (jv R.kind R.bool R.int (strOf R.text) (.slice B1 R.names.length d1) (.slice B2 R.list.length d2))) (put6 wE (w.heap.size + 2) (.int .i64 R.kind) (.bool R.bool) (.int .i64 R.int) (.string (strOf R.text)) (.slice B1 R.names.length d1) (.slice B2 R.list.length d2))) := valE_put (ok' := (W.heap.size ≤ ·)) (Nat.le_add_right _ 2) hbw (fun b hb => by have hb : W.heap.size ≤ b := hb; have := HSW.out; exact ⟨.inr (by omega), by omega⟩) HJ.out
  have hlf : Lies (put6 wE (w.heap.size + 2) (.int .i64 R.kind) (.bool R.bool) (.int .i64 R.int) (.string (strOf R.text)) (.slice B1 R.names.length d1) (.slice B2 R.list.length d2)) (w.heap.size + 2) 27 [.int .i64 R.kind, .bool R.bool, .int .i64 R.int, .string (strOf R.text), (.slice B1 R.names.length d1), (.slice B2 R.list.length d2)] := hlE.put6
  obtain ⟨⟨q0, q1, q2, q3, q4, q5⟩, _⟩ := hlf.six
  obtain ⟨⟨r0, r1, r2, r3, r4, r5⟩, g0, g1, g2, g3, g4, g5⟩ := hlE.six
  clear hbE hbw hlE hlf hl0 hlv hln hbW hsW eW eR
  go_wp2
  exact bodyPost_ret (by simp [results, Tryd.results21, go_sem, q0, q1, q2, q3, q4, q5]) rfl HQ.out
set_option maxHeartbeats 2000000 in
set_option maxRecDepth 100000 in
theorem ofM_has {ok : Nat → Prop} {R : Jq.J} (int a b : Int) (t : List Nat) (A : Option Addr) (n c : Nat) (v : Jq.J) (V1 V2 : Option Addr) (e1 e2 : Nat) (w : World) (ht : t.length ≤ 140737488355328 ∧ ∀ x ∈ t, x < 256) {okv : Nat → Prop} (hV : IsJ w okv (jv v.kind v.bool v.int (strOf v.text) (.slice V1 v.names.length e1) (.slice V2 v.list.length e2)) v) (eR : Jq.boolJ (!decide ((Mq.claimV v t).kind = 0)) = R) :
    Calls Tryd.prog 21 #[.slice A n c, .agg #[.int .i64 4, .int .i64 int, .int .i64 a, .int .i64 b, .string (strOf t)], jv v.kind v.bool v.int (strOf v.text) (.slice V1 v.names.length e1) (.slice V2 v.list.length e2)] w (ValE (fun b => ok b ∨ w.heap.size ≤ b) R w) := by
  obtain ⟨W, eW⟩ : ∃ W, W = ((w.alloc (nbox 4 int a b t)).alloc (jbox v V1 e1 V2 e2)).alloc zobjD := ⟨_, rfl⟩
  have hbW : Below w.heap.size w W := by rw [eW]; exact (below_new2 _ _ _).alloc (by simp; omega) _
  have hsW : W.heap.size = w.heap.size + 3 := by rw [eW]; simp
  have hl0 : Lies W (w.heap.size + 2) 27 zero6 := by rw [eW]; exact Lies.new_ (by simp)
  have hlv : Lies W (w.heap.size + 1) 27 [.int .i64 v.kind, .bool v.bool, .int .i64 v.int, .string (strOf v.text), .slice V1 v.names.length e1, .slice V2 v.list.length e2] := by rw [eW]; exact (Lies.new_ (by simp)).alloc _
  have hln : Lies W w.heap.size 44 [.int .i64 4, .int .i64 int, .int .i64 a, .int .i64 b, .string (strOf t)] := by rw [eW]; exact ((Lies.new_ rfl).alloc _).alloc _
  have HBW := Lib.hid hbW
  have HSW := Lib.hid hsW
  have HL0 := Lib.hid hl0
  have HLN := Lib.hid hln
  have HLV := Lib.hid hlv
  have HW := Lib.hid eW
  have hC := claimM_any v V1 V2 e1 e2 t ht.2 W (hV.on hbW)
  obtain ⟨X, eX⟩ : ∃ X, Mq.claimV v t = X := ⟨_, rfl⟩
  rw [eX] at hC eR
  have HR := Lib.hid eR
  rw [eW] at hC
  clear ht hV
  go_enter Tryd.func21, Tryd.ntmps21
  go_wp2_with fail
  refine hC.mono ?_
  rintro e w1 ⟨u, rfl, hJ, hb1⟩
  clear hC
  rw [← HW.out] at hb1
  obtain ⟨B1, d1, B2, d2, rfl⟩ := hJ.form
  have hD := isNoneM_any X B1 B2 d1 d2 w1
  obtain ⟨K, eK⟩ : ∃ K, decide (X.kind = 0) = K := ⟨_, rfl⟩
  rw [eK] at hD eR
  have HR := Lib.hid eR
  clear hJ
  go_wp2_with fail
  refine hD.mono ?_
  rintro e w2 ⟨hb2, rfl⟩
  clear hD
  have hD := truthM_any (!K) w2
  have hb3 := below_more hb1 hb2
  go_wp2_with fail
  refine hD.mono ?_
  rintro e wE ⟨rfl, hb4⟩
  clear hD
  have hbE := below_more hb3 hb4
  clear hb1 hb2 hb3 hb4
  have hbw := below_more HBW.out hbE
  have hlE := HL0.out.below hbE HL0.out.lt
  have HQ : Hid (ValE (fun b => ok b ∨ w.heap.size ≤ b) R w (.returned (jv 1 (!K) 0 ByteArray.empty nilS nilS)) (put6 wE (w.heap.size + 2) (.int .i64 1) (.bool (!K)) (.int .i64 0) (.string ByteArray.empty) nilS nilS)) := valE_put (ok' := (fun _ => False)) (Nat.le_add_right _ 2) hbw (fun _ h => h.elim) (by rw [← HR.out]; exact isJ_bool _ _ _)
  have hlf : Lies (put6 wE (w.heap.size + 2) (.int .i64 1) (.bool (!K)) (.int .i64 0) (.string ByteArray.empty) nilS nilS) (w.heap.size + 2) 27 [.int .i64 1, .bool (!K), .int .i64 0, .string ByteArray.empty, nilS, nilS] := hlE.put6
  obtain ⟨⟨q0, q1, q2, q3, q4, q5⟩, _⟩ := hlf.six
  obtain ⟨⟨r0, r1, r2, r3, r4, r5⟩, g0, g1, g2, g3, g4, g5⟩ := hlE.six
  clear hbE hbw hlE hlf hl0 hlv hln hbW hsW eW eR eX eK
  go_wp2
  exact bodyPost_ret (by simp [results, Tryd.results21, go_sem, q0, q1, q2, q3, q4, q5]) rfl HQ.out
set_option maxHeartbeats 2000000 in
set_option maxRecDepth 100000 in
theorem ofM_one6 {ok : Nat → Prop} {R : Jq.J} (int a b : Int) (t : List Nat) (A : Option Addr) (n c : Nat) (v : Jq.J) (V1 V2 : Option Addr) (e1 e2 : Nat) (w : World) {okR : Nat → Prop} (l : List Jq.J) (hL : ListE w okR ok (.slice A n c) l) (hl : l.length = n) (eR : Mq.ofOne 6 (Mq.at_ l a) = R) :
    Calls Tryd.prog 21 #[.slice A n c, .agg #[.int .i64 6, .int .i64 int, .int .i64 a, .int .i64 b, .string (strOf t)], jv v.kind v.bool v.int (strOf v.text) (.slice V1 v.names.length e1) (.slice V2 v.list.length e2)] w (ValE (fun b => ok b ∨ w.heap.size ≤ b) R w) := by
  obtain ⟨W, eW⟩ : ∃ W, W = ((w.alloc (nbox 6 int a b t)).alloc (jbox v V1 e1 V2 e2)).alloc zobjD := ⟨_, rfl⟩
  have hbW : Below w.heap.size w W := by rw [eW]; exact (below_new2 _ _ _).alloc (by simp; omega) _
  have hsW : W.heap.size = w.heap.size + 3 := by rw [eW]; simp
  have hl0 : Lies W (w.heap.size + 2) 27 zero6 := by rw [eW]; exact Lies.new_ (by simp)
  have hlv : Lies W (w.heap.size + 1) 27 [.int .i64 v.kind, .bool v.bool, .int .i64 v.int, .string (strOf v.text), .slice V1 v.names.length e1, .slice V2 v.list.length e2] := by rw [eW]; exact (Lies.new_ (by simp)).alloc _
  have hln : Lies W w.heap.size 44 [.int .i64 6, .int .i64 int, .int .i64 a, .int .i64 b, .string (strOf t)] := by rw [eW]; exact ((Lies.new_ rfl).alloc _).alloc _
  have HBW := Lib.hid hbW
  have HSW := Lib.hid hsW
  have HL0 := Lib.hid hl0
  have HLN := Lib.hid hln
  have HLV := Lib.hid hlv
  have HW := Lib.hid eW
  obtain ⟨B1, B2, d1, d2, hJ, hAt⟩ := atM_known l A n c a W (hL.in_.on hbW) hl
  obtain ⟨x, ex⟩ : ∃ x, Mq.at_ l a = x := ⟨_, rfl⟩
  rw [ex] at hJ hAt eR
  have HR := Lib.hid eR
  have HJ := Lib.hid hJ
  have cT : ∀ d os, Calls Tryd.prog 22 #[.slice A n c, .int .i64 a] (grow (redrawn W d) os) fun e w2 => e = .returned (jv x.kind x.bool x.int (strOf x.text) (.slice B1 x.names.length d1) (.slice B2 x.list.length d2)) ∧ ∃ r : Regrown, w2 = grow (redrawn W r.d) r.os := fun d os => Calls.regrown_of (hAt _ (below_regrown W d os))
  have z0 : W.cell? ⟨w.heap.size, 0, none⟩ = some (.int .i64 6) := hln.cell 0
  have z2 : W.cell? ⟨w.heap.size, 2, none⟩ = some (.int .i64 a) := hln.cell 2
  have k0 := cell_regrown z0
  have k2 := cell_regrown z2
  clear z0 z2
  clear hL hl hJ hAt ex eW
  go_enter Tryd.func21, Tryd.ntmps21
  go_upto_region 15 with (fail)
  rw [← HW.out]
  refine wp_region_quiet_tail 6 (by kernel_rfl) (by kernel_rfl) (by kernel_rfl) (by kernel_rfl) (by kernel_rfl) ?_
  simp only [List.take_succ_cons, List.take_zero, List.drop_succ_cons, List.drop_zero]
  repeat (go_big_quiet_step (first | with_reducible exact cT _ _))
  refine wpQuiet_nil ?_
  intro w' hw'
  obtain ⟨⟨dq, osq⟩, hw''⟩ := hw'
  subst hw''
  have hfin := below_regrown W dq osq
  generalize hWq : grow (redrawn W dq) osq = Wa at hfin ⊢
  have hC := ofOneM_any 6 x B1 B2 d1 d2 Wa (HJ.out.on hfin)
  rw [eR] at hC
  clear k0 k2 cT hWq
  go_wp2_with fail
  refine hC.mono ?_
  rintro e wE ⟨u, rfl, hJE, hb2⟩
  clear hC
  have hbE := below_more hfin hb2
  obtain ⟨C1, f1, C2, f2, rfl⟩ := hJE.form
  have HJE := Lib.hid hJE
  clear hJE hfin hb2
  have hbw := below_more HBW.out hbE
  have hlE := HL0.out.below hbE HL0.out.lt
  have HQ : Hid (ValE (fun b => ok b ∨ w.heap.size ≤ b) R w (.returned (jv R.kind R.bool R.int (strOf R.text) (.slice C1 R.names.length f1) (.slice C2 R.list.length f2))) (put6 wE (w.heap.size + 2) (.int .i64 R.kind) (.bool R.bool) (.int .i64 R.int) (.string (strOf R.text)) (.slice C1 R.names.length f1) (.slice C2 R.list.length f2))) := valE_put (ok' := (fun b => ok b ∧ b < w.heap.size)) (Nat.le_add_right _ 2) hbw (fun b hb => ⟨.inl hb.1, by have := hb.2; omega⟩) HJE.out
  have hlf : Lies (put6 wE (w.heap.size + 2) (.int .i64 R.kind) (.bool R.bool) (.int .i64 R.int) (.string (strOf R.text)) (.slice C1 R.names.length f1) (.slice C2 R.list.length f2)) (w.heap.size + 2) 27 [.int .i64 R.kind, .bool R.bool, .int .i64 R.int, .string (strOf R.text), (.slice C1 R.names.length f1), (.slice C2 R.list.length f2)] := hlE.put6
  obtain ⟨⟨q0, q1, q2, q3, q4, q5⟩, _⟩ := hlf.six
  obtain ⟨⟨r0, r1, r2, r3, r4, r5⟩, g0, g1, g2, g3, g4, g5⟩ := hlE.six
  clear hbE hbw hlE hlf hl0 hlv hln hbW hsW eR
  go_wp2
  exact bodyPost_ret (by simp [results, Tryd.results21, go_sem, q0, q1, q2, q3, q4, q5]) rfl HQ.out
set_option maxHeartbeats 2000000 in
set_option maxRecDepth 100000 in
theorem ofM_one7 {ok : Nat → Prop} {R : Jq.J} (int a b : Int) (t : List Nat) (A : Option Addr) (n c : Nat) (v : Jq.J) (V1 V2 : Option Addr) (e1 e2 : Nat) (w : World) {okR : Nat → Prop} (l : List Jq.J) (hL : ListE w okR ok (.slice A n c) l) (hl : l.length = n) (eR : Mq.ofOne 7 (Mq.at_ l a) = R) :
    Calls Tryd.prog 21 #[.slice A n c, .agg #[.int .i64 7, .int .i64 int, .int .i64 a, .int .i64 b, .string (strOf t)], jv v.kind v.bool v.int (strOf v.text) (.slice V1 v.names.length e1) (.slice V2 v.list.length e2)] w (ValE (fun b => ok b ∨ w.heap.size ≤ b) R w) := by
  obtain ⟨W, eW⟩ : ∃ W, W = ((w.alloc (nbox 7 int a b t)).alloc (jbox v V1 e1 V2 e2)).alloc zobjD := ⟨_, rfl⟩
  have hbW : Below w.heap.size w W := by rw [eW]; exact (below_new2 _ _ _).alloc (by simp; omega) _
  have hsW : W.heap.size = w.heap.size + 3 := by rw [eW]; simp
  have hl0 : Lies W (w.heap.size + 2) 27 zero6 := by rw [eW]; exact Lies.new_ (by simp)
  have hlv : Lies W (w.heap.size + 1) 27 [.int .i64 v.kind, .bool v.bool, .int .i64 v.int, .string (strOf v.text), .slice V1 v.names.length e1, .slice V2 v.list.length e2] := by rw [eW]; exact (Lies.new_ (by simp)).alloc _
  have hln : Lies W w.heap.size 44 [.int .i64 7, .int .i64 int, .int .i64 a, .int .i64 b, .string (strOf t)] := by rw [eW]; exact ((Lies.new_ rfl).alloc _).alloc _
  have HBW := Lib.hid hbW
  have HSW := Lib.hid hsW
  have HL0 := Lib.hid hl0
  have HLN := Lib.hid hln
  have HLV := Lib.hid hlv
  have HW := Lib.hid eW
  obtain ⟨B1, B2, d1, d2, hJ, hAt⟩ := atM_known l A n c a W (hL.in_.on hbW) hl
  obtain ⟨x, ex⟩ : ∃ x, Mq.at_ l a = x := ⟨_, rfl⟩
  rw [ex] at hJ hAt eR
  have HR := Lib.hid eR
  have HJ := Lib.hid hJ
  have cT : ∀ d os, Calls Tryd.prog 22 #[.slice A n c, .int .i64 a] (grow (redrawn W d) os) fun e w2 => e = .returned (jv x.kind x.bool x.int (strOf x.text) (.slice B1 x.names.length d1) (.slice B2 x.list.length d2)) ∧ ∃ r : Regrown, w2 = grow (redrawn W r.d) r.os := fun d os => Calls.regrown_of (hAt _ (below_regrown W d os))
  have z0 : W.cell? ⟨w.heap.size, 0, none⟩ = some (.int .i64 7) := hln.cell 0
  have z2 : W.cell? ⟨w.heap.size, 2, none⟩ = some (.int .i64 a) := hln.cell 2
  have k0 := cell_regrown z0
  have k2 := cell_regrown z2
  clear z0 z2
  clear hL hl hJ hAt ex eW
  go_enter Tryd.func21, Tryd.ntmps21
  go_upto_region 15 with (fail)
  rw [← HW.out]
  refine wp_region_quiet_tail 6 (by kernel_rfl) (by kernel_rfl) (by kernel_rfl) (by kernel_rfl) (by kernel_rfl) ?_
  simp only [List.take_succ_cons, List.take_zero, List.drop_succ_cons, List.drop_zero]
  repeat (go_big_quiet_step (first | with_reducible exact cT _ _))
  refine wpQuiet_nil ?_
  intro w' hw'
  obtain ⟨⟨dq, osq⟩, hw''⟩ := hw'
  subst hw''
  have hfin := below_regrown W dq osq
  generalize hWq : grow (redrawn W dq) osq = Wa at hfin ⊢
  have hC := ofOneM_any 7 x B1 B2 d1 d2 Wa (HJ.out.on hfin)
  rw [eR] at hC
  clear k0 k2 cT hWq
  go_wp2_with fail
  refine hC.mono ?_
  rintro e wE ⟨u, rfl, hJE, hb2⟩
  clear hC
  have hbE := below_more hfin hb2
  obtain ⟨C1, f1, C2, f2, rfl⟩ := hJE.form
  have HJE := Lib.hid hJE
  clear hJE hfin hb2
  have hbw := below_more HBW.out hbE
  have hlE := HL0.out.below hbE HL0.out.lt
  have HQ : Hid (ValE (fun b => ok b ∨ w.heap.size ≤ b) R w (.returned (jv R.kind R.bool R.int (strOf R.text) (.slice C1 R.names.length f1) (.slice C2 R.list.length f2))) (put6 wE (w.heap.size + 2) (.int .i64 R.kind) (.bool R.bool) (.int .i64 R.int) (.string (strOf R.text)) (.slice C1 R.names.length f1) (.slice C2 R.list.length f2))) := valE_put (ok' := (fun b => ok b ∧ b < w.heap.size)) (Nat.le_add_right _ 2) hbw (fun b hb => ⟨.inl hb.1, by have := hb.2; omega⟩) HJE.out
  have hlf : Lies (put6 wE (w.heap.size + 2) (.int .i64 R.kind) (.bool R.bool) (.int .i64 R.int) (.string (strOf R.text)) (.slice C1 R.names.length f1) (.slice C2 R.list.length f2)) (w.heap.size + 2) 27 [.int .i64 R.kind, .bool R.bool, .int .i64 R.int, .string (strOf R.text), (.slice C1 R.names.length f1), (.slice C2 R.list.length f2)] := hlE.put6
  obtain ⟨⟨q0, q1, q2, q3, q4, q5⟩, _⟩ := hlf.six
  obtain ⟨⟨r0, r1, r2, r3, r4, r5⟩, g0, g1, g2, g3, g4, g5⟩ := hlE.six
  clear hbE hbw hlE hlf hl0 hlv hln hbW hsW eR
  go_wp2
  exact bodyPost_ret (by simp [results, Tryd.results21, go_sem, q0, q1, q2, q3, q4, q5]) rfl HQ.out
set_option maxHeartbeats 2000000 in
set_option maxRecDepth 100000 in
theorem ofM_one8 {ok : Nat → Prop} {R : Jq.J} (int a b : Int) (t : List Nat) (A : Option Addr) (n c : Nat) (v : Jq.J) (V1 V2 : Option Addr) (e1 e2 : Nat) (w : World) {okR : Nat → Prop} (l : List Jq.J) (hL : ListE w okR ok (.slice A n c) l) (hl : l.length = n) (eR : Mq.ofOne 8 (Mq.at_ l a) = R) :
    Calls Tryd.prog 21 #[.slice A n c, .agg #[.int .i64 8, .int .i64 int, .int .i64 a, .int .i64 b, .string (strOf t)], jv v.kind v.bool v.int (strOf v.text) (.slice V1 v.names.length e1) (.slice V2 v.list.length e2)] w (ValE (fun b => ok b ∨ w.heap.size ≤ b) R w) := by
  obtain ⟨W, eW⟩ : ∃ W, W = ((w.alloc (nbox 8 int a b t)).alloc (jbox v V1 e1 V2 e2)).alloc zobjD := ⟨_, rfl⟩
  have hbW : Below w.heap.size w W := by rw [eW]; exact (below_new2 _ _ _).alloc (by simp; omega) _
  have hsW : W.heap.size = w.heap.size + 3 := by rw [eW]; simp
  have hl0 : Lies W (w.heap.size + 2) 27 zero6 := by rw [eW]; exact Lies.new_ (by simp)
  have hlv : Lies W (w.heap.size + 1) 27 [.int .i64 v.kind, .bool v.bool, .int .i64 v.int, .string (strOf v.text), .slice V1 v.names.length e1, .slice V2 v.list.length e2] := by rw [eW]; exact (Lies.new_ (by simp)).alloc _
  have hln : Lies W w.heap.size 44 [.int .i64 8, .int .i64 int, .int .i64 a, .int .i64 b, .string (strOf t)] := by rw [eW]; exact ((Lies.new_ rfl).alloc _).alloc _
  have HBW := Lib.hid hbW
  have HSW := Lib.hid hsW
  have HL0 := Lib.hid hl0
  have HLN := Lib.hid hln
  have HLV := Lib.hid hlv
  have HW := Lib.hid eW
  obtain ⟨B1, B2, d1, d2, hJ, hAt⟩ := atM_known l A n c a W (hL.in_.on hbW) hl
  obtain ⟨x, ex⟩ : ∃ x, Mq.at_ l a = x := ⟨_, rfl⟩
  rw [ex] at hJ hAt eR
  have HR := Lib.hid eR
  have HJ := Lib.hid hJ
  have cT : ∀ d os, Calls Tryd.prog 22 #[.slice A n c, .int .i64 a] (grow (redrawn W d) os) fun e w2 => e = .returned (jv x.kind x.bool x.int (strOf x.text) (.slice B1 x.names.length d1) (.slice B2 x.list.length d2)) ∧ ∃ r : Regrown, w2 = grow (redrawn W r.d) r.os := fun d os => Calls.regrown_of (hAt _ (below_regrown W d os))
  have z0 : W.cell? ⟨w.heap.size, 0, none⟩ = some (.int .i64 8) := hln.cell 0
  have z2 : W.cell? ⟨w.heap.size, 2, none⟩ = some (.int .i64 a) := hln.cell 2
  have k0 := cell_regrown z0
  have k2 := cell_regrown z2
  clear z0 z2
  clear hL hl hJ hAt ex eW
  go_enter Tryd.func21, Tryd.ntmps21
  go_upto_region 15 with (fail)
  rw [← HW.out]
  refine wp_region_quiet_tail 6 (by kernel_rfl) (by kernel_rfl) (by kernel_rfl) (by kernel_rfl) (by kernel_rfl) ?_
  simp only [List.take_succ_cons, List.take_zero, List.drop_succ_cons, List.drop_zero]
  repeat (go_big_quiet_step (first | with_reducible exact cT _ _))
  refine wpQuiet_nil ?_
  intro w' hw'
  obtain ⟨⟨dq, osq⟩, hw''⟩ := hw'
  subst hw''
  have hfin := below_regrown W dq osq
  generalize hWq : grow (redrawn W dq) osq = Wa at hfin ⊢
  have hC := ofOneM_any 8 x B1 B2 d1 d2 Wa (HJ.out.on hfin)
  rw [eR] at hC
  clear k0 k2 cT hWq
  go_wp2_with fail
  refine hC.mono ?_
  rintro e wE ⟨u, rfl, hJE, hb2⟩
  clear hC
  have hbE := below_more hfin hb2
  obtain ⟨C1, f1, C2, f2, rfl⟩ := hJE.form
  have HJE := Lib.hid hJE
  clear hJE hfin hb2
  have hbw := below_more HBW.out hbE
  have hlE := HL0.out.below hbE HL0.out.lt
  have HQ : Hid (ValE (fun b => ok b ∨ w.heap.size ≤ b) R w (.returned (jv R.kind R.bool R.int (strOf R.text) (.slice C1 R.names.length f1) (.slice C2 R.list.length f2))) (put6 wE (w.heap.size + 2) (.int .i64 R.kind) (.bool R.bool) (.int .i64 R.int) (.string (strOf R.text)) (.slice C1 R.names.length f1) (.slice C2 R.list.length f2))) := valE_put (ok' := (fun b => ok b ∧ b < w.heap.size)) (Nat.le_add_right _ 2) hbw (fun b hb => ⟨.inl hb.1, by have := hb.2; omega⟩) HJE.out
  have hlf : Lies (put6 wE (w.heap.size + 2) (.int .i64 R.kind) (.bool R.bool) (.int .i64 R.int) (.string (strOf R.text)) (.slice C1 R.names.length f1) (.slice C2 R.list.length f2)) (w.heap.size + 2) 27 [.int .i64 R.kind, .bool R.bool, .int .i64 R.int, .string (strOf R.text), (.slice C1 R.names.length f1), (.slice C2 R.list.length f2)] := hlE.put6
  obtain ⟨⟨q0, q1, q2, q3, q4, q5⟩, _⟩ := hlf.six
  obtain ⟨⟨r0, r1, r2, r3, r4, r5⟩, g0, g1, g2, g3, g4, g5⟩ := hlE.six
  clear hbE hbw hlE hlf hl0 hlv hln hbW hsW eR
  go_wp2
  exact bodyPost_ret (by simp [results, Tryd.results21, go_sem, q0, q1, q2, q3, q4, q5]) rfl HQ.out
set_option maxHeartbeats 2000000 in
set_option maxRecDepth 100000 in
theorem ofM_one9 {ok : Nat → Prop} {R : Jq.J} (int a b : Int) (t : List Nat) (A : Option Addr) (n c : Nat) (v : Jq.J) (V1 V2 : Option Addr) (e1 e2 : Nat) (w : World) {okR : Nat → Prop} (l : List Jq.J) (hL : ListE w okR ok (.slice A n c) l) (hl : l.length = n) (eR : Mq.ofOne 9 (Mq.at_ l a) = R) :
    Calls Tryd.prog 21 #[.slice A n c, .agg #[.int .i64 9, .int .i64 int, .int .i64 a, .int .i64 b, .string (strOf t)], jv v.kind v.bool v.int (strOf v.text) (.slice V1 v.names.length e1) (.slice V2 v.list.length e2)] w (ValE (fun b => ok b ∨ w.heap.size ≤ b) R w) := by
  obtain ⟨W, eW⟩ : ∃ W, W = ((w.alloc (nbox 9 int a b t)).alloc (jbox v V1 e1 V2 e2)).alloc zobjD := ⟨_, rfl⟩
  have hbW : Below w.heap.size w W := by rw [eW]; exact (below_new2 _ _ _).alloc (by simp; omega) _
  have hsW : W.heap.size = w.heap.size + 3 := by rw [eW]; simp
  have hl0 : Lies W (w.heap.size + 2) 27 zero6 := by rw [eW]; exact Lies.new_ (by simp)
  have hlv : Lies W (w.heap.size + 1) 27 [.int .i64 v.kind, .bool v.bool, .int .i64 v.int, .string (strOf v.text), .slice V1 v.names.length e1, .slice V2 v.list.length e2] := by rw [eW]; exact (Lies.new_ (by simp)).alloc _
  have hln : Lies W w.heap.size 44 [.int .i64 9, .int .i64 int, .int .i64 a, .int .i64 b, .string (strOf t)] := by rw [eW]; exact ((Lies.new_ rfl).alloc _).alloc _
  have HBW := Lib.hid hbW
  have HSW := Lib.hid hsW
  have HL0 := Lib.hid hl0
  have HLN := Lib.hid hln
  have HLV := Lib.hid hlv
  have HW := Lib.hid eW
  obtain ⟨B1, B2, d1, d2, hJ, hAt⟩ := atM_known l A n c a W (hL.in_.on hbW) hl
  obtain ⟨x, ex⟩ : ∃ x, Mq.at_ l a = x := ⟨_, rfl⟩
  rw [ex] at hJ hAt eR
  have HR := Lib.hid eR
  have HJ := Lib.hid hJ
  have cT : ∀ d os, Calls Tryd.prog 22 #[.slice A n c, .int .i64 a] (grow (redrawn W d) os) fun e w2 => e = .returned (jv x.kind x.bool x.int (strOf x.text) (.slice B1 x.names.length d1) (.slice B2 x.list.length d2)) ∧ ∃ r : Regrown, w2 = grow (redrawn W r.d) r.os := fun d os => Calls.regrown_of (hAt _ (below_regrown W d os))
  have z0 : W.cell? ⟨w.heap.size, 0, none⟩ = some (.int .i64 9) := hln.cell 0
  have z2 : W.cell? ⟨w.heap.size, 2, none⟩ = some (.int .i64 a) := hln.cell 2
  have k0 := cell_regrown z0
  have k2 := cell_regrown z2
  clear z0 z2
  clear hL hl hJ hAt ex eW
  go_enter Tryd.func21, Tryd.ntmps21
  go_upto_region 15 with (fail)
  rw [← HW.out]
  refine wp_region_quiet_tail 6 (by kernel_rfl) (by kernel_rfl) (by kernel_rfl) (by kernel_rfl) (by kernel_rfl) ?_
  simp only [List.take_succ_cons, List.take_zero, List.drop_succ_cons, List.drop_zero]
  repeat (go_big_quiet_step (first | with_reducible exact cT _ _))
  refine wpQuiet_nil ?_
  intro w' hw'
  obtain ⟨⟨dq, osq⟩, hw''⟩ := hw'
  subst hw''
  have hfin := below_regrown W dq osq
  generalize hWq : grow (redrawn W dq) osq = Wa at hfin ⊢
  have hC := ofOneM_any 9 x B1 B2 d1 d2 Wa (HJ.out.on hfin)
  rw [eR] at hC
  clear k0 k2 cT hWq
  go_wp2_with fail
  refine hC.mono ?_
  rintro e wE ⟨u, rfl, hJE, hb2⟩
  clear hC
  have hbE := below_more hfin hb2
  obtain ⟨C1, f1, C2, f2, rfl⟩ := hJE.form
  have HJE := Lib.hid hJE
  clear hJE hfin hb2
  have hbw := below_more HBW.out hbE
  have hlE := HL0.out.below hbE HL0.out.lt
  have HQ : Hid (ValE (fun b => ok b ∨ w.heap.size ≤ b) R w (.returned (jv R.kind R.bool R.int (strOf R.text) (.slice C1 R.names.length f1) (.slice C2 R.list.length f2))) (put6 wE (w.heap.size + 2) (.int .i64 R.kind) (.bool R.bool) (.int .i64 R.int) (.string (strOf R.text)) (.slice C1 R.names.length f1) (.slice C2 R.list.length f2))) := valE_put (ok' := (fun b => ok b ∧ b < w.heap.size)) (Nat.le_add_right _ 2) hbw (fun b hb => ⟨.inl hb.1, by have := hb.2; omega⟩) HJE.out
  have hlf : Lies (put6 wE (w.heap.size + 2) (.int .i64 R.kind) (.bool R.bool) (.int .i64 R.int) (.string (strOf R.text)) (.slice C1 R.names.length f1) (.slice C2 R.list.length f2)) (w.heap.size + 2) 27 [.int .i64 R.kind, .bool R.bool, .int .i64 R.int, .string (strOf R.text), (.slice C1 R.names.length f1), (.slice C2 R.list.length f2)] := hlE.put6
  obtain ⟨⟨q0, q1, q2, q3, q4, q5⟩, _⟩ := hlf.six
  obtain ⟨⟨r0, r1, r2, r3, r4, r5⟩, g0, g1, g2, g3, g4, g5⟩ := hlE.six
  clear hbE hbw hlE hlf hl0 hlv hln hbW hsW eR
  go_wp2
  exact bodyPost_ret (by simp [results, Tryd.results21, go_sem, q0, q1, q2, q3, q4, q5]) rfl HQ.out
set_option maxHeartbeats 2000000 in
set_option maxRecDepth 100000 in
theorem ofM_one13 {ok : Nat → Prop} {R : Jq.J} (int a b : Int) (t : List Nat) (A : Option Addr) (n c : Nat) (v : Jq.J) (V1 V2 : Option Addr) (e1 e2 : Nat) (w : World) {okR : Nat → Prop} (l : List Jq.J) (hL : ListE w okR ok (.slice A n c) l) (hl : l.length = n) (eR : Mq.ofOne 13 (Mq.at_ l a) = R) :
    Calls Tryd.prog 21 #[.slice A n c, .agg #[.int .i64 13, .int .i64 int, .int .i64 a, .int .i64 b, .string (strOf t)], jv v.kind v.bool v.int (strOf v.text) (.slice V1 v.names.length e1) (.slice V2 v.list.length e2)] w (ValE (fun b => ok b ∨ w.heap.size ≤ b) R w) := by
  obtain ⟨W, eW⟩ : ∃ W, W = ((w.alloc (nbox 13 int a b t)).alloc (jbox v V1 e1 V2 e2)).alloc zobjD := ⟨_, rfl⟩
  have hbW : Below w.heap.size w W := by rw [eW]; exact (below_new2 _ _ _).alloc (by simp; omega) _
  have hsW : W.heap.size = w.heap.size + 3 := by rw [eW]; simp
  have hl0 : Lies W (w.heap.size + 2) 27 zero6 := by rw [eW]; exact Lies.new_ (by simp)
  have hlv : Lies W (w.heap.size + 1) 27 [.int .i64 v.kind, .bool v.bool, .int .i64 v.int, .string (strOf v.text), .slice V1 v.names.length e1, .slice V2 v.list.length e2] := by rw [eW]; exact (Lies.new_ (by simp)).alloc _
  have hln : Lies W w.heap.size 44 [.int .i64 13, .int .i64 int, .int .i64 a, .int .i64 b, .string (strOf t)] := by rw [eW]; exact ((Lies.new_ rfl).alloc _).alloc _
  have HBW := Lib.hid hbW
  have HSW := Lib.hid hsW
  have HL0 := Lib.hid hl0
  have HLN := Lib.hid hln
  have HLV := Lib.hid hlv
  have HW := Lib.hid eW
  obtain ⟨B1, B2, d1, d2, hJ, hAt⟩ := atM_known l A n c a W (hL.in_.on hbW) hl
  obtain ⟨x, ex⟩ : ∃ x, Mq.at_ l a = x := ⟨_, rfl⟩
  rw [ex] at hJ hAt eR
  have HR := Lib.hid eR
  have HJ := Lib.hid hJ
  have cT : ∀ d os, Calls Tryd.prog 22 #[.slice A n c, .int .i64 a] (grow (redrawn W d) os) fun e w2 => e = .returned (jv x.kind x.bool x.int (strOf x.text) (.slice B1 x.names.length d1) (.slice B2 x.list.length d2)) ∧ ∃ r : Regrown, w2 = grow (redrawn W r.d) r.os := fun d os => Calls.regrown_of (hAt _ (below_regrown W d os))
  have z0 : W.cell? ⟨w.heap.size, 0, none⟩ = some (.int .i64 13) := hln.cell 0
  have z2 : W.cell? ⟨w.heap.size, 2, none⟩ = some (.int .i64 a) := hln.cell 2
  have k0 := cell_regrown z0
  have k2 := cell_regrown z2
  clear z0 z2
  clear hL hl hJ hAt ex eW
  go_enter Tryd.func21, Tryd.ntmps21
  go_upto_region 15 with (fail)
  rw [← HW.out]
  refine wp_region_quiet_tail 6 (by kernel_rfl) (by kernel_rfl) (by kernel_rfl) (by kernel_rfl) (by kernel_rfl) ?_
  simp only [List.take_succ_cons, List.take_zero, List.drop_succ_cons, List.drop_zero]
  repeat (go_big_quiet_step (first | with_reducible exact cT _ _))
  refine wpQuiet_nil ?_
  intro w' hw'
  obtain ⟨⟨dq, osq⟩, hw''⟩ := hw'
  subst hw''
  have hfin := below_regrown W dq osq
  generalize hWq : grow (redrawn W dq) osq = Wa at hfin ⊢
  have hC := ofOneM_any 13 x B1 B2 d1 d2 Wa (HJ.out.on hfin)
  rw [eR] at hC
  clear k0 k2 cT hWq
  go_wp2_with fail
  refine hC.mono ?_
  rintro e wE ⟨u, rfl, hJE, hb2⟩
  clear hC
  have hbE := below_more hfin hb2
  obtain ⟨C1, f1, C2, f2, rfl⟩ := hJE.form
  have HJE := Lib.hid hJE
  clear hJE hfin hb2
  have hbw := below_more HBW.out hbE
  have hlE := HL0.out.below hbE HL0.out.lt
  have HQ : Hid (ValE (fun b => ok b ∨ w.heap.size ≤ b) R w (.returned (jv R.kind R.bool R.int (strOf R.text) (.slice C1 R.names.length f1) (.slice C2 R.list.length f2))) (put6 wE (w.heap.size + 2) (.int .i64 R.kind) (.bool R.bool) (.int .i64 R.int) (.string (strOf R.text)) (.slice C1 R.names.length f1) (.slice C2 R.list.length f2))) := valE_put (ok' := (fun b => ok b ∧ b < w.heap.size)) (Nat.le_add_right _ 2) hbw (fun b hb => ⟨.inl hb.1, by have := hb.2; omega⟩) HJE.out
  have hlf : Lies (put6 wE (w.heap.size + 2) (.int .i64 R.kind) (.bool R.bool) (.int .i64 R.int) (.string (strOf R.text)) (.slice C1 R.names.length f1) (.slice C2 R.list.length f2)) (w.heap.size + 2) 27 [.int .i64 R.kind, .bool R.bool, .int .i64 R.int, .string (strOf R.text), (.slice C1 R.names.length f1), (.slice C2 R.list.length f2)] := hlE.put6
  obtain ⟨⟨q0, q1, q2, q3, q4, q5⟩, _⟩ := hlf.six
  obtain ⟨⟨r0, r1, r2, r3, r4, r5⟩, g0, g1, g2, g3, g4, g5⟩ := hlE.six
  clear hbE hbw hlE hlf hl0 hlv hln hbW hsW eR
  go_wp2
  exact bodyPost_ret (by simp [results, Tryd.results21, go_sem, q0, q1, q2, q3, q4, q5]) rfl HQ.out
set_option maxHeartbeats 2000000 in
set_option maxRecDepth 100000 in
theorem ofM_off {ok : Nat → Prop} {R : Jq.J} (op : Int) (int a b : Int) (t : List Nat) (A : Option Addr) (n c : Nat) (v : Jq.J) (V1 V2 : Option Addr) (e1 e2 : Nat) (w : World) (p1 : ¬ op = 1) (p2 : ¬ op = 2) (p3 : ¬ op = 3) (p4 : ¬ op = 4) (p6 : ¬ op = 6) (p7 : ¬ op = 7) (p8 : ¬ op = 8) (p9 : ¬ op = 9) (p13 : ¬ op = 13) (hh : ¬ ((0 ≤ a ∧ a < (n : Int)) ∧ (0 ≤ b ∧ b < (n : Int)))) (eR : Jq.nullJ = R) :
    Calls Tryd.prog 21 #[.slice A n c, .agg #[.int .i64 op, .int .i64 int, .int .i64 a, .int .i64 b, .string (strOf t)], jv v.kind v.bool v.int (strOf v.text) (.slice V1 v.names.length e1) (.slice V2 v.list.length e2)] w (ValE (fun b => ok b ∨ w.heap.size ≤ b) R w) := by
  obtain ⟨W, eW⟩ : ∃ W, W = ((w.alloc (nbox op int a b t)).alloc (jbox v V1 e1 V2 e2)).alloc zobjD := ⟨_, rfl⟩
  have hbW : Below w.heap.size w W := by rw [eW]; exact (below_new2 _ _ _).alloc (by simp; omega) _
  have hsW : W.heap.size = w.heap.size + 3 := by rw [eW]; simp
  have hl0 : Lies W (w.heap.size + 2) 27 zero6 := by rw [eW]; exact Lies.new_ (by simp)
  have hlv : Lies W (w.heap.size + 1) 27 [.int .i64 v.kind, .bool v.bool, .int .i64 v.int, .string (strOf v.text), .slice V1 v.names.length e1, .slice V2 v.list.length e2] := by rw [eW]; exact (Lies.new_ (by simp)).alloc _
  have hln : Lies W w.heap.size 44 [.int .i64 op, .int .i64 int, .int .i64 a, .int .i64 b, .string (strOf t)] := by rw [eW]; exact ((Lies.new_ rfl).alloc _).alloc _
  have HBW := Lib.hid hbW
  have HSW := Lib.hid hsW
  have HL0 := Lib.hid hl0
  have HLN := Lib.hid hln
  have HLV := Lib.hid hlv
  have HW := Lib.hid eW
  have HR := Lib.hid eR
  have hC := hasM_any A n c a W
  rw [eW] at hC
  by_cases ha : 0 ≤ a ∧ a < (n : Int)
  · have hb : ¬ (0 ≤ b ∧ b < (n : Int)) := fun g => hh ⟨ha, g⟩
    rw [decide_eq_true ha] at hC
    have HNB := Lib.hid (decide_eq_false hb)
    clear ha hb hh
    go_enter Tryd.func21, Tryd.ntmps21
    go_wp2_with fail
    refine hC.mono ?_
    rintro e w1 ⟨hb1, rfl⟩
    clear hC
    rw [← HW.out] at hb1
    have hD := hasM_any A n c b w1
    rw [HNB.out] at hD
    have k3 := (HLN.out.below hb1 HLN.out.lt).cell 3
    simp only [List.getElem?_cons_zero, List.getElem?_cons_succ] at k3
    go_wp2_with fail
    refine hD.mono ?_
    rintro e wE ⟨hb2, rfl⟩
    clear hD k3
    have hbE := below_more hb1 hb2
    clear hb1 hb2
    have hbw := below_more HBW.out hbE
    have hlE := HL0.out.below hbE HL0.out.lt
    have HQ : Hid (ValE (fun b => ok b ∨ w.heap.size ≤ b) R w (.returned (jv 0 false 0 { data := #[] } nilS nilS)) (put6 wE (w.heap.size + 2) (.int .i64 0) (.bool false) (.int .i64 0) (.string { data := #[] }) nilS nilS)) := valE_put (ok' := (fun _ => False)) (Nat.le_add_right _ 2) hbw (fun _ h => h.elim) (by rw [← HR.out]; exact isJ_null _ _)
    have hlf : Lies (put6 wE (w.heap.size + 2) (.int .i64 0) (.bool false) (.int .i64 0) (.string { data := #[] }) nilS nilS) (w.heap.size + 2) 27 [.int .i64 0, .bool false, .int .i64 0, .string { data := #[] }, nilS, nilS] := hlE.put6
    obtain ⟨⟨q0, q1, q2, q3, q4, q5⟩, _⟩ := hlf.six
    obtain ⟨⟨r0, r1, r2, r3, r4, r5⟩, g0, g1, g2, g3, g4, g5⟩ := hlE.six
    clear hbE hbw hlE hlf hl0 hlv hln hbW hsW eW eR
    go_wp2
    exact bodyPost_ret (by simp [results, Tryd.results21, go_sem, q0, q1, q2, q3, q4, q5]) rfl HQ.out
  · rw [decide_eq_false ha] at hC
    clear ha hh
    go_enter Tryd.func21, Tryd.ntmps21
    go_wp2_with fail
    refine hC.mono ?_
    rintro e wE ⟨hbE, rfl⟩
    clear hC
    rw [← HW.out] at hbE
    have hbw := below_more HBW.out hbE
    have hlE := HL0.out.below hbE HL0.out.lt
    have HQ : Hid (ValE (fun b => ok b ∨ w.heap.size ≤ b) R w (.returned (jv 0 false 0 { data := #[] } nilS nilS)) (put6 wE (w.heap.size + 2) (.int .i64 0) (.bool false) (.int .i64 0) (.string { data := #[] }) nilS nilS)) := valE_put (ok' := (fun _ => False)) (Nat.le_add_right _ 2) hbw (fun _ h => h.elim) (by rw [← HR.out]; exact isJ_null _ _)
    have hlf : Lies (put6 wE (w.heap.size + 2) (.int .i64 0) (.bool false) (.int .i64 0) (.string { data := #[] }) nilS nilS) (w.heap.size + 2) 27 [.int .i64 0, .bool false, .int .i64 0, .string { data := #[] }, nilS, nilS] := hlE.put6
    obtain ⟨⟨q0, q1, q2, q3, q4, q5⟩, _⟩ := hlf.six
    obtain ⟨⟨r0, r1, r2, r3, r4, r5⟩, g0, g1, g2, g3, g4, g5⟩ := hlE.six
    clear hbE hbw hlE hlf hl0 hlv hln hbW hsW eW eR
    go_wp2
    exact bodyPost_ret (by simp [results, Tryd.results21, go_sem, q0, q1, q2, q3, q4, q5]) rfl HQ.out
set_option maxHeartbeats 2000000 in
set_option maxRecDepth 100000 in
theorem ofM_two {ok : Nat → Prop} {R : Jq.J} (op : Int) (int a b : Int) (t : List Nat) (A : Option Addr) (n c : Nat) (v : Jq.J) (V1 V2 : Option Addr) (e1 e2 : Nat) (w : World) (p1 : ¬ op = 1) (p2 : ¬ op = 2) (p3 : ¬ op = 3) (p4 : ¬ op = 4) (p6 : ¬ op = 6) (p7 : ¬ op = 7) (p8 : ¬ op = 8) (p9 : ¬ op = 9) (p13 : ¬ op = 13) (S : Mq.Same) (l : List Jq.J) (i j : Nat) (hi : a = (i : Int)) (hj : b = (j : Int)) (hin : i < n) (hjn : j < n) {okR : Nat → Prop} (hL : ListE w okR ok (.slice A n c) l) (hl : l.length = n) (eR : Mq.ofTwo S op (Mq.at_ l a) (Mq.at_ l b) = R) :
    Calls Tryd.prog 21 #[.slice A n c, .agg #[.int .i64 op, .int .i64 int, .int .i64 a, .int .i64 b, .string (strOf t)], jv v.kind v.bool v.int (strOf v.text) (.slice V1 v.names.length e1) (.slice V2 v.list.length e2)] w (ValE (fun b => ok b ∨ w.heap.size ≤ b) R w) := by
  obtain ⟨W, eW⟩ : ∃ W, W = ((w.alloc (nbox op int a b t)).alloc (jbox v V1 e1 V2 e2)).alloc zobjD := ⟨_, rfl⟩
  have hbW : Below w.heap.size w W := by rw [eW]; exact (below_new2 _ _ _).alloc (by simp; omega) _
  have hsW : W.heap.size = w.heap.size + 3 := by rw [eW]; simp
  have hl0 : Lies W (w.heap.size + 2) 27 zero6 := by rw [eW]; exact Lies.new_ (by simp)
  have hlv : Lies W (w.heap.size + 1) 27 [.int .i64 v.kind, .bool v.bool, .int .i64 v.int, .string (strOf v.text), .slice V1 v.names.length e1, .slice V2 v.list.length e2] := by rw [eW]; exact (Lies.new_ (by simp)).alloc _
  have hln : Lies W w.heap.size 44 [.int .i64 op, .int .i64 int, .int .i64 a, .int .i64 b, .string (strOf t)] := by rw [eW]; exact ((Lies.new_ rfl).alloc _).alloc _
  have HBW := Lib.hid hbW
  have HSW := Lib.hid hsW
  have HL0 := Lib.hid hl0
  have HLN := Lib.hid hln
  have HLV := Lib.hid hlv
  have HW := Lib.hid eW
  have hin2 : 0 ≤ a ∧ a < (n : Int) := by omega
  have hjn2 : 0 ≤ b ∧ b < (n : Int) := by omega
  obtain ⟨bl, off, x, X1, x1, X2, x2, rfl, _, hblt, hx, hJx, hsx⟩ := hL.in_.elem (i := i) (by rw [hl]; exact hin)
  obtain ⟨bl2, off2, y, Y1, y1, Y2, y2, eA, _, hblt2, hy, hJy, hsy⟩ := hL.in_.elem (i := j) (by rw [hl]; exact hjn)
  injection eA with eA
  injection eA with ea eb
  subst ea eb
  subst hi hj
  rw [Mq.at_some hx, Mq.at_some hy] at eR
  have HR := Lib.hid eR
  have HJX := Lib.hid hJx
  have HJY := Lib.hid hJy
  have HSX := Lib.hid hsx
  have HSY := Lib.hid hsy
  have HLT := Lib.hid hblt
  have hC := hasM_any (some ⟨bl, off, none⟩) n c (i : Int) W
  rw [decide_eq_true hin2, eW] at hC
  have HDB := Lib.hid (decide_eq_true hjn2)
  clear hL hl hx hy hJx hJy hsx hsy hblt hblt2 hin2 hjn2
  have hii : (i : Int) < (n : Int) := by omega
  have hjj : (j : Int) < (n : Int) := by omega
  go_enter Tryd.func21, Tryd.ntmps21
  go_wp2_with fail
  refine hC.mono ?_
  rintro e w1 ⟨hb1, rfl⟩
  clear hC
  rw [← HW.out] at hb1
  have hD := hasM_any (some ⟨bl, off, none⟩) n c (j : Int) w1
  rw [HDB.out] at hD
  have k3 := (HLN.out.below hb1 HLN.out.lt).cell 3
  simp only [List.getElem?_cons_zero, List.getElem?_cons_succ] at k3
  go_wp2_with fail
  refine hD.mono ?_
  rintro e w2 ⟨hb2, rfl⟩
  clear hD k3
  have hb3 := below_more hb1 hb2
  have hbw2 := below_more HBW.out hb3
  have HB3 := Lib.hid hb3
  obtain ⟨s0, s1, s2, s3, s4, s5⟩ := HSX.out.on HLT.out hbw2
  obtain ⟨t0, t1, t2, t3, t4, t5⟩ := HSY.out.on HLT.out hbw2
  have n0 : w2.cell? ⟨w.heap.size, 0, none⟩ = some (.int .i64 op) := (HLN.out.below hb3 HLN.out.lt).cell 0
  have n2 : w2.cell? ⟨w.heap.size, 2, none⟩ = some (.int .i64 (i : Int)) := (HLN.out.below hb3 HLN.out.lt).cell 2
  have n3 : w2.cell? ⟨w.heap.size, 3, none⟩ = some (.int .i64 (j : Int)) := (HLN.out.below hb3 HLN.out.lt).cell 3
  have ks0 := cell_regrown s0
  have ks1 := cell_regrown s1
  have ks2 := cell_regrown s2
  have ks3 := cell_regrown s3
  have ks4 := cell_regrown s4
  have ks5 := cell_regrown s5
  have kt0 := cell_regrown t0
  have kt1 := cell_regrown t1
  have kt2 := cell_regrown t2
  have kt3 := cell_regrown t3
  have kt4 := cell_regrown t4
  have kt5 := cell_regrown t5
  have kn0 := cell_regrown n0
  have kn2 := cell_regrown n2
  have kn3 := cell_regrown n3
  clear s0 s1 s2 s3 s4 s5 t0 t1 t2 t3 t4 t5 n0 n2 n3 hb1 hb2 hb3 hbw2
  go_upto_region 18 with (fail)
  refine wp_region_quiet_tail 12 (by kernel_rfl) (by kernel_rfl) (by kernel_rfl) (by kernel_rfl) (by kernel_rfl) ?_
  simp only [List.take_succ_cons, List.take_zero, List.drop_succ_cons, List.drop_zero]
  repeat (go_big_quiet_step (fail))
  refine wpQuiet_nil ?_
  intro w' hw'
  obtain ⟨⟨dq, osq⟩, hw''⟩ := hw'
  subst hw''
  have hfin := below_regrown w2 dq osq
  generalize hWq : grow (redrawn w2 dq) osq = Wa at hfin ⊢
  have hb4 := below_more HB3.out hfin
  have hC := ofTwoM_any S op x y X1 X2 Y1 Y2 x1 x2 y1 y2 Wa (HJX.out.on (below_more HBW.out hb4)) (HJY.out.on (below_more HBW.out hb4))
  rw [eR] at hC
  clear ks0 ks1 ks2 ks3 ks4 ks5 kt0 kt1 kt2 kt3 kt4 kt5 kn0 kn2 kn3 hWq hfin
  go_wp2_with fail
  refine hC.mono ?_
  rintro e wE ⟨u, rfl, hJE, hb5⟩
  clear hC
  have hbE := below_more hb4 hb5
  obtain ⟨C1, f1, C2, f2, rfl⟩ := hJE.form
  have HJE := Lib.hid hJE
  clear hJE hb4 hb5
  have hbw := below_more HBW.out hbE
  have hlE := HL0.out.below hbE HL0.out.lt
  have HQ : Hid (ValE (fun b => ok b ∨ w.heap.size ≤ b) R w (.returned (jv R.kind R.bool R.int (strOf R.text) (.slice C1 R.names.length f1) (.slice C2 R.list.length f2))) (put6 wE (w.heap.size + 2) (.int .i64 R.kind) (.bool R.bool) (.int .i64 R.int) (.string (strOf R.text)) (.slice C1 R.names.length f1) (.slice C2 R.list.length f2))) := valE_put (ok' := (fun b => ok b ∧ b < w.heap.size)) (Nat.le_add_right _ 2) hbw (fun b hb => ⟨.inl hb.1, by have := hb.2; omega⟩) HJE.out
  have hlf : Lies (put6 wE (w.heap.size + 2) (.int .i64 R.kind) (.bool R.bool) (.int .i64 R.int) (.string (strOf R.text)) (.slice C1 R.names.length f1) (.slice C2 R.list.length f2)) (w.heap.size + 2) 27 [.int .i64 R.kind, .bool R.bool, .int .i64 R.int, .string (strOf R.text), (.slice C1 R.names.length f1), (.slice C2 R.list.length f2)] := hlE.put6
  obtain ⟨⟨q0, q1, q2, q3, q4, q5⟩, _⟩ := hlf.six
  obtain ⟨⟨r0, r1, r2, r3, r4, r5⟩, g0, g1, g2, g3, g4, g5⟩ := hlE.six
  clear hbE hbw hlE hlf hl0 hlv hln hbW hsW eW eR
  go_wp2
  exact bodyPost_ret (by simp [results, Tryd.results21, go_sem, q0, q1, q2, q3, q4, q5]) rfl HQ.out
theorem ofM_any (S : Mq.Same) {okR ok okv : Nat → Prop} (nd : Zq.Nd) (l : List Jq.J) (A : Option Addr) (n c : Nat) (v : Jq.J) (V1 V2 : Option Addr) (e1 e2 : Nat) (w : World) (hL : ListE w okR ok (.slice A n c) l) (hl : l.length = n) (ht : nd.text.length ≤ 140737488355328 ∧ ∀ x ∈ nd.text, x < 256) (hi : -9223372036854775808 ≤ nd.int ∧ nd.int ≤ 9223372036854775807) (hV : IsJ w okv (jv v.kind v.bool v.int (strOf v.text) (.slice V1 v.names.length e1) (.slice V2 v.list.length e2)) v) :
    Calls Tryd.prog 21 #[.slice A n c, .agg #[.int .i64 nd.op, .int .i64 nd.int, .int .i64 nd.a, .int .i64 nd.b, .string (strOf nd.text)], jv v.kind v.bool v.int (strOf v.text) (.slice V1 v.names.length e1) (.slice V2 v.list.length e2)] w (ValE (fun b => ok b ∨ w.heap.size ≤ b) (Mq.nodeV S v l nd) w) := by
  obtain ⟨op, int, a, b, t⟩ := nd
  simp only at ht hi
  unfold Mq.nodeV
  simp only
  by_cases h1 : op = 1
  · subst h1
    rw [if_pos rfl]
    exact ofM_text int a b t A n c v V1 V2 e1 e2 w ht rfl
  rw [if_neg h1]
  by_cases h2 : op = 2
  · subst h2
    rw [if_pos rfl]
    exact ofM_int int a b t A n c v V1 V2 e1 e2 w hi rfl
  rw [if_neg h2]
  by_cases h3 : op = 3
  · subst h3
    rw [if_pos rfl]
    exact ofM_claim int a b t A n c v V1 V2 e1 e2 w ht hV rfl
  rw [if_neg h3]
  by_cases h4 : op = 4
  · subst h4
    rw [if_pos rfl]
    exact ofM_has int a b t A n c v V1 V2 e1 e2 w ht hV rfl
  rw [if_neg h4]
  by_cases ho : Mq.One op
  · rw [if_pos ho]
    rcases ho with rfl | rfl | rfl | rfl | rfl
    · exact ofM_one6 int a b t A n c v V1 V2 e1 e2 w l hL hl rfl
    · exact ofM_one7 int a b t A n c v V1 V2 e1 e2 w l hL hl rfl
    · exact ofM_one8 int a b t A n c v V1 V2 e1 e2 w l hL hl rfl
    · exact ofM_one9 int a b t A n c v V1 V2 e1 e2 w l hL hl rfl
    · exact ofM_one13 int a b t A n c v V1 V2 e1 e2 w l hL hl rfl
  rw [if_neg ho]
  have p6 : ¬ op = 6 := fun e => ho (.inl e)
  have p7 : ¬ op = 7 := fun e => ho (.inr (.inl e))
  have p8 : ¬ op = 8 := fun e => ho (.inr (.inr (.inl e)))
  have p9 : ¬ op = 9 := fun e => ho (.inr (.inr (.inr (.inl e))))
  have p13 : ¬ op = 13 := fun e => ho (.inr (.inr (.inr (.inr e))))
  by_cases hh : Mq.has l a ∧ Mq.has l b
  · rw [if_pos hh]
    unfold Mq.has at hh
    rw [hl] at hh
    exact ofM_two op int a b t A n c v V1 V2 e1 e2 w h1 h2 h3 h4 p6 p7 p8 p9 p13 S l a.toNat b.toNat (by omega) (by omega) (by omega) (by omega) hL hl rfl
  · rw [if_neg hh]
    unfold Mq.has at hh
    rw [hl] at hh
    exact ofM_off op int a b t A n c v V1 V2 e1 e2 w h1 h2 h3 h4 p6 p7 p8 p9 p13 hh rfl
end Go.Proofs.YtnbaajdcakjlmaaDoor
