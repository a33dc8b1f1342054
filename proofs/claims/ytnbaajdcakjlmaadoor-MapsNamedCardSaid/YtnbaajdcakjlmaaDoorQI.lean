/-
  QI: JAdd JComma JValid JQuoted JWList JWMembers JWValue JPrint, side by side.
-/
import Derived.Test.YtnbaajdcakjlmaaDoorQB
import Derived.Test.YtnbaajdcakjlmaaDoorQA
import Derived.Lib.AppendStr
import Derived.Test.YtnbaajdcakjlmaaDoorQV
import Derived.Shelf.Unicode.ValidAny
import Derived.Test.YtnbaajdcakjlmaaDoorQS
import Derived.Test.YtnbaajdcakjlmaaDoorQD

/-
  A writer in memory; the writer's add and comma.
-/
namespace Go.Proofs.YtnbaajdcakjlmaaDoor
open Go.RowKit

/-- A writer in memory: what it has written. -/
def Wr (Wb : Nat) (A : List Nat) (w : World) : Prop :=
  ∃ tv, Lies w Wb 87 [tv] ∧ w.ownsRow (Wb + 1) 5 1 tv A.length (u8s A) ∧ (∀ x ∈ A, x < 256) ∧ A.length ≤ 4096
theorem Wr.lt {Wb : Nat} {A : List Nat} {w : World} (h : Wr Wb A w) : Wb < w.heap.size := by
  obtain ⟨_, h, _⟩ := h
  exact h.lt
theorem Wr.keep {Wb : Nat} {A : List Nat} {w w' : World} (h : Wr Wb A w) (hb : Below w.heap.size w w') : Wr Wb A w' := by
  obtain ⟨tv, h1, h2, h3, h4⟩ := h
  exact ⟨tv, h1.below hb h1.lt, own_below h2 hb, h3, h4⟩
theorem Wr.alloc {Wb : Nat} {A : List Nat} {w : World} (h : Wr Wb A w) (o : Obj) : Wr Wb A (w.alloc o) := h.keep ((Below.refl _ _).alloc (Nat.le_refl _) o)
/-- What a step of the writer may change: its own block, what lies above it, and of that no block that holds other things than bytes. -/
structure Stays (Wb : Nat) (w w' : World) : Prop where
  below : Below Wb w w'
  size : w.heap.size ≤ w'.heap.size
  lies : ∀ k t cs, t ≠ 5 → k ≠ Wb → Lies w k t cs → Lies w' k t cs
theorem Stays.refl (Wb : Nat) (w : World) : Stays Wb w w := ⟨Below.refl _ _, Nat.le_refl _, fun _ _ _ _ _ h => h⟩
theorem Stays.trans {Wb : Nat} {w w1 w2 : World} (h1 : Stays Wb w w1) (h2 : Stays Wb w1 w2) : Stays Wb w w2 :=
  ⟨h1.below.trans h2.below, Nat.le_trans h1.size h2.size, fun k t cs a b h => h2.lies k t cs a b (h1.lies k t cs a b h)⟩
theorem Stays.of_below {Wb : Nat} {w w' : World} (h : Below w.heap.size w w') (hw : Wb ≤ w.heap.size) : Stays Wb w w' :=
  ⟨h.mono hw, h.size, fun _ _ _ _ _ hl => hl.below h hl.lt⟩
theorem Stays.alloc {Wb : Nat} {w w' : World} (h : Stays Wb w w') (hw : Wb ≤ w'.heap.size) (o : Obj) : Stays Wb w (w'.alloc o) :=
  h.trans (Stays.of_below ((Below.refl _ _).alloc (Nat.le_refl _) o) hw)
theorem Stays.set {Wb : Nat} {w w' : World} (h : Stays Wb w w') (i : Nat) (v : Value) : Stays Wb w (w'.setCell ⟨Wb, i, none⟩ v) :=
  h.trans ⟨(Below.refl Wb w').setCell (p := ⟨Wb, i, none⟩) (Nat.le_refl Wb) v, by simp [World.setCell], fun k t cs _ hk hl => (Below.heap_setCell _ _ _ _ hk).trans hl⟩
theorem Stays.row {Wb base : Nat} {w w' : World} {v : Value} {n : Nat} {xs : List Value} (ho : w.ownsRow base 5 1 v n xs) (hg : w.grownBy w' v.ownBlock) (hb : Wb ≤ base) (hw : Wb ≤ w.heap.size) : Stays Wb w w' :=
  ⟨(Below.refl _ _).grown hg hw (fun k e => Nat.le_trans hb (ho.lt k e).1), hg.size, fun k t cs ht _ hl => hl.grown hg (fun e => by
    rcases ho.2 with ⟨rfl, _⟩ | ⟨g, cap, cur, rfl, _, hg, _⟩
    · cases e
    · have hk : k = g := by simpa [Value.ownBlock] using e
      subst hk
      have := hl.symm.trans hg
      injection this with this
      injection this with _ h2 _
      exact ht h2)⟩
/-- How a step of the writer ends. -/
def WEnd (Wb : Nat) (w : World) (res : Option (List Nat)) (e : Ending) (w' : World) : Prop :=
  Stays Wb w w' ∧ match res with
  | some A => e = .returned (.bool true) ∧ Wr Wb A w'
  | none => e = .returned (.bool false)
theorem WEnd.yes {Wb : Nat} {w w' : World} {res : Option (List Nat)} {A : List Nat} (h : res = some A) (hb : Stays Wb w w') (hw : Wr Wb A w') : WEnd Wb w res (.returned (.bool true)) w' := by
  rw [h]; exact ⟨hb, rfl, hw⟩
theorem WEnd.no {Wb : Nat} {w w' : World} {res : Option (List Nat)} (h : res = none) (hb : Stays Wb w w') : WEnd Wb w res (.returned (.bool false)) w' := by
  rw [h]; exact ⟨hb, rfl⟩
theorem WEnd.after {Wb : Nat} {w w1 w' : World} {res : Option (List Nat)} {e : Ending} (h : WEnd Wb w1 res e w') (hb : Stays Wb w w1) : WEnd Wb w res e w' := ⟨hb.trans h.1, h.2⟩
theorem WEnd.cases {Wb : Nat} {w w' : World} {res : Option (List Nat)} {e : Ending} (h : WEnd Wb w res e w') :
    (∃ A, res = some A ∧ e = .returned (.bool true) ∧ Wr Wb A w' ∧ Stays Wb w w') ∨ (res = none ∧ e = .returned (.bool false) ∧ Stays Wb w w') := by
  obtain ⟨hb, h⟩ := h
  split at h
  · exact .inl ⟨_, rfl, h.1, h.2, hb⟩
  · exact .inr ⟨rfl, h, hb⟩
theorem str_cells (s : ByteArray) : s.data.toList.map (fun b : UInt8 => Value.int .u8 (b.toNat : Int)) = u8s (numsOf s) := by
  unfold u8s numsOf
  rw [List.map_map]
  rfl

set_option maxRecDepth 100000 in
set_option maxHeartbeats 2000000 in
theorem add_any (Wb : Nat) (A : List Nat) (s : ByteArray) (hs : s.size ≤ 140737488355328) (w : World) (h : Wr Wb A w) :
    Calls Tryd.prog 58 #[.pointer (some ⟨Wb, 0, none⟩), .string s] w fun e w' => WEnd Wb w (Jq.addP A (numsOf s)) e w' := by
  obtain ⟨tv, h1, h2, h3, h4⟩ := h
  obtain ⟨A0, cap, rfl⟩ := own_slice h2
  have c0 := h1.cell 0
  have f0 := h1.free 0
  by_cases hl : A.length + s.size ≤ 4096
  · have hd : decide ((4096 : Int) < (A.length : Int) + (s.size : Int)) = false := decide_eq_false (by omega)
    have HP : Hid (Jq.addP A (numsOf s) = some (A ++ numsOf s)) := Jq.addP_yes (by rw [numsOf_length]; exact hl)
    go_enter Tryd.func58, Tryd.ntmps58
    repeat ((fail_if_success (with_reducible show wpList _ _ _ (⟨some 20, _, _, _, _, _⟩ :: _) _ _)); first | go_values | go_skip | go_guarded | go_step | go_upon | go_back | go_simp)
    obtain ⟨i0, hi, hz0, hz1, hz2⟩ := info_parts infoByte
    with_reducible refine Lib.wpList_append_own_string _ rfl (.tmp 18) (.tmp 19) 85 9 rfl (Wb + 1) 5 i0 Tryd.underlying85 Tryd.underlying9 hi hz0 hz1 hz2 (.slice A0 A.length cap) A.length (u8s A) ?r1 h2 s ?r2 ?r3 ?r4 ?r5 ?r6
    case r1 => rfl
    case r2 => rfl
    case r3 => unfold maxLen; omega
    case r4 => omega
    case r5 => exact h1.lt
    case r6 =>
      intro v' w' hown hgr hnil
      clear hnil
      obtain ⟨A1, cap1, rfl⟩ := own_slice hown
      have hlt := h2.lt
      have hl2 : Lies w' Wb 87 [.slice A0 A.length cap] := h1.grown hgr (fun e => by have := (hlt Wb e.symm).1; omega)
      have c2 := hl2.cell 0
      have f2 := hl2.free 0
      have hb : Stays Wb w w' := Stays.row h2 hgr (Nat.le_succ _) (Nat.le_of_lt h1.lt)
      have HF : Hid (∀ w3, w3 = w'.setCell ⟨Wb, 0, none⟩ (.slice A1 (A.length + s.size) cap1) → WEnd Wb w (Jq.addP A (numsOf s)) (.returned (.bool true)) w3) := fun w3 e => by
        subst e
        refine WEnd.yes HP.out (hb.set _ _) ⟨.slice A1 (A.length + s.size) cap1, by have := hl2.put 0 (.slice A1 (A.length + s.size) cap1); simpa using this, ?_, ?_, by rw [List.length_append, numsOf_length]; exact hl⟩
        · have e : u8s (A ++ numsOf s) = u8s A ++ Lib.strCells s := (u8s_append A (numsOf s)).trans (congrArg (u8s A ++ ·) (str_cells s).symm)
          rw [e, List.length_append, numsOf_length]
          exact own_far hown (fun k hk => Below.heap_setCell _ _ _ _ (by have := (hown.lt k hk).1; show k ≠ Wb; omega))
        · intro x hx
          rcases List.mem_append.1 hx with hx | hx
          · exact h3 x hx
          · exact numsOf_lt s x hx
      clear hown hgr hl2 hb c0 f0 h2 hs hl hd h3 h4 h1 HP hlt hi hz0 hz1 hz2 i0
      go_frame
      go_wp2
      first | (go_ret; exact HF.out _ rfl) | (go_end0; exact HF.out _ rfl) | (go_wp2; go_ret; exact HF.out _ rfl) | trace_state
  · have hd : decide ((4096 : Int) < (A.length : Int) + (s.size : Int)) = true := decide_eq_true (by omega)
    have HP : Hid (Jq.addP A (numsOf s) = none) := Jq.addP_no (by rw [numsOf_length]; exact hl)
    go_enter Tryd.func58, Tryd.ntmps58
    go_wp2
    go_ret
    exact WEnd.no HP.out (Stays.refl _ _)
end Go.Proofs.YtnbaajdcakjlmaaDoor

/-
  The writer's comma.
-/
namespace Go.Proofs.YtnbaajdcakjlmaaDoor
open Go.RowKit
set_option maxRecDepth 100000 in
set_option maxHeartbeats 1000000 in
theorem comma_any (Wb : Nat) (A : List Nat) (i : Nat) (w : World) (h : Wr Wb A w) :
    Calls Tryd.prog 68 #[.pointer (some ⟨Wb, 0, none⟩), .int .i64 (i : Int)] w fun e w' => WEnd Wb w (Jq.commaP A i) e w' := by
  by_cases h0 : i = 0
  · have HP : Hid (Jq.commaP A i = some A) := if_pos h0
    have ht : ((i : Int) == 0) = true := by rw [beq_iff_eq]; omega
    have HW := Lib.hid h
    clear h0 h
    go_enter Tryd.func68, Tryd.ntmps68
    go_wp2
    go_ret
    exact WEnd.yes HP.out (Stays.refl _ _) HW.out
  · have HP : Hid (Jq.commaP A i = Jq.addP A [44]) := if_neg h0
    have ht : ((i : Int) == 0) = false := by rw [beq_eq_false_iff_ne]; omega
    have hA := add_any Wb A { data := #[44] } (by decide) w h
    clear h0 h
    go_enter Tryd.func68, Tryd.ntmps68
    go_wp2_with fail
    refine hA.mono ?_
    intro e w1 hh
    clear hA
    rcases WEnd.cases hh with ⟨A1, hr, rfl, hw, hb⟩ | ⟨hr, rfl, hb⟩
    · have HE : Hid (WEnd Wb w (Jq.commaP A i) (.returned (.bool true)) w1) := WEnd.yes (HP.out.trans hr) hb hw
      clear hh hr hw hb HP
      go_wp2
      go_ret
      exact HE.out
    · have HE : Hid (WEnd Wb w (Jq.commaP A i) (.returned (.bool false)) w1) := WEnd.no (HP.out.trans hr) hb
      clear hh hr hb HP
      go_wp2
      go_ret
      exact HE.out
end Go.Proofs.YtnbaajdcakjlmaaDoor

/-
  The library's ValidString.
-/
namespace Go.Proofs.YtnbaajdcakjlmaaDoor
open Go.RowKit

theorem validString_any (s : ByteArray) (w : World) (hs : s.size ≤ 140737488355328) (hH : Held w) :
    Calls Tryd.prog 67 #[.string s] w fun e w' => e = .returned (.bool (Jq.valid (numsOf s))) ∧ Below w.heap.size w w' := by
  refine (Any.utf8_ValidString (P := Tryd.prog) (ρ := lays196_ren) lays196 s w (by omega) hH.2.2.2).mono fun e w' ⟨he, hb⟩ => ⟨?_, hb⟩
  rw [he, Jq.validD_valid _ _ (Nat.le_refl _)]
  rfl
end Go.Proofs.YtnbaajdcakjlmaaDoor

/-
  The writer's quoted.
-/
namespace Go.Proofs.YtnbaajdcakjlmaaDoor
open Go.RowKit

section
variable {ops : Array Oper} {o : Oper} {a : Act} {Q : Exit → Act → World → Prop} {w : World} {K : Act → World → Prop} {E : Prop}
/-- append of values that were just laid, in a region that draws its order. -/
theorem step_append_row (hgd : o.guard = none) (s x : Operand) (t e : TypeId) (z : Value) (size bytes : Nat)
    (ho : o.op = .call { callee := .builtin .append, args := #[s, x], argTypes := #[t, t] }) (ht : Tryd.prog.underlying t = some (.slice e))
    (hi : (Tryd.prog.info? e).map (fun i => (i.zero, i.size, i.bytes)) = some (some z, size, bytes)) (hz : z.cells.size = size) (hsz : 0 < size)
    (base : Nat) (v : Value) (n : Nat) (xs : List Value) (A : Addr) (m c : Nat) (us : List Value) (hown : w.ownsRow base e size v n xs) (hl : us.length = m * size) (hc : ∀ j u, us[j]? = some u → w.cell? (A.add j) = some u) (h1 : ∀ u ∈ us, u.oneCell' = true)
    (hs : a.eval s = v) (hx : a.eval x = .slice (some A) m c) (hb : (n + m) * bytes ≤ 140737488355328) (hm : n + m ≤ 140737488355328) (hbase : base ≤ w.heap.size)
    (hK : ∀ v' w', w'.ownsRow base e size v' (n + m) (xs ++ us) → w.grownBy w' v.ownBlock → K (a.put o.dst v') w') : if Region.wanted o (yielded ops a.tmps) = true then Oper.wp Tryd.prog o a w K Q else E := by
  have hw : Region.wanted o (yielded ops a.tmps) = true := by simp [Region.wanted, hgd]
  rw [if_pos hw]
  obtain ⟨i0, hi0, hz0, hz1, hz2⟩ := info_parts hi
  obtain ⟨v', w', hrun, h2, h3, _⟩ := run_append_own (P := Tryd.prog) w base t o.type e i0 z size bytes ht hi0 hz0 hz1 hz2 hz hsz v n xs hown A m c us hl hc h1 (by unfold maxLen; omega) hb hbase
  unfold Oper.wp
  simp [execOp, ho, resolve, invoke, builtin, hs, hx, hrun, Result.andThen]
  exact hK v' w' h2 h3
end
theorem own_drew {w : World} {base : Nat} {e : TypeId} {size n : Nat} {v : Value} {xs : List Value} (h : w.ownsRow base e size v n xs) : w.drew.ownsRow base e size v n xs := h
theorem grown_drew {w w' : World} {row : Option Nat} (h : w.drew.grownBy w' row) : w.grownBy w' row := ⟨h.os, h.tape, h.output, h.size, h.block⟩
theorem own_as {w : World} {base : Nat} {e : TypeId} {size n : Nat} {v : Value} {xs us vs : List Value} (h : w.ownsRow base e size v n (xs ++ us)) (hv : us = vs) : w.ownsRow base e size v n (xs ++ vs) := hv ▸ h
theorem new_drew (w : World) (cs : Array Value) (t : TypeId) (j : Nat) (u : Value) (h : cs.toList[j]? = some u) : (w.alloc (.cells cs t)).drew.cell? ((⟨w.heap.size, 0, none⟩ : Addr).add j) = some u := new_cells w cs t j u h
theorem six_bytes (a b c d e f : Int) : ∀ u ∈ (#[Value.int .u8 a, .int .u8 b, .int .u8 c, .int .u8 d, .int .u8 e, .int .u8 f] : Array Value).toList, u.oneCell' = true := by
  intro u hu
  simp at hu
  rcases hu with rfl | rfl | rfl | rfl | rfl | rfl <;> rfl
/-- The signs, as the program has them. -/
abbrev hexB : ByteArray := { data := #[48, 49, 50, 51, 52, 53, 54, 55, 56, 57, 97, 98, 99, 100, 101, 102] }
theorem hex_get : ∀ n, n < 16 → (hexB.data.toList[n]?).map (fun u : UInt8 => u.toNat) = some (Jq.hexl n) := by decide +kernel
theorem hex_at (i : Int) (n : Nat) (hi : i = n) (hn : n < 16) (p : i.toNat < hexB.size) : ((hexB[i.toNat]'p).toNat : Int) = ((Jq.hexl n : Nat) : Int) := by
  subst hi
  have hg := hex_get n hn
  have hn' : n < hexB.data.toList.length := hn
  rw [List.getElem?_eq_getElem hn'] at hg
  have hg' : (hexB.data.toList[n]).toNat = Jq.hexl n := by simpa using hg
  rw [← hg']
  rfl
theorem and15 (c : Nat) (hc : c < 256) : bits .and .u8 (c : Int) 15 = (c : Int) % 16 := by
  rw [show (15 : Int) = ((15 : Nat) : Int) from rfl, u8_and_nat _ _ hc (by decide), show (15 : Nat) = 2 ^ 4 - 1 from rfl, Nat.and_two_pow_sub_one_eq_mod]
  omega
theorem hexl_lt {n : Nat} (h : n < 16) : Jq.hexl n < 256 := by unfold Jq.hexl; split <;> omega
theorem q_take (S : List Nat) (k : Nat) (h : k < S.length) : (S.take (k + 1)).flatMap Jq.q1 = (S.take k).flatMap Jq.q1 ++ Jq.q1 (S.getD k 0) := by
  rw [List.take_succ_eq_append_getElem h, List.flatMap_append]
  simp [List.getD_eq_getElem?_getD, List.getElem?_eq_getElem h]
theorem q1_esc {c : Nat} (h : c = 34 ∨ c = 92) : Jq.q1 c = [92, c] := by
  unfold Jq.q1
  rw [if_neg (by omega), if_pos h]
theorem q1_ctl {c : Nat} (h : c < 32) : Jq.q1 c = [92, 117, 48, 48, Jq.hexl (c / 16), Jq.hexl (c % 16)] := if_pos h
theorem q1_lit {c : Nat} (h1 : c ≠ 34) (h2 : c ≠ 92) (h3 : ¬ c < 32) : Jq.q1 c = [c] := by
  unfold Jq.q1
  rw [if_neg h3, if_neg (by omega)]
/-- A row that was just built of one value. -/
theorem own_new1 {W : World} {g base : Nat} {e : TypeId} {v : Value} (hg : g = W.heap.size) (hb : base ≤ g) : (W.alloc (.cells #[v] e)).ownsRow base e 1 (.slice (some ⟨g, 0, none⟩) 1 1) 1 [v] := by
  subst hg
  exact ⟨rfl, .inr ⟨W.heap.size, 1, #[v], rfl, hb, heap_alloc_new W _, Nat.le_refl _, by decide, rfl, rfl⟩⟩

/-- What holds at each round of quoted's loop. -/
def QRel (S : List Nat) (w : World) (text i : Value) (wr : World) : Prop :=
  ∃ (k n : Nat) (T : List Nat), i = .int .i64 k ∧ k ≤ S.length ∧ T.length = n ∧ n ≤ 1 + 6 * k ∧ Hid (T = 34 :: (S.take k).flatMap Jq.q1) ∧ wr.ownsRow w.heap.size 5 1 text n (u8s T) ∧ (∀ x ∈ T, x < 256) ∧ Below w.heap.size w wr
theorem QRel.next {S : List Nat} {w w2 : World} {k n m : Nat} {T q : List Nat} {v : Value} {x : Nat} (hx : S.getD k 0 = x) (hk : k < S.length) (hT : T.length = n) (hn : n ≤ 1 + 6 * k) (he : Hid (T = 34 :: (S.take k).flatMap Jq.q1)) (hq : Jq.q1 x = q) (hm : q.length = m) (hm6 : m ≤ 6)
    (hlt : ∀ x ∈ T, x < 256) (hq2 : ∀ x ∈ q, x < 256) (ho : w2.ownsRow w.heap.size 5 1 v (n + m) (u8s T ++ u8s q)) (hb : Below w.heap.size w w2) : QRel S w v (.int .i64 ((k + 1 : Nat) : Int)) w2 :=
  ⟨k + 1, n + m, T ++ q, rfl, hk, by rw [List.length_append]; omega, by omega, by unfold Hid; rw [q_take S k hk, hx, hq, he.out]; rfl, by rw [u8s_append]; exact ho, fun y hy => by
    rcases List.mem_append.1 hy with hy | hy
    · exact hlt y hy
    · exact hq2 y hy, hb⟩

set_option maxHeartbeats 4000000 in
set_option maxRecDepth 100000 in
theorem quoted_any (W : World) (Wb : Nat) (A : List Nat) (s : ByteArray) (hs : s.size ≤ 140737488355328) (w : World) (hH : Held W) (hW : Below W.heap.size W w) (h : Wr Wb A w) :
    Calls Tryd.prog 61 #[.pointer (some ⟨Wb, 0, none⟩), .string s] w fun e w' => WEnd Wb w (Jq.quotedP A (numsOf s)) e w' := by
  have Hlen := Lib.hid (numsOf_length s)
  have hWlt := h.lt
  by_cases hl : s.size ≤ 4096
  · have hd : decide ((4096 : Int) < (s.size : Int)) = false := decide_eq_false (by omega)
    have hV := validString_any s w hs (hH.below hW)
    cases hv : Jq.valid (numsOf s)
    · rw [hv] at hV
      have HP : Hid (Jq.quotedP A (numsOf s) = none) := if_neg (fun e => by rw [hv] at e; exact absurd e.2 (by decide))
      clear hv hl
      go_enter Tryd.func61, Tryd.ntmps61
      go_wp2_with fail
      refine hV.mono ?_
      rintro e w1 ⟨rfl, hb1⟩
      clear hV
      go_wp2
      go_ret
      exact WEnd.no HP.out (Stays.of_below hb1 (Nat.le_of_lt hWlt))
    · rw [hv] at hV
      have HP : Hid (Jq.quotedP A (numsOf s) = Jq.addP A (Jq.quoted (numsOf s))) := if_pos ⟨by rw [Hlen.out]; exact hl, hv⟩
      clear hv
      go_enter Tryd.func61, Tryd.ntmps61
      go_wp2_with fail
      refine hV.mono ?_
      rintro e w1 ⟨rfl, hb1⟩
      clear hV
      have hw1 := h.keep hb1
      have hs1 := hb1.size
      go_wp2_with fail
      go_loopw [5, 19] (fun t i wr => QRel (numsOf s) w t i wr) (fun _ i _ => s.size - (intOf i).toNat)
      case atStart => exact ⟨0, 1, [34], rfl, Nat.zero_le _, rfl, by omega, Lib.hid rfl, own_new1 rfl hs1, by decide, hb1.alloc hs1 _⟩
      case round =>
        obtain ⟨k, n, T, rfl, hk, hn, hnk, hT, hown, hlt256, hb⟩ := hrel
        rw [Hlen.out] at hk
        have Hn := Lib.hid hn
        clear hn hb1 hw1 hs1
        by_cases hlt : k < s.size
        · have hX := Lib.hid (nums_at s k hlt)
          have hx256 := s[k].toNat_lt
          have HN : Hid (∀ (m : Nat) (q : List Nat) (v : Value) (w2 : World), Jq.q1 s[k].toNat = q → q.length = m → m ≤ 6 → (∀ x ∈ q, x < 256) → w2.ownsRow w.heap.size 5 1 v (n + m) (u8s T ++ u8s q) → Below w.heap.size w w2 → QRel (numsOf s) w v (.int .i64 ((k + 1 : Nat) : Int)) w2) :=
            fun m q v w2 h1 h2 h3 h4 h5 h6 => QRel.next hX.out (by rw [Hlen.out]; exact hlt) Hn.out hnk hT h1 h2 h3 hlt256 h4 h5 h6
          have hwr : w.heap.size ≤ wr.heap.size := hb.size
          obtain ⟨c, ec⟩ : ∃ c, s[k].toNat = c := ⟨_, rfl⟩
          by_cases h1 : s[k].toNat = 34 ∨ s[k].toNat = 92
          · have hQ := Lib.hid (q1_esc h1)
            have hdd : (((s[k].toNat : Int) == 34) = true) ∨ (((s[k].toNat : Int) == 34) = false ∧ ((s[k].toNat : Int) == 92) = true) := by
              rcases h1 with h1 | h1
              · exact .inl (by rw [h1]; rfl)
              · exact .inr (by rw [h1]; exact ⟨rfl, rfl⟩)
            clear h1 ec
            rcases hdd with d1 | ⟨d1, d2⟩
            all_goals
              go_upto_region 10 with (fail)
              repeat ((fail_if_success (with_reducible show wpList _ _ _ (⟨some 39, _, _, _, _, _⟩ :: _) _ _)); first | go_values | go_skip | go_guarded | go_step | go_upon | go_back | go_simp)
              with_reducible refine append_row rfl (.tmp 36) (.tmp 38) 85 5 (.int .u8 0) 1 1 rfl Tryd.underlying85 infoByte rfl (by decide) w.heap.size _ n _ ⟨wr.heap.size, 0, none⟩ 2 2 (u8s [92, s[k].toNat]) (hown.alloc _) ?c1 ?c2 ?c3 ?c4 ?c5 ?c6 ?c7 ?c8 ?_
              case c1 => rfl
              case c2 => exact fun j u hj => new_cells wr _ _ j u hj
              case c3 => exact u8s_one _
              case c4 => rfl
              case c5 => rfl
              case c6 => omega
              case c7 => omega
              case c8 => simp; omega
              intro v2 w2 hown2 hgr2
              have hb2 : Below w.heap.size w w2 := (hb.alloc hb.size _).grown hgr2 (by simp; omega) (own_ge hown)
              have HR := Lib.hid (HN.out 2 _ v2 w2 hQ.out rfl (by decide) (by intro x hx; simp at hx; omega) hown2 hb2)
              clear hgr2 hown hown2 hb hb2 HN
              go_frame
              go_wp2
              go_roundw
              case rel => exact HR.out
              case measure => simp [intOf]; omega
          have d1 : ((s[k].toNat : Int) == 34) = false := by rw [beq_eq_false_iff_ne]; omega
          have d2 : ((s[k].toNat : Int) == 92) = false := by rw [beq_eq_false_iff_ne]; omega
          by_cases h3 : s[k].toNat < 32
          · have hQ := Lib.hid (q1_ctl h3)
            have d3 : decide ((s[k].toNat : Int) < 32) = true := decide_eq_true (by omega)
            clear h1 ec
            go_upto_region 12 with (fail)
            generalize s[k].toNat = c at *
            have b1 : (0 : Int) ≤ (c : Int) / 16 := by omega
            have b2 : (c : Int) / 16 < 16 := by omega
            have b3 : (0 : Int) ≤ (c : Int) % 16 := by omega
            have b4 : (c : Int) % 16 < 16 := by omega
            have b5 := and15 c hx256
            go_region_law (refine step_append_row rfl (.tmp 43) (.tmp 50) 85 5 (.int .u8 0) 1 1 rfl Tryd.underlying85 infoByte rfl (by decide) w.heap.size u5 n _ ⟨wr.heap.size, 0, none⟩ 6 6 _ (own_drew (hown.alloc _)) ?_ (fun j u hj => new_drew wr _ _ j u hj) ?_ rfl rfl ?_ ?_ ?_ ?_; rotate_left 5; intro v2 w2 hown2 hgr2; rotate_right 5; exact rfl; exact six_bytes _ _ _ _ _ _; omega; omega; simp; omega)
            all_goals
              have hb2 : Below w.heap.size w w2 := (hb.alloc hb.size _).grown (grown_drew hgr2) (by simp; omega) (own_ge hown)
              have hown3 : w2.ownsRow w.heap.size 5 1 v2 (n + 6) (u8s T ++ u8s [92, 117, 48, 48, Jq.hexl (c / 16), Jq.hexl (c % 16)]) := by
                refine own_as hown2 ?_
                rw [hex_at _ (c / 16) (by omega) (by omega), hex_at _ (c % 16) (by omega) (by omega)]
                rfl
              have HR := Lib.hid (HN.out 6 _ v2 w2 hQ.out rfl (by decide) (by have := hexl_lt (n := c / 16) (by omega); have := hexl_lt (n := c % 16) (by omega); intro x hx; simp at hx; omega) hown3 hb2)
              clear hgr2 hown2 hown3 hown hb hb2 b5 HN
              go_wp2
              go_roundw
              case rel => exact HR.out
              case measure => simp [intOf]; omega
          · have hQ := Lib.hid (q1_lit (fun e => h1 (.inl e)) (fun e => h1 (.inr e)) h3)
            have d3 : decide ((s[k].toNat : Int) < 32) = false := decide_eq_false (by omega)
            clear h1 ec h3
            go_upto_region 8 with (fail)
            repeat ((fail_if_success (with_reducible show wpList _ _ _ (⟨some 28, _, _, _, _, _⟩ :: _) _ _)); first | go_values | go_skip | go_guarded | go_step | go_upon | go_back | go_simp)
            with_reducible refine append_row rfl (.tmp 25) (.tmp 27) 85 5 (.int .u8 0) 1 1 rfl Tryd.underlying85 infoByte rfl (by decide) w.heap.size _ n _ ⟨wr.heap.size, 0, none⟩ 1 1 (u8s [s[k].toNat]) (hown.alloc _) ?c1 ?c2 ?c3 ?c4 ?c5 ?c6 ?c7 ?c8 ?_
            case c1 => rfl
            case c2 => exact fun j u hj => new_cells wr _ _ j u hj
            case c3 => exact u8s_one _
            case c4 => rfl
            case c5 => rfl
            case c6 => omega
            case c7 => omega
            case c8 => simp; omega
            intro v2 w2 hown2 hgr2
            have hb2 : Below w.heap.size w w2 := (hb.alloc hb.size _).grown hgr2 (by simp; omega) (own_ge hown)
            have HR := Lib.hid (HN.out 1 _ v2 w2 hQ.out rfl (by decide) (by intro x hx; simp at hx; omega) hown2 hb2)
            clear hgr2 hown hown2 hb hb2 HN
            go_frame
            go_wp2
            go_roundw
            case rel => exact HR.out
            case measure => simp [intOf]; omega
        · obtain rfl : k = s.size := by omega
          have hd2 : decide ((s.size : Int) < (s.size : Int)) = false := by simp
          have hwr : w.heap.size ≤ wr.heap.size := hb.size
          have HT : Hid (T ++ [34] = Jq.quoted (numsOf s)) := by
            unfold Hid Jq.quoted
            rw [hT.out, List.take_of_length_le (by rw [Hlen.out]; exact Nat.le_refl _)]
            rfl
          go_upto_region 14 with (fail)
          repeat ((fail_if_success (with_reducible show wpList _ _ _ (⟨some 56, _, _, _, _, _⟩ :: _) _ _)); first | go_values | go_skip | go_guarded | go_step | go_upon | go_back | go_simp)
          with_reducible refine append_row rfl (.tmp 54) (.tmp 55) 85 5 (.int .u8 0) 1 1 rfl Tryd.underlying85 infoByte rfl (by decide) w.heap.size _ n _ ⟨wr.heap.size, 0, none⟩ 1 1 (u8s [34]) (hown.alloc _) ?c1 ?c2 ?c3 ?c4 ?c5 ?c6 ?c7 ?c8 ?_
          case c1 => rfl
          case c2 => exact fun j u hj => new_cells wr _ _ j u hj
          case c3 => exact u8s_one _
          case c4 => rfl
          case c5 => rfl
          case c6 => omega
          case c7 => omega
          case c8 => simp; omega
          intro v2 w2 hown2 hgr2
          have hb2 : Below w.heap.size w w2 := (hb.alloc hb.size _).grown hgr2 (by simp; omega) (own_ge hown)
          rw [← u8s_append, HT.out] at hown2
          have hq256 : ∀ x ∈ Jq.quoted (numsOf s), x < 256 := by
            rw [← HT.out]
            exact snoc_lt hlt256 (by decide)
          obtain ⟨A1, c1, rfl⟩ := own_slice hown2
          obtain ⟨hql, harg⟩ := own_arg hown2 hq256
          have hcv := conv_str harg
          rw [hql] at hcv
          have hA := add_any Wb A (strOf (Jq.quoted (numsOf s))) (by rw [strOf_size, hql]; omega) w2 (h.keep hb2)
          rw [numsOf_strOf hq256, ← HP.out] at hA
          have HB := Lib.hid (Stays.of_below hb2 (Nat.le_of_lt hWlt))
          clear hgr2 hown hown2 hb hb2 harg hql hq256 h hlt256
          go_frame
          go_wp2_with fail
          refine hA.mono ?_
          intro e w3 hh
          clear hA
          have HE := Lib.hid (hh.after HB.out)
          rcases WEnd.cases hh with ⟨A1, hr, rfl, hw, hb⟩ | ⟨hr, rfl, hb⟩
          all_goals
            clear hh hr hb
            go_wp2
            go_ret
            exact HE.out
  · have hd : decide ((4096 : Int) < (s.size : Int)) = true := decide_eq_true (by omega)
    have HP : Hid (Jq.quotedP A (numsOf s) = none) := if_neg (fun e => by rw [Hlen.out] at e; omega)
    go_enter Tryd.func61, Tryd.ntmps61
    go_wp2
    go_ret
    exact WEnd.no HP.out (Stays.refl _ _)
end Go.Proofs.YtnbaajdcakjlmaaDoor

/-
  The writer's list.
-/
namespace Go.Proofs.YtnbaajdcakjlmaaDoor
open Go.RowKit

/-- That values of n levels are written as they must be. -/
def ValueW (n : Nat) : Prop := ∀ (W : World) (Wb : Nat) (A : List Nat) (v : Value) (x : Jq.J) (w : World), Held W → Below W.heap.size W w → W.heap.size ≤ Wb → Wr Wb A w → IsJ w (· < Wb) v x →
  Calls Tryd.prog 48 #[.pointer (some ⟨Wb, 0, none⟩), v, .int .i64 ((16 - n : Nat) : Int)] w fun e w' => WEnd Wb w (Jq.valueP n A x) e w'
/-- A list under way. -/
def LRel (el : List Nat → Jq.J → Option (List Nat)) (Wb : Nat) (A : List Nat) (l : List Jq.J) (w : World) (i : Value) (wr : World) : Prop :=
  ∃ (k : Nat) (A1 : List Nat), i = .int .i64 k ∧ k ≤ l.length ∧ Wr Wb A1 wr ∧ Stays Wb w wr ∧ Hid (Jq.listP el 0 A l = Jq.listP el k A1 (l.drop k))
theorem LRel.step {el : List Nat → Jq.J → Option (List Nat)} {l : List Jq.J} {k : Nat} {A A1 : List Nat} {x : Jq.J} (h : Hid (Jq.listP el 0 A l = Jq.listP el k A1 (l.drop k))) (hx : l[k]? = some x) :
    Jq.listP el 0 A l = (Jq.commaP A1 k).bind fun A2 => (el A2 x).bind fun A3 => Jq.listP el (k + 1) A3 (l.drop (k + 1)) := by
  rw [h.out, drop_at hx]
  rfl
theorem listIs_stays {Wb : Nat} {w w' : World} {v : Value} {l : List Jq.J} (h : ListIs w (· < Wb) v l) (hs : Stays Wb w w') : ListIs w' (· < Wb) v l :=
  h.keep (fun b hb _ => ⟨hb, hs.below.block b hb⟩) hs.size
theorem isJ_stays {Wb : Nat} {w w' : World} {v : Value} {x : Jq.J} (h : IsJ w (· < Wb) v x) (hs : Stays Wb w w') : IsJ w' (· < Wb) v x :=
  h.keep (fun b hb _ => ⟨hb, hs.below.block b hb⟩) hs.size
theorem below_stays {W w w' : World} {Wb : Nat} (h : Below W.heap.size W w) (hs : Stays Wb w w') (hle : W.heap.size ≤ Wb) : Below W.heap.size W w' := h.trans (hs.below.mono hle)

set_option maxHeartbeats 4000000 in
set_option maxRecDepth 100000 in
theorem wlist_any (n : Nat) (hV : ValueW n) (W : World) (Wb : Nat) (A : List Nat) (lv : Value) (l : List Jq.J) (w : World) (hH : Held W) (hW : Below W.heap.size W w) (hle : W.heap.size ≤ Wb) (h : Wr Wb A w) (hL : ListIs w (· < Wb) lv l) :
    Calls Tryd.prog 62 #[.pointer (some ⟨Wb, 0, none⟩), lv, .int .i64 ((16 - n : Nat) : Int)] w fun e w' => WEnd Wb w (Jq.listP (Jq.valueP n) 0 A l) e w' := by
  obtain ⟨A0, c0, rfl⟩ := hL.form
  obtain ⟨D, eD⟩ : ∃ D : Int, ((16 - n : Nat) : Int) = D := ⟨_, rfl⟩
  obtain ⟨el, eel⟩ : ∃ el, Jq.valueP n = el := ⟨_, rfl⟩
  obtain ⟨N, eN⟩ : ∃ N, l.length = N := ⟨_, rfl⟩
  have HV : Hid (∀ (A : List Nat) (v : Value) (x : Jq.J) (w' : World), Stays Wb w w' → Wr Wb A w' → IsJ w' (· < Wb) v x →
      Calls Tryd.prog 48 #[.pointer (some ⟨Wb, 0, none⟩), v, .int .i64 D] w' fun e w2 => WEnd Wb w' (el A x) e w2) := fun A v x w' h1 h2 h3 => by
    rw [← eD, ← eel]; exact hV W Wb A v x w' hH (below_stays hW h1 hle) hle h2 h3
  have hNs : N ≤ 140737488355328 := by
    obtain ⟨_, _, _, h1, _⟩ := hL
    omega
  have HL := Lib.hid hL
  have HN := Lib.hid eN
  have hWlt := h.lt
  rw [eD, eel, eN]
  rw [eN] at HL
  clear eD eel eN hL hV hH hW hle
  go_enter Tryd.func62, Tryd.ntmps62
  go_wp2_with fail
  go_loopw [11] (fun i wr => LRel el Wb A l w i wr) (fun i _ => N - (intOf i).toNat)
  case atStart => exact ⟨0, A, rfl, Nat.zero_le _, h, Stays.refl _ _, Lib.hid rfl⟩
  case round =>
    obtain ⟨k, A1, rfl, hk, hwr, hst, hP⟩ := hrel
    rw [HN.out] at hk
    by_cases hlt : k < N
    · obtain ⟨b, off, x, B1, e1, B2, e2, rfl, hb, hblt, hx, hJ, s0, s1, s2, s3, s4, s5⟩ := (listIs_stays HL.out hst).elem (by rw [HN.out]; exact hlt)
      have HP := Lib.hid (LRel.step hP hx)
      have hwl := hwr.lt
      have hst2 := hst.alloc (Nat.le_of_lt hwl) (.cells #[.int .i64 x.kind, .bool x.bool, .int .i64 x.int, .string (strOf x.text), .slice B1 x.names.length e1, .slice B2 x.list.length e2] 27)
      have hJ2 := isJ_stays hJ ((Stays.refl Wb wr).alloc (Nat.le_of_lt hwl) (.cells #[.int .i64 x.kind, .bool x.bool, .int .i64 x.int, .string (strOf x.text), .slice B1 x.names.length e1, .slice B2 x.list.length e2] 27))
      have hl2 := Lies.new_ (w := wr) (g := wr.heap.size) (t := 27) (cs := [.int .i64 x.kind, .bool x.bool, .int .i64 x.int, .string (strOf x.text), .slice B1 x.names.length e1, .slice B2 x.list.length e2]) rfl
      have hC := comma_any Wb A1 k _ (hwr.alloc (.cells #[.int .i64 x.kind, .bool x.bool, .int .i64 x.int, .string (strOf x.text), .slice B1 x.names.length e1, .slice B2 x.list.length e2] 27))
      have HX := Lib.hid hx
      clear hx hJ hP h
      go_wp2_with fail
      refine hC.mono ?_
      intro e w3 hh
      clear hC
      rcases WEnd.cases hh with ⟨A2, hr, rfl, hw3, hs3⟩ | ⟨hr, rfl, hs3⟩
      · have hst3 := hst2.trans hs3
        have hC2 := HV.out A2 _ x w3 hst3 hw3 (isJ_stays hJ2 hs3)
        obtain ⟨⟨z0, z1, z2, z3, z4, z5⟩, _⟩ := (hs3.lies _ _ _ (by decide) (by omega) hl2).six
        have HR := Lib.hid hr
        clear hh hr hJ2 hl2 hst2 hs3 s0 s1 s2 s3 s4 s5
        go_wp2_with fail
        refine hC2.mono ?_
        intro e w4 hh
        clear hC2
        rcases WEnd.cases hh with ⟨A3, hr3, rfl, hw4, hs4⟩ | ⟨hr3, rfl, hs4⟩
        · have HQ : Hid (LRel el Wb A l w (.int .i64 ((k + 1 : Nat) : Int)) w4) := ⟨k + 1, A3, rfl, by rw [HN.out]; omega, hw4, hst3.trans hs4, Lib.hid (by rw [HP.out, HR.out]; show (el A2 x).bind _ = _; rw [hr3]; rfl)⟩
          clear hh hr3 hw4 hs4 hst3 hw3 z0 z1 z2 z3 z4 z5
          go_wp2
          go_roundw
          case rel => exact HQ.out
          case measure => simp [intOf]; omega
        · have HQ : Hid (WEnd Wb w (Jq.listP el 0 A l) (.returned (.bool false)) w4) := WEnd.no (by rw [HP.out, HR.out]; show (el A2 x).bind _ = _; rw [hr3]; rfl) (hst3.trans hs4)
          clear hh hr3 hs4 hst3 hw3 z0 z1 z2 z3 z4 z5
          go_wp2
          go_ret
          exact HQ.out
      · have HQ : Hid (WEnd Wb w (Jq.listP el 0 A l) (.returned (.bool false)) w3) := WEnd.no (by rw [HP.out, hr]; rfl) (hst2.trans hs3)
        clear hh hr hs3 hst2 hJ2 hl2 s0 s1 s2 s3 s4 s5
        go_wp2
        go_ret
        exact HQ.out
    · obtain rfl : k = N := by omega
      have hd2 : decide ((k : Int) < (k : Int)) = false := by simp
      have HQ : Hid (WEnd Wb w (Jq.listP el 0 A l) (.returned (.bool true)) wr) := WEnd.yes (by rw [hP.out, List.drop_eq_nil_of_le (by rw [HN.out]; omega)]; rfl) hst hwr
      clear hwr hst hP
      go_wp2
      go_ret
      exact HQ.out
end Go.Proofs.YtnbaajdcakjlmaaDoor

/-
  The writer's members.
-/
namespace Go.Proofs.YtnbaajdcakjlmaaDoor
open Go.RowKit

/-- Members under way. -/
def MRel (el : List Nat → Jq.J → Option (List Nat)) (Wb : Nat) (A : List Nat) (ns : List (List Nat)) (l : List Jq.J) (w : World) (i : Value) (wr : World) : Prop :=
  ∃ (k : Nat) (A1 : List Nat), i = .int .i64 k ∧ k ≤ ns.length ∧ Wr Wb A1 wr ∧ Stays Wb w wr ∧ Hid (Jq.membersP el [] A ns l = Jq.membersP el (ns.take k) A1 (ns.drop k) (l.drop k))
theorem MRel.step {el : List Nat → Jq.J → Option (List Nat)} {ns : List (List Nat)} {l : List Jq.J} {k : Nat} {A A1 : List Nat} {t : List Nat} {x : Jq.J} (h : Hid (Jq.membersP el [] A ns l = Jq.membersP el (ns.take k) A1 (ns.drop k) (l.drop k))) (ht : ns[k]? = some t) (hx : l[k]? = some x) :
    Jq.membersP el [] A ns l = if t ∈ ns.take k then none else (Jq.commaP A1 k).bind fun A2 => (Jq.quotedP A2 t).bind fun A3 => (Jq.addP A3 [58]).bind fun A4 => (el A4 x).bind fun A5 => Jq.membersP el (ns.take (k + 1)) A5 (ns.drop (k + 1)) (l.drop (k + 1)) := by
  have hk : k < ns.length := (List.getElem?_eq_some_iff.1 ht).1
  have e : ns.take (k + 1) = ns.take k ++ [t] := by
    rw [List.take_succ_eq_append_getElem hk]
    rw [List.getElem?_eq_getElem hk] at ht
    injection ht with ht
    rw [ht]
  rw [h.out, drop_at ht, drop_at hx, Jq.membersP, List.length_take, Nat.min_eq_left (Nat.le_of_lt hk), e]
theorem slIs_stays {Wb : Nat} {w w' : World} {v : Value} {n : Nat} {cs : List Value} (h : SlIs w (· < Wb) v n cs) (hs : Stays Wb w w') : SlIs w' (· < Wb) v n cs :=
  h.keep (fun b hb _ => ⟨hb, hs.below.block b hb⟩) hs.size

set_option maxHeartbeats 4000000 in
set_option maxRecDepth 100000 in
theorem wmembers_any (n : Nat) (hV : ValueW n) (W : World) (Wb : Nat) (A : List Nat) (nv lv : Value) (ns : List (List Nat)) (l : List Jq.J) (w : World) (hH : Held W) (hW : Below W.heap.size W w) (hle : W.heap.size ≤ Wb) (h : Wr Wb A w) (hL : ListIs w (· < Wb) lv l)
    (hS : SlIs w (· < Wb) nv ns.length (tcells ns)) (hns : ∀ p ∈ ns, p.length ≤ 140737488355328 ∧ ∀ y ∈ p, y < 256) (hnl : ns.length * 16 ≤ 140737488355328) :
    Calls Tryd.prog 63 #[.pointer (some ⟨Wb, 0, none⟩), nv, lv, .int .i64 ((16 - n : Nat) : Int)] w fun e w' => WEnd Wb w (if ns.length = l.length then Jq.membersP (Jq.valueP n) [] A ns l else none) e w' := by
  obtain ⟨A0, c0, rfl⟩ := hL.form
  obtain ⟨A9, c9, rfl⟩ := hS.form
  obtain ⟨D, eD⟩ : ∃ D : Int, ((16 - n : Nat) : Int) = D := ⟨_, rfl⟩
  obtain ⟨el, eel⟩ : ∃ el, Jq.valueP n = el := ⟨_, rfl⟩
  by_cases hlen : ns.length = l.length
  · obtain ⟨N, eN⟩ : ∃ N, ns.length = N := ⟨_, rfl⟩
    have eN2 : l.length = N := by rw [← hlen, eN]
    have HV : Hid (∀ (A : List Nat) (v : Value) (x : Jq.J) (w' : World), Stays Wb w w' → Wr Wb A w' → IsJ w' (· < Wb) v x →
        Calls Tryd.prog 48 #[.pointer (some ⟨Wb, 0, none⟩), v, .int .i64 D] w' fun e w2 => WEnd Wb w' (el A x) e w2) := fun A v x w' h1 h2 h3 => by
      rw [← eD, ← eel]; exact hV W Wb A v x w' hH (below_stays hW h1 hle) hle h2 h3
    have HQU : Hid (∀ (A : List Nat) (t : List Nat) (w' : World), t ∈ ns → Stays Wb w w' → Wr Wb A w' →
        Calls Tryd.prog 61 #[.pointer (some ⟨Wb, 0, none⟩), .string (strOf t)] w' fun e w2 => WEnd Wb w' (Jq.quotedP A t) e w2) := fun A t w' ht h1 h2 => by
      have hq := quoted_any W Wb A (strOf t) (by rw [strOf_size]; exact (hns t ht).1) w' hH (below_stays hW h1 hle) h2
      rw [numsOf_strOf (hns t ht).2] at hq
      exact hq
    have HCO : Hid (∀ (k : Nat) (t : List Nat) (w' : World) (v : Value), k ≤ N → t ∈ ns → SlIs w' (· < Wb) v k (tcells (ns.take k)) →
        Calls Tryd.prog 69 #[v, .string (strOf t)] w' fun e w2 => e = .returned (.bool (decide (t ∈ ns.take k))) ∧ w' = w2) := fun k t w' v hk ht hs =>
      contains_any (ns.take k) t v w' (by rw [List.length_take, Nat.min_eq_left (by omega)]; exact hs) (fun p hp => (hns p (List.mem_of_mem_take hp)).2) (hns t ht).2
    have hNs : N ≤ 140737488355328 := by omega
    have HL := Lib.hid hL
    have HS := Lib.hid hS
    have HN := Lib.hid eN
    have HN2 := Lib.hid eN2
    have hWlt := h.lt
    have hd0 : ((N : Int) != (N : Int)) = false := by simp
    rw [eD, eel, if_pos hlen, eN, eN2]
    rw [eN2] at HL
    rw [eN] at HS
    clear eD eel eN eN2 hL hV hH hW hle hS hns hnl hlen
    go_enter Tryd.func63, Tryd.ntmps63
    go_wp2_with fail
    go_loopw [18] (fun i wr => MRel el Wb A ns l w i wr) (fun i _ => N - (intOf i).toNat)
    case atStart => exact ⟨0, A, rfl, Nat.zero_le _, h, Stays.refl _ _, Lib.hid rfl⟩
    case round =>
      obtain ⟨k, A1, rfl, hk, hwr, hst, hP⟩ := hrel
      rw [HN.out] at hk
      by_cases hlt : k < N
      · obtain ⟨b, off, x, B1, e1, B2, e2, rfl, hb, hblt, hx, hJ, s0, s1, s2, s3, s4, s5⟩ := (listIs_stays HL.out hst).elem (by rw [HN2.out]; exact hlt)
        have hS2 := slIs_stays HS.out hst
        obtain ⟨b', off', t, rfl, hb', hblt', hNc, ht, t0⟩ := slIs_text hS2 HN.out hlt
        have hS3 := slIs_take hS2 (Nat.le_of_lt hlt)
        have htn : t ∈ ns := List.mem_of_getElem? ht
        have HP := Lib.hid (MRel.step hP ht hx)
        have hC := HCO.out k t wr _ (Nat.le_of_lt hlt) htn hS3
        have hwl := hwr.lt
        have HX := Lib.hid hx
        have HTN := Lib.hid htn
        have HS2 := Lib.hid (show SixAt wr b (off + k * 6) _ _ _ _ _ _ from ⟨s0, s1, s2, s3, s4, s5⟩)
        have hkc : (k : Int) ≤ (c9 : Int) := by omega
        clear hx ht htn hP h hS2 hS3 s0 s1 s2 s3 s4 s5 hNc
        by_cases hmem : t ∈ ns.take k
        · rw [decide_eq_true hmem] at hC
          have HQ : Hid (WEnd Wb w (Jq.membersP el [] A ns l) (.returned (.bool false)) wr) := WEnd.no (by rw [HP.out, if_pos hmem]) hst
          clear hmem hJ hst
          go_wp2_with fail
          refine hC.mono ?_
          rintro e w3 ⟨rfl, rfl⟩
          clear hC
          go_wp2
          go_ret
          exact HQ.out
        rw [decide_eq_false hmem] at hC
        have HP : Hid (Jq.membersP el [] A ns l = (Jq.commaP A1 k).bind fun A2 => (Jq.quotedP A2 t).bind fun A3 => (Jq.addP A3 [58]).bind fun A4 => (el A4 x).bind fun A5 => Jq.membersP el (ns.take (k + 1)) A5 (ns.drop (k + 1)) (l.drop (k + 1))) := by
          unfold Hid; rw [HP.out, if_neg hmem]
        have hCm := comma_any Wb A1 k wr hwr
        clear hmem
        go_wp2_with fail
        refine hC.mono ?_
        rintro e w3 ⟨rfl, rfl⟩
        clear hC
        go_wp2_with fail
        refine hCm.mono ?_
        intro e w3 hh
        clear hCm
        rcases WEnd.cases hh with ⟨A2, hr, rfl, hw3, hs3⟩ | ⟨hr, rfl, hs3⟩
        rotate_left
        · have HQ : Hid (WEnd Wb w (Jq.membersP el [] A ns l) (.returned (.bool false)) w3) := WEnd.no (by rw [HP.out, hr]; rfl) (hst.trans hs3)
          clear hh hr hs3 hst hJ t0
          go_wp2
          go_ret
          exact HQ.out
        have HP : Hid (Jq.membersP el [] A ns l = (Jq.quotedP A2 t).bind fun A3 => (Jq.addP A3 [58]).bind fun A4 => (el A4 x).bind fun A5 => Jq.membersP el (ns.take (k + 1)) A5 (ns.drop (k + 1)) (l.drop (k + 1))) := by
          unfold Hid; rw [HP.out, hr]; rfl
        have hst3 := hst.trans hs3
        have hQt := HQU.out A2 t w3 HTN.out hst3 hw3
        clear hh hr t0
        go_wp2_with fail
        refine hQt.mono ?_
        intro e w4 hh
        clear hQt
        rcases WEnd.cases hh with ⟨A3, hr, rfl, hw4, hs4⟩ | ⟨hr, rfl, hs4⟩
        rotate_left
        · have HQ : Hid (WEnd Wb w (Jq.membersP el [] A ns l) (.returned (.bool false)) w4) := WEnd.no (by rw [HP.out, hr]; rfl) (hst3.trans hs4)
          clear hh hr hs3 hst hJ hst3 hs4
          go_wp2
          go_ret
          exact HQ.out
        have HP : Hid (Jq.membersP el [] A ns l = (Jq.addP A3 [58]).bind fun A4 => (el A4 x).bind fun A5 => Jq.membersP el (ns.take (k + 1)) A5 (ns.drop (k + 1)) (l.drop (k + 1))) := by
          unfold Hid; rw [HP.out, hr]; rfl
        have hst4 := hst3.trans hs4
        have hAd := add_any Wb A3 { data := #[58] } (by decide) w4 hw4
        clear hh hr
        go_wp2_with fail
        refine hAd.mono ?_
        intro e w5 hh
        clear hAd
        have hh : WEnd Wb w4 (Jq.addP A3 [58]) e w5 := hh
        rcases WEnd.cases hh with ⟨A4, hr, rfl, hw5, hs5⟩ | ⟨hr, rfl, hs5⟩
        rotate_left
        · have HQ : Hid (WEnd Wb w (Jq.membersP el [] A ns l) (.returned (.bool false)) w5) := WEnd.no (by rw [HP.out, hr]; rfl) (hst4.trans hs5)
          clear hh hr hs3 hst hJ hst3 hs4 hs5 hst4
          go_wp2
          go_ret
          exact HQ.out
        have HP : Hid (Jq.membersP el [] A ns l = (el A4 x).bind fun A5 => Jq.membersP el (ns.take (k + 1)) A5 (ns.drop (k + 1)) (l.drop (k + 1))) := by
          unfold Hid; rw [HP.out, hr]; rfl
        have hst5 := hst4.trans hs5
        have hbk : w5.heap[b]? = wr.heap[b]? := ((hs3.trans hs4).trans hs5).below.block b hb
        obtain ⟨q0, q1, q2, q3, q4, q5⟩ := HS2.out
        have z0 := (World.cell?_of_block (a := ⟨b, off + k * 6, none⟩) hbk).trans q0
        have z1 := (World.cell?_of_block (a := ⟨b, off + k * 6 + 1, none⟩) hbk).trans q1
        have z2 := (World.cell?_of_block (a := ⟨b, off + k * 6 + 2, none⟩) hbk).trans q2
        have z3 := (World.cell?_of_block (a := ⟨b, off + k * 6 + 3, none⟩) hbk).trans q3
        have z4 := (World.cell?_of_block (a := ⟨b, off + k * 6 + 4, none⟩) hbk).trans q4
        have z5 := (World.cell?_of_block (a := ⟨b, off + k * 6 + 5, none⟩) hbk).trans q5
        have hVa := HV.out A4 _ x w5 hst5 hw5 (isJ_stays hJ ((hs3.trans hs4).trans hs5))
        clear hh hr q0 q1 q2 q3 q4 q5 hbk hs3 hs4 hs5 hst hst3 hst4 hJ HS2
        go_wp2_with fail
        refine hVa.mono ?_
        intro e w6 hh
        clear hVa
        rcases WEnd.cases hh with ⟨A5, hr, rfl, hw6, hs6⟩ | ⟨hr, rfl, hs6⟩
        · have HQ : Hid (MRel el Wb A ns l w (.int .i64 ((k + 1 : Nat) : Int)) w6) := ⟨k + 1, A5, rfl, by rw [HN.out]; omega, hw6, hst5.trans hs6, Lib.hid (by rw [HP.out, hr]; rfl)⟩
          clear hh hr hw6 hs6 hst5 z0 z1 z2 z3 z4 z5
          go_wp2
          go_roundw
          case rel => exact HQ.out
          case measure => simp [intOf]; omega
        · have HQ : Hid (WEnd Wb w (Jq.membersP el [] A ns l) (.returned (.bool false)) w6) := WEnd.no (by rw [HP.out, hr]; rfl) (hst5.trans hs6)
          clear hh hr hs6 hst5 z0 z1 z2 z3 z4 z5
          go_wp2
          go_ret
          exact HQ.out
      · obtain rfl : k = N := by omega
        have hd2 : decide ((k : Int) < (k : Int)) = false := by simp
        have HQ : Hid (WEnd Wb w (Jq.membersP el [] A ns l) (.returned (.bool true)) wr) := WEnd.yes (by rw [hP.out, List.drop_eq_nil_of_le (by rw [HN.out]; omega)]; rw [Jq.membersP]) hst hwr
        clear hwr hst hP
        go_wp2
        go_ret
        exact HQ.out
  · have hd0 : ((ns.length : Int) != (l.length : Int)) = true := by rw [bne_iff_ne]; omega
    rw [if_neg hlen]
    have HQ : Hid (WEnd Wb w none (.returned (.bool false)) w) := WEnd.no rfl (Stays.refl _ _)
    clear hlen hL hS hnl eel hV
    go_enter Tryd.func63, Tryd.ntmps63
    go_wp2
    go_ret
    exact HQ.out
end Go.Proofs.YtnbaajdcakjlmaaDoor

/-
  The writer's value, at every depth.
-/
namespace Go.Proofs.YtnbaajdcakjlmaaDoor
open Go.RowKit

theorem formatBool_any (b : Bool) (w : World) :
    Calls Tryd.prog 59 #[.bool b] w fun e w' => (∃ s, e = .returned (.string s) ∧ numsOf s = (if b then Jq.wTrue else Jq.wFalse) ∧ s.size ≤ 140737488355328) ∧ w = w' := by
  refine (Any.strconv_FormatBool (P := Tryd.prog) (ρ := lays121_ren) lays121 b w).mono fun e w' ⟨he, hw⟩ => ⟨⟨_, he, ?_, ?_⟩, hw.symm⟩
  · cases b <;> rfl
  · cases b <;> decide
theorem grown_any (w : World) (k : Nat) (os : Array Obj) : Below w.heap.size w (Go.Sort.grow (w.drewN k) os) :=
  ⟨rfl, rfl, rfl, by show w.heap.size ≤ (w.heap ++ os).size; rw [Array.size_append]; omega, fun j hj => Go.Sort.heap_grow_old (w.drewN k) os hj⟩
theorem dec_len (k : Nat) : ∀ n, n < 10 ^ k → 1 ≤ k → (Lib.decDigits n).length ≤ k := by
  intro n hn hk
  by_cases h1 : 1 ≤ n
  · exact (Uq.decDigits_nums n h1).2.2.2.2 k hk hn
  · have : n = 0 := by omega
    subst this
    have : (Lib.decDigits 0).length = 1 := by rw [Lib.decDigits, dif_pos (by omega)]; rfl
    omega
theorem itoaJ_any (v : Int) (h0 : -9007199254740991 ≤ v) (h1 : v ≤ 9007199254740991) (w : World) (hH : Held w) :
    Calls Tryd.prog 60 #[.int .i64 v] w fun e w' => (∃ s, e = .returned (.string s) ∧ numsOf s = Jq.decimal v ∧ s.size ≤ 140737488355328) ∧ Below w.heap.size w w' := by
  refine (Any.strconv_Itoa (P := Tryd.prog) (ρ := laysM171_ren) laysM171 v (by omega) (by omega) w hH.1).mono fun e w' ⟨he, k, os, hw⟩ => ⟨⟨_, he, ?_, ?_⟩, by rw [hw]; exact grown_any w k os⟩
  · unfold Lib.itoa Jq.decimal Jq.digits
    split
    · rfl
    · rfl
  · have hd := dec_len 16 v.natAbs (by omega) (by decide)
    have hd2 := dec_len 16 v.toNat (by omega) (by decide)
    show (Lib.itoa v).length ≤ _
    unfold Lib.itoa
    split
    · rw [List.length_cons]; omega
    · omega

/-! The plain writing by kinds. -/
theorem valueP_bad {n : Nat} {A : List Nat} {v : Jq.J} (h : ¬ Jq.Only v) : Jq.valueP n A v = none := by
  rw [Jq.valueP.eq_def]; simp only; rw [if_pos h]
theorem valueP_scalar {n : Nat} {A : List Nat} {v : Jq.J} (h : Jq.Only v) (h4 : v.kind ≠ 4) (h5 : v.kind ≠ 5) : Jq.valueP n A v = Jq.scalarP A v := by
  rw [Jq.valueP.eq_def]; simp only; rw [if_neg (fun e => e h), if_neg h4, if_neg h5]
theorem valueP_list0 {A : List Nat} {v : Jq.J} (h4 : v.kind = 4) : Jq.valueP 0 A v = none := by
  rw [Jq.valueP.eq_def]; simp only; repeat' split
  all_goals first | rfl | (exfalso; omega)
theorem valueP_obj0 {A : List Nat} {v : Jq.J} (h5 : v.kind = 5) : Jq.valueP 0 A v = none := by
  rw [Jq.valueP.eq_def]; simp only; repeat' split
  all_goals first | rfl | (exfalso; omega)
theorem valueP_list {n : Nat} {A : List Nat} {v : Jq.J} (h : Jq.Only v) (h4 : v.kind = 4) : Jq.valueP (n + 1) A v = (Jq.addP A [91]).bind fun A1 => (Jq.listP (Jq.valueP n) 0 A1 v.list).bind fun A2 => Jq.addP A2 [93] := by
  rw [Jq.valueP.eq_def]; simp only; rw [if_neg (fun e => e h), if_pos h4]
theorem valueP_obj {n : Nat} {A : List Nat} {v : Jq.J} (h : Jq.Only v) (h5 : v.kind = 5) : Jq.valueP (n + 1) A v = (Jq.addP A [123]).bind fun A1 => (if v.names.length = v.list.length then Jq.membersP (Jq.valueP n) [] A1 v.names v.list else none).bind fun A2 => Jq.addP A2 [125] := by
  rw [Jq.valueP.eq_def]; simp only; rw [if_neg (fun e => e h), if_neg (by omega), if_pos h5]

set_option maxHeartbeats 8000000 in
set_option maxRecDepth 100000 in
theorem value_w (n : Nat) (hn : n ≤ 16) (ih : ∀ m, n = m + 1 → ValueW m) : ValueW n := by
  intro W Wb A v x w hH hW hle h hJ
  obtain ⟨names, list, rfl, hk, hi, ht, hS, hns, hnl, hL⟩ := hJ.parts
  obtain ⟨A0, c0, rfl⟩ := hL.form
  obtain ⟨A9, c9, rfl⟩ := hS.form
  have hWlt := h.lt
  obtain ⟨D, eD⟩ : ∃ D : Int, ((16 - n : Nat) : Int) = D := ⟨_, rfl⟩
  obtain ⟨cs, ecs⟩ : ∃ cs, cs = [Value.int .i64 x.kind, .bool x.bool, .int .i64 x.int, .string (strOf x.text), .slice A9 x.names.length c9, .slice A0 x.list.length c0] := ⟨_, rfl⟩
  have hst0 : Stays Wb w (w.alloc (.cells cs.toArray 27)) := (Stays.refl Wb w).alloc (Nat.le_of_lt hWlt) _
  have hl0 : Lies (w.alloc (.cells cs.toArray 27)) w.heap.size 27 cs := Lies.new_ rfl
  have hO := only_any _ x (w.alloc (.cells cs.toArray 27)) (isJ_stays hJ hst0)
  have hr0 := h.alloc (.cells cs.toArray 27)
  -- what the later calls want, in any world behind
  have HA : Hid (∀ (A : List Nat) (s : ByteArray) (w' : World), s.size ≤ 140737488355328 → Wr Wb A w' → Calls Tryd.prog 58 #[.pointer (some ⟨Wb, 0, none⟩), .string s] w' fun e w2 => WEnd Wb w' (Jq.addP A (numsOf s)) e w2) := fun A s w' hs h' => add_any Wb A s hs w' h'
  have HQ : Hid (∀ (A : List Nat) (w' : World), Stays Wb w w' → Wr Wb A w' → Calls Tryd.prog 61 #[.pointer (some ⟨Wb, 0, none⟩), .string (strOf x.text)] w' fun e w2 => WEnd Wb w' (Jq.quotedP A x.text) e w2) := fun A w' h1 h2 => by
    have hq := quoted_any W Wb A (strOf x.text) (by rw [strOf_size]; exact ht.1) w' hH (below_stays hW h1 hle) h2
    rw [numsOf_strOf ht.2] at hq
    exact hq
  have HI : Hid (∀ (w' : World), Stays Wb w w' → -9007199254740991 ≤ x.int → x.int ≤ 9007199254740991 → Calls Tryd.prog 60 #[.int .i64 x.int] w' fun e w2 => (∃ s, e = .returned (.string s) ∧ numsOf s = Jq.decimal x.int ∧ s.size ≤ 140737488355328) ∧ Below w'.heap.size w' w2) := fun w' h1 h2 h3 => itoaJ_any x.int h2 h3 w' (hH.below (below_stays hW h1 hle))
  have HLI : Hid (∀ (m : Nat) (A : List Nat) (w' : World), n = m + 1 → Stays Wb w w' → Wr Wb A w' → Calls Tryd.prog 62 #[.pointer (some ⟨Wb, 0, none⟩), .slice A0 x.list.length c0, .int .i64 (D + 1)] w' fun e w2 => WEnd Wb w' (Jq.listP (Jq.valueP m) 0 A x.list) e w2) := fun m A w' hm h1 h2 => by
    have := wlist_any m (ih m hm) W Wb A _ x.list w' hH (below_stays hW h1 hle) hle h2 (listIs_stays hL h1)
    rw [show ((16 - m : Nat) : Int) = D + 1 from by omega] at this
    exact this
  have HME : Hid (∀ (m : Nat) (A : List Nat) (w' : World), n = m + 1 → Stays Wb w w' → Wr Wb A w' → Calls Tryd.prog 63 #[.pointer (some ⟨Wb, 0, none⟩), .slice A9 x.names.length c9, .slice A0 x.list.length c0, .int .i64 (D + 1)] w' fun e w2 => WEnd Wb w' (if x.names.length = x.list.length then Jq.membersP (Jq.valueP m) [] A x.names x.list else none) e w2) := fun m A w' hm h1 h2 => by
    have := wmembers_any m (ih m hm) W Wb A _ _ x.names x.list w' hH (below_stays hW h1 hle) hle h2 (listIs_stays hL h1) (slIs_stays hS h1) hns hnl
    rw [show ((16 - m : Nat) : Int) = D + 1 from by omega] at this
    exact this
  have HD : Hid (D = ((16 - n : Nat) : Int)) := eD.symm
  have hD0 : 0 ≤ D := by omega
  have hD1 : D ≤ 16 := by omega
  rw [eD]
  have HNN := Lib.hid hn
  clear eD hL hS hns hnl hJ ht hi hk hH hW hle ih hn h
  have HX0 : Hid (x.kind = x.kind) := rfl
  obtain ⟨K, eK⟩ : ∃ K, x.kind = K := ⟨_, rfl⟩
  have HK := Lib.hid eK
  rw [eK] at ecs hO ⊢
  clear eK HX0
  rw [ecs] at hst0 hl0 hO hr0
  clear ecs
  have hOnly := Lib.hid hO
  clear hO
  have fin : Hid (∀ (res : Option (List Nat)) (w1 : World) (e : Ending) (w' : World), Stays Wb w w1 → Jq.valueP n A x = res → WEnd Wb w1 res e w' → WEnd Wb w (Jq.valueP n A x) e w') := fun res w1 e w' h1 h2 h3 => by rw [h2]; exact h3.after h1
  go_enter Tryd.func48, Tryd.ntmps48
  go_wp2_with fail
  refine hOnly.out.mono ?_
  rintro e w1 ⟨hb1, ⟨hon, rfl⟩ | ⟨hon, rfl⟩⟩
  rotate_left
  · have HE : Hid (WEnd Wb w (Jq.valueP n A x) (.returned (.bool false)) w1) := WEnd.no (valueP_bad hon) (hst0.trans (Stays.of_below hb1 (by simp; omega)))
    clear hb1 hon hst0 hl0 hr0 hOnly
    go_wp2
    go_ret
    exact HE.out
  have hst1 := hst0.trans (Stays.of_below hb1 (by simp; omega))
  have hl1 := hl0.below hb1 hl0.lt
  have hr1 := hr0.keep hb1
  obtain ⟨⟨z0, z1, z2, z3, z4, z5⟩, _⟩ := hl1.six
  have HON := Lib.hid hon
  clear hb1 hst0 hl0 hr0 hOnly hon
  have hK : (K = 0 ∨ K = 1 ∨ K = 2 ∨ K = 3 ∨ K = 4 ∨ K = 5) ∨ (K ≠ 0 ∧ K ≠ 1 ∧ K ≠ 2 ∧ K ≠ 3 ∧ K ≠ 4 ∧ K ≠ 5) := by omega
  rcases hK with (rfl | rfl | rfl | rfl | rfl | rfl) | ⟨k0, k1, k2, k3, k4, k5⟩
  -- null
  · have hA : Calls Tryd.prog 58 #[.pointer (some ⟨Wb, 0, none⟩), .string { data := #[110, 117, 108, 108] }] w1 (fun e w2 => WEnd Wb w1 (Jq.addP A Jq.wNull) e w2) := HA.out A { data := #[110, 117, 108, 108] } w1 (by decide) hr1
    have HV := Lib.hid (valueP_scalar (n := n) (A := A) HON.out (by rw [HK.out]; decide) (by rw [HK.out]; decide))
    have HS : Hid (Jq.valueP n A x = Jq.addP A Jq.wNull) := HV.out.trans (by unfold Jq.scalarP; rw [if_pos HK.out])
    clear HV hr1 hl1
    go_wp2_with fail
    refine hA.mono ?_
    intro e w2 hh
    clear hA
    have HE := Lib.hid (fin.out _ _ _ _ hst1 HS.out hh)
    rcases WEnd.cases hh with ⟨A2, _, rfl, _⟩ | ⟨_, rfl, _⟩
    all_goals
      clear hh hst1 z0 z1 z2 z3 z4 z5
      go_wp2
      go_ret
      exact HE.out
  -- bool
  · have HV := Lib.hid (valueP_scalar (n := n) (A := A) HON.out (by rw [HK.out]; decide) (by rw [HK.out]; decide))
    have HS : Hid (Jq.valueP n A x = Jq.addP A (if x.bool then Jq.wTrue else Jq.wFalse)) := HV.out.trans (by unfold Jq.scalarP; rw [if_neg (by rw [HK.out]; decide), if_pos HK.out])
    have hF := formatBool_any x.bool w1
    clear HV hl1
    go_wp2_with fail
    refine hF.mono ?_
    rintro e w2 ⟨⟨s, rfl, hs, hsz⟩, rfl⟩
    have hA := HA.out A s w1 hsz hr1
    rw [hs] at hA
    clear hF hs hr1
    go_wp2_with fail
    refine hA.mono ?_
    intro e w2 hh
    clear hA
    have HE := Lib.hid (fin.out _ _ _ _ hst1 HS.out hh)
    rcases WEnd.cases hh with ⟨A2, _, rfl, _⟩ | ⟨_, rfl, _⟩
    all_goals
      clear hh hst1 z0 z1 z2 z3 z4 z5
      go_wp2
      go_ret
      exact HE.out
  -- int
  · have HV := Lib.hid (valueP_scalar (n := n) (A := A) HON.out (by rw [HK.out]; decide) (by rw [HK.out]; decide))
    have HS : Hid (Jq.valueP n A x = if -9007199254740991 ≤ x.int ∧ x.int ≤ 9007199254740991 then Jq.addP A (Jq.decimal x.int) else none) := HV.out.trans (by unfold Jq.scalarP; rw [if_neg (by rw [HK.out]; decide), if_neg (by rw [HK.out]; decide), if_pos HK.out])
    clear HV hl1
    by_cases hr : -9007199254740991 ≤ x.int ∧ x.int ≤ 9007199254740991
    · have HS : Hid (Jq.valueP n A x = Jq.addP A (Jq.decimal x.int)) := HS.out.trans (if_pos hr)
      have hF := HI.out w1 hst1 hr.1 hr.2
      have d1 : decide ((-9007199254740991 : Int) ≤ x.int) = true := decide_eq_true hr.1
      have d2 : decide (x.int ≤ (9007199254740991 : Int)) = true := decide_eq_true hr.2
      clear hr
      go_wp2_with fail
      refine hF.mono ?_
      rintro e w2 ⟨⟨s, rfl, hs, hsz⟩, hb2⟩
      have hst2 := hst1.trans (Stays.of_below hb2 (Nat.le_of_lt hr1.lt))
      have hA := HA.out A s w2 hsz (hr1.keep hb2)
      rw [hs] at hA
      clear hF hs hr1 hb2 z0 z1 z2 z3 z4 z5 hst1
      go_wp2_with fail
      refine hA.mono ?_
      intro e w3 hh
      clear hA
      have HE := Lib.hid (fin.out _ _ _ _ hst2 HS.out hh)
      rcases WEnd.cases hh with ⟨A2, _, rfl, _⟩ | ⟨_, rfl, _⟩
      all_goals
        clear hh hst2
        go_wp2
        go_ret
        exact HE.out
    · have HE : Hid (WEnd Wb w (Jq.valueP n A x) (.returned (.bool false)) w1) := WEnd.no (HS.out.trans (if_neg hr)) hst1
      have hdd : decide ((-9007199254740991 : Int) ≤ x.int) = false ∨ (decide ((-9007199254740991 : Int) ≤ x.int) = true ∧ decide (x.int ≤ (9007199254740991 : Int)) = false) := by
        by_cases h1 : (-9007199254740991 : Int) ≤ x.int
        · exact .inr ⟨decide_eq_true h1, decide_eq_false (by omega)⟩
        · exact .inl (decide_eq_false h1)
      clear hr hr1 hst1
      rcases hdd with d1 | ⟨d1, d2⟩
      all_goals
        go_wp2
        go_ret
        exact HE.out
  -- text
  · have HV := Lib.hid (valueP_scalar (n := n) (A := A) HON.out (by rw [HK.out]; decide) (by rw [HK.out]; decide))
    have HS : Hid (Jq.valueP n A x = Jq.quotedP A x.text) := HV.out.trans (by unfold Jq.scalarP; rw [if_neg (by rw [HK.out]; decide), if_neg (by rw [HK.out]; decide), if_neg (by rw [HK.out]; decide), if_pos HK.out])
    have hA := HQ.out A w1 hst1 hr1
    clear HV hl1 hr1
    go_wp2_with fail
    refine hA.mono ?_
    intro e w2 hh
    clear hA
    have HE := Lib.hid (fin.out _ _ _ _ hst1 HS.out hh)
    rcases WEnd.cases hh with ⟨A2, _, rfl, _⟩ | ⟨_, rfl, _⟩
    all_goals
      clear hh hst1 z0 z1 z2 z3 z4 z5
      go_wp2
      go_ret
      exact HE.out
  -- list
  · by_cases h0 : n = 0
    · have HE : Hid (WEnd Wb w (Jq.valueP n A x) (.returned (.bool false)) w1) := WEnd.no (by subst h0; exact valueP_list0 HK.out) hst1
      have d1 : decide (D < 16) = false := decide_eq_false (by have := HD.out; omega)
      clear h0 hr1 hst1 hl1 hD0 hD1
      go_wp2
      go_ret
      exact HE.out
    obtain ⟨m, hm⟩ : ∃ m, n = m + 1 := ⟨n - 1, by omega⟩
    have HM := Lib.hid hm
    have HS : Hid (Jq.valueP n A x = (Jq.addP A [91]).bind fun A1 => (Jq.listP (Jq.valueP m) 0 A1 x.list).bind fun A2 => Jq.addP A2 [93]) := by rw [hm]; exact valueP_list HON.out HK.out
    have hD2 : D < 16 := by have := HD.out; have := HNN.out; omega
    have d1 : decide (D < 16) = true := decide_eq_true hD2
    have hA : Calls Tryd.prog 58 #[.pointer (some ⟨Wb, 0, none⟩), .string { data := #[91] }] w1 (fun e w2 => WEnd Wb w1 (Jq.addP A [91]) e w2) := HA.out A { data := #[91] } w1 (by decide) hr1
    clear hm h0 hr1
    go_wp2_with fail
    refine hA.mono ?_
    intro e w2 hh
    clear hA
    rcases WEnd.cases hh with ⟨A1, hr, rfl, hw2, hs2⟩ | ⟨hr, rfl, hs2⟩
    rotate_left
    · have HE : Hid (WEnd Wb w (Jq.valueP n A x) (.returned (.bool false)) w2) := WEnd.no (by rw [HS.out, hr]; rfl) (hst1.trans hs2)
      clear hh hr hs2 hst1 hl1 z0 z1 z2 z3 z4 z5 hD0 hD1 hD2 d1
      go_wp2
      go_ret
      exact HE.out
    have HS : Hid (Jq.valueP n A x = (Jq.listP (Jq.valueP m) 0 A1 x.list).bind fun A2 => Jq.addP A2 [93]) := by unfold Hid; rw [HS.out, hr]; rfl
    have hst2 := hst1.trans hs2
    have hl2 := hs2.lies _ _ _ (by decide) (by omega) hl1
    have hB := HLI.out m A1 w2 HM.out hst2 hw2
    clear z0 z1 z2 z3 z4 z5
    obtain ⟨⟨z0, z1, z2, z3, z4, z5⟩, _⟩ := hl2.six
    clear hh hr hs2 hst1 hl1 hl2 hw2
    go_wp2_with fail
    refine hB.mono ?_
    intro e w3 hh
    clear hB
    rcases WEnd.cases hh with ⟨A2, hr, rfl, hw3, hs3⟩ | ⟨hr, rfl, hs3⟩
    rotate_left
    · have HE : Hid (WEnd Wb w (Jq.valueP n A x) (.returned (.bool false)) w3) := WEnd.no (by rw [HS.out, hr]; rfl) (hst2.trans hs3)
      clear hh hr hs3 hst2 z0 z1 z2 z3 z4 z5 hD0 hD1 hD2 d1
      go_wp2
      go_ret
      exact HE.out
    have HS : Hid (Jq.valueP n A x = Jq.addP A2 [93]) := by unfold Hid; rw [HS.out, hr]; rfl
    have hst3 := hst2.trans hs3
    have hC : Calls Tryd.prog 58 #[.pointer (some ⟨Wb, 0, none⟩), .string { data := #[93] }] w3 (fun e w2 => WEnd Wb w3 (Jq.addP A2 [93]) e w2) := HA.out A2 { data := #[93] } w3 (by decide) hw3
    clear hh hr hs3 hst2 hw3 z0 z1 z2 z3 z4 z5
    go_wp2_with fail
    refine hC.mono ?_
    intro e w4 hh
    clear hC
    have HE := Lib.hid (fin.out _ _ _ _ hst3 HS.out hh)
    rcases WEnd.cases hh with ⟨A3, _, rfl, _⟩ | ⟨_, rfl, _⟩
    all_goals
      clear hh hst3 hD0 hD1 hD2 d1
      go_wp2
      go_ret
      exact HE.out
  -- object
  · by_cases h0 : n = 0
    · have HE : Hid (WEnd Wb w (Jq.valueP n A x) (.returned (.bool false)) w1) := WEnd.no (by subst h0; exact valueP_obj0 HK.out) hst1
      have d1 : decide (D < 16) = false := decide_eq_false (by have := HD.out; omega)
      clear h0 hr1 hst1 hl1 hD0 hD1
      go_wp2
      go_ret
      exact HE.out
    obtain ⟨m, hm⟩ : ∃ m, n = m + 1 := ⟨n - 1, by omega⟩
    have HM := Lib.hid hm
    have HS : Hid (Jq.valueP n A x = (Jq.addP A [123]).bind fun A1 => (if x.names.length = x.list.length then Jq.membersP (Jq.valueP m) [] A1 x.names x.list else none).bind fun A2 => Jq.addP A2 [125]) := by rw [hm]; exact valueP_obj HON.out HK.out
    have hD2 : D < 16 := by have := HD.out; have := HNN.out; omega
    have d1 : decide (D < 16) = true := decide_eq_true hD2
    have hA : Calls Tryd.prog 58 #[.pointer (some ⟨Wb, 0, none⟩), .string { data := #[123] }] w1 (fun e w2 => WEnd Wb w1 (Jq.addP A [123]) e w2) := HA.out A { data := #[123] } w1 (by decide) hr1
    clear hm h0 hr1
    go_wp2_with fail
    refine hA.mono ?_
    intro e w2 hh
    clear hA
    rcases WEnd.cases hh with ⟨A1, hr, rfl, hw2, hs2⟩ | ⟨hr, rfl, hs2⟩
    rotate_left
    · have HE : Hid (WEnd Wb w (Jq.valueP n A x) (.returned (.bool false)) w2) := WEnd.no (by rw [HS.out, hr]; rfl) (hst1.trans hs2)
      clear hh hr hs2 hst1 hl1 z0 z1 z2 z3 z4 z5 hD0 hD1 hD2 d1
      go_wp2
      go_ret
      exact HE.out
    have HS : Hid (Jq.valueP n A x = (if x.names.length = x.list.length then Jq.membersP (Jq.valueP m) [] A1 x.names x.list else none).bind fun A2 => Jq.addP A2 [125]) := by unfold Hid; rw [HS.out, hr]; rfl
    have hst2 := hst1.trans hs2
    have hl2 := hs2.lies _ _ _ (by decide) (by omega) hl1
    have hB := HME.out m A1 w2 HM.out hst2 hw2
    obtain ⟨MR, eMR⟩ : ∃ MR, (if x.names.length = x.list.length then Jq.membersP (Jq.valueP m) [] A1 x.names x.list else none) = MR := ⟨_, rfl⟩
    rw [eMR] at HS hB
    clear z0 z1 z2 z3 z4 z5 eMR
    obtain ⟨⟨z0, z1, z2, z3, z4, z5⟩, _⟩ := hl2.six
    clear hh hr hs2 hst1 hl1 hl2 hw2
    go_wp2_with fail
    refine hB.mono ?_
    intro e w3 hh
    clear hB
    rcases WEnd.cases hh with ⟨A2, hr, rfl, hw3, hs3⟩ | ⟨hr, rfl, hs3⟩
    rotate_left
    · have HE : Hid (WEnd Wb w (Jq.valueP n A x) (.returned (.bool false)) w3) := WEnd.no (by rw [HS.out, hr]; rfl) (hst2.trans hs3)
      clear hh hr hs3 hst2 z0 z1 z2 z3 z4 z5 hD0 hD1 hD2 d1
      go_wp2
      go_ret
      exact HE.out
    have HS : Hid (Jq.valueP n A x = Jq.addP A2 [125]) := by unfold Hid; rw [HS.out, hr]; rfl
    have hst3 := hst2.trans hs3
    have hC : Calls Tryd.prog 58 #[.pointer (some ⟨Wb, 0, none⟩), .string { data := #[125] }] w3 (fun e w2 => WEnd Wb w3 (Jq.addP A2 [125]) e w2) := HA.out A2 { data := #[125] } w3 (by decide) hw3
    clear hh hr hs3 hst2 hw3 z0 z1 z2 z3 z4 z5
    go_wp2_with fail
    refine hC.mono ?_
    intro e w4 hh
    clear hC
    have HE := Lib.hid (fin.out _ _ _ _ hst3 HS.out hh)
    rcases WEnd.cases hh with ⟨A3, _, rfl, _⟩ | ⟨_, rfl, _⟩
    all_goals
      clear hh hst3 hD0 hD1 hD2 d1
      go_wp2
      go_ret
      exact HE.out
  -- another kind
  · have HE : Hid (WEnd Wb w (Jq.valueP n A x) (.returned (.bool false)) w1) := WEnd.no (by
      rw [valueP_scalar HON.out (by rw [HK.out]; exact k4) (by rw [HK.out]; exact k5)]
      unfold Jq.scalarP
      rw [HK.out, if_neg k0, if_neg k1, if_neg k2, if_neg k3]) hst1
    have d0 : (K == 0) = false := by rw [beq_eq_false_iff_ne]; exact k0
    have d1 : (K == 1) = false := by rw [beq_eq_false_iff_ne]; exact k1
    have d2 : (K == 2) = false := by rw [beq_eq_false_iff_ne]; exact k2
    have d3 : (K == 3) = false := by rw [beq_eq_false_iff_ne]; exact k3
    have d4 : (K == 4) = false := by rw [beq_eq_false_iff_ne]; exact k4
    have d5 : (K == 5) = false := by rw [beq_eq_false_iff_ne]; exact k5
    clear k0 k1 k2 k3 k4 k5 hr1 hst1 hl1
    go_wp2
    go_ret
    exact HE.out
theorem value_all : ∀ n, n ≤ 16 → ValueW n
  | 0, h => value_w 0 h fun m e => by omega
  | n + 1, h => value_w (n + 1) h fun m e => by
    have : n = m := by omega
    subst this
    exact value_all n (by omega)
end Go.Proofs.YtnbaajdcakjlmaaDoor

/-
  Print.
-/
namespace Go.Proofs.YtnbaajdcakjlmaaDoor
open Go.RowKit

/-- How Print ends. -/
def PrintEnd (res : Option (List Nat)) (w : World) (e : Ending) (w' : World) : Prop := Below w.heap.size w w' ∧ match res with
  | some B => e = .returned (.tuple #[.string (strOf B), .bool true]) ∧ (∀ x ∈ B, x < 256) ∧ B.length ≤ 4096
  | none => e = .returned (.tuple #[.string ByteArray.empty, .bool false])
theorem PrintEnd.cases {res : Option (List Nat)} {w w' : World} {e : Ending} (h : PrintEnd res w e w') :
    (∃ B, res = some B ∧ e = .returned (.tuple #[.string (strOf B), .bool true]) ∧ (∀ x ∈ B, x < 256) ∧ B.length ≤ 4096 ∧ Below w.heap.size w w') ∨ (res = none ∧ e = .returned (.tuple #[.string ByteArray.empty, .bool false]) ∧ Below w.heap.size w w') := by
  obtain ⟨hb, h⟩ := h
  split at h
  · exact .inl ⟨_, rfl, h.1, h.2.1, h.2.2, hb⟩
  · exact .inr ⟨rfl, h, hb⟩
/-- A value that came in is one in any later world. -/
theorem IsJ.later {w w' : World} {ok : Nat → Prop} {v : Value} {x : Jq.J} (h : IsJ w ok v x) {B : Nat} (hb : Below w.heap.size w w') (hB : w.heap.size ≤ B) : IsJ w' (· < B) v x :=
  h.keep (fun b _ hlt => ⟨Nat.lt_of_lt_of_le hlt hB, hb.block b hlt⟩) hb.size

set_option maxRecDepth 100000 in
set_option maxHeartbeats 2000000 in
theorem print_any {ok : Nat → Prop} (v : Value) (x : Jq.J) (w : World) (hH : Held w) (hJ : IsJ w ok v x) :
    Calls Tryd.prog 37 #[v] w (PrintEnd (Jq.valueP 16 [] x) w) := by
  obtain ⟨A1, c1, A2, c2, rfl⟩ := hJ.form
  have hb0 : ∀ o o', Below w.heap.size w ((w.alloc o).alloc o') := fun o o' => ((Below.refl _ _).alloc (Nat.le_refl _) o).alloc (by simp) o'
  have hv := value_all 16 (Nat.le_refl _) w (w.heap.size + 1) [] _ x ((w.alloc (.cells #[.int .i64 x.kind, .bool x.bool, .int .i64 x.int, .string (strOf x.text), .slice A1 x.names.length c1, .slice A2 x.list.length c2] 27)).alloc (.cells #[.slice none 0 0] 87))
    hH (hb0 _ _) (Nat.le_succ _) ⟨.slice none 0 0, Lies.new_ (by simp), World.ownsRow_nil _ _ _ _, (fun x hx => nomatch hx), Nat.zero_le _⟩ (hJ.later (hb0 _ _) (Nat.le_succ _))
  rw [show ((16 - 16 : Nat) : Int) = 0 from rfl] at hv
  obtain ⟨RES, eRES⟩ : ∃ RES, Jq.valueP 16 [] x = RES := ⟨_, rfl⟩
  rw [eRES] at hv ⊢
  have HB0 := Lib.hid hb0
  clear eRES hJ hH hb0
  go_enter Tryd.func37, Tryd.ntmps37
  go_wp2_with fail
  refine hv.mono ?_
  intro e w1 hh
  clear hv
  rcases WEnd.cases hh with ⟨B, hr, rfl, hw, hs⟩ | ⟨hr, rfl, hs⟩
  · have hbb : Below w.heap.size w w1 := (HB0.out _ _).trans (hs.below.mono (Nat.le_succ _))
    obtain ⟨tv, h1, h2, h3, h4⟩ := hw
    obtain ⟨A0, cap, rfl⟩ := own_slice h2
    have c0 := h1.cell 0
    obtain ⟨_, harg⟩ := own_arg h2 h3
    have hcv := conv_str harg
    have HE : Hid (PrintEnd RES w (.returned (.tuple #[.string (strOf B), .bool true])) w1) := ⟨hbb, by rw [hr]; exact ⟨rfl, h3, h4⟩⟩
    clear hh hr hs hbb h1 h2 h3 h4 harg
    go_wp2
    go_ret2
    exact HE.out
  · have HE : Hid (PrintEnd RES w (.returned (.tuple #[.string ByteArray.empty, .bool false])) w1) := ⟨(HB0.out _ _).trans (hs.below.mono (Nat.le_succ _)), by rw [hr]⟩
    clear hh hr hs
    go_wp2
    go_ret2
    exact HE.out
end Go.Proofs.YtnbaajdcakjlmaaDoor
