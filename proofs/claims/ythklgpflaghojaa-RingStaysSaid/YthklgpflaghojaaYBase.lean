/-
  What the walks over keys want of bytes, texts and rows.
-/
import Derived.Test.YthklgpflaghojaaTMem
import Derived.WalkMore
import Derived.Outline
import Derived.OwnWalk
namespace Go.Proofs.Ythklgpflaghojaa.Wq

/-- A key's name. -/
def KidOk (k : List Nat) : Prop := 1 ≤ k.length ∧ k.length ≤ 64 ∧ ∀ x ∈ k, 33 ≤ x ∧ x ≤ 126
instance (k : List Nat) : Decidable (KidOk k) := inferInstanceAs (Decidable (_ ∧ _))
theorem KidOk.lt {k : List Nat} (h : KidOk k) : ∀ x ∈ k, x < 256 := fun x hx => by have := h.2.2 x hx; omega
end Go.Proofs.Ythklgpflaghojaa.Wq
namespace Go.Proofs.Ythklgpflaghojaa
open Go.RowKit

theorem nums_at (s : ByteArray) (k : Nat) (h : k < s.size) : (numsOf s).getD k 0 = s[k].toNat := by
  have h' : k < s.data.toList.length := by simpa using h
  rw [List.getD_eq_getElem?_getD, numsOf, List.getElem?_map, List.getElem?_eq_getElem h']
  rfl

theorem mem_getD {S : List Nat} {P : Nat → Prop} (h : ∀ j, j < S.length → P (S.getD j 0)) : ∀ c ∈ S, P c := by
  intro c hc
  obtain ⟨j, hj, rfl⟩ := List.getElem_of_mem hc
  have := h j hj
  rwa [List.getD_eq_getElem?_getD, List.getElem?_eq_getElem hj] at this
theorem getD_mem'' {S : List Nat} {k : Nat} (h : k < S.length) : S.getD k 0 ∈ S := by
  rw [List.getD_eq_getElem?_getD, List.getElem?_eq_getElem h]
  exact List.getElem_mem _
/-- What isKid answers. -/
def KidEnd (S : List Nat) (w : World) (e : Ending) (w' : World) : Prop := w = w' ∧ ((Wq.KidOk S ∧ e = .returned (.bool true)) ∨ (¬ Wq.KidOk S ∧ e = .returned (.bool false)))
set_option maxHeartbeats 1000000 in
set_option maxRecDepth 100000 in
theorem named8_any (s : ByteArray) (w : World) :
    Calls Try.prog 25 #[.string s] w (KidEnd (numsOf s) w) := by
  have Hlen := Lib.hid (numsOf_length s)
  by_cases h0 : s.size < 1
  · have hd : decide ((s.size : Int) < 1) = true := decide_eq_true (by omega)
    have HE : Hid (¬ Wq.KidOk (numsOf s)) := fun h => absurd h.1 (by rw [Hlen.out]; omega)
    go_enter Try.func25, Try.ntmps25
    go_wp2
    go_ret
    exact ⟨rfl, .inr ⟨HE.out, rfl⟩⟩
  have hd0 : decide ((s.size : Int) < 1) = false := decide_eq_false (by omega)
  by_cases h64 : 64 < s.size
  · have hd : decide ((64 : Int) < (s.size : Int)) = true := decide_eq_true (by omega)
    have HE : Hid (¬ Wq.KidOk (numsOf s)) := fun h => absurd h.2.1 (by rw [Hlen.out]; omega)
    go_enter Try.func25, Try.ntmps25
    go_wp2
    go_ret
    exact ⟨rfl, .inr ⟨HE.out, rfl⟩⟩
  have hd : decide ((64 : Int) < (s.size : Int)) = false := decide_eq_false (by omega)
  go_enter Try.func25, Try.ntmps25
  go_wp2_with fail
  go_loop [3] (fun i => ∃ k : Nat, i = .int .i64 k ∧ k ≤ s.size ∧ Hid (∀ j, j < k → 33 ≤ (numsOf s).getD j 0 ∧ (numsOf s).getD j 0 ≤ 126)) (fun i => s.size - (intOf i).toNat)
  case atStart => exact ⟨0, rfl, Nat.zero_le _, fun j hj => by omega⟩
  case round =>
    obtain ⟨k, rfl, hk, Hno⟩ := hrel
    by_cases hlt : k < s.size
    · have hX := Lib.hid (nums_at s k hlt)
      have HN : Hid (¬ (33 ≤ s[k].toNat ∧ s[k].toNat ≤ 126) → ¬ Wq.KidOk (numsOf s)) := fun hn h => by
        have := h.2.2 _ (getD_mem'' (S := numsOf s) (k := k) (by rw [Hlen.out]; exact hlt))
        rw [hX.out] at this
        exact hn this
      by_cases h1 : s[k].toNat < 33
      · have HE := Lib.hid (HN.out (by omega))
        go_wp2
        go_ret
        exact ⟨rfl, .inr ⟨HE.out, rfl⟩⟩
      · by_cases h2 : 126 < s[k].toNat
        · have HE := Lib.hid (HN.out (by omega))
          go_wp2
          go_ret
          exact ⟨rfl, .inr ⟨HE.out, rfl⟩⟩
        · have HC : Hid (∀ j, j < k + 1 → 33 ≤ (numsOf s).getD j 0 ∧ (numsOf s).getD j 0 ≤ 126) := fun j hj => by
            rcases Nat.lt_or_eq_of_le (Nat.le_of_lt_succ hj) with h | h
            · exact Hno.out j h
            · rw [h, hX.out]; omega
          go_wp2
          go_round
          case rel => exact ⟨k + 1, by go_num, by omega, HC⟩
          case measure => simp [intOf]; omega
    · obtain rfl : k = s.size := by omega
      have hdl : decide ((s.size : Int) < (s.size : Int)) = false := by simp
      have HC : Hid (Wq.KidOk (numsOf s)) := ⟨by rw [Hlen.out]; omega, by rw [Hlen.out]; omega, mem_getD (P := fun c => 33 ≤ c ∧ c ≤ 126) fun j hj => Hno.out j (by rwa [Hlen.out] at hj)⟩
      go_wp2
      go_ret
      exact ⟨rfl, .inl ⟨HC.out, rfl⟩⟩
def jcells : Value → List Value
  | .agg cs => cs.toList
  | v => [v]
/-- A slice of n elements whose cells are these, in blocks of which ok speaks. -/
def SlIs (w : World) (ok : Nat → Prop) (v : Value) (n : Nat) (cs : List Value) : Prop :=
  ∃ A c, v = .slice A n c ∧ n ≤ c ∧ c ≤ 9223372036854775807 ∧ (0 < n → ∃ b off, A = some ⟨b, off, none⟩ ∧ ok b ∧ b < w.heap.size ∧ ∀ j x, cs[j]? = some x → w.cell? ⟨b, off + j, none⟩ = some x)
theorem SlIs.nil (w : World) (ok : Nat → Prop) : SlIs w ok (.slice none 0 0) 0 [] := ⟨none, 0, rfl, Nat.le_refl _, by omega, fun h => absurd h (Nat.lt_irrefl _)⟩
theorem SlIs.keep {w w' : World} {ok ok' : Nat → Prop} {v : Value} {n : Nat} {cs : List Value} (h : SlIs w ok v n cs) (hk : ∀ b, ok b → b < w.heap.size → ok' b ∧ w'.heap[b]? = w.heap[b]?) (hs : w.heap.size ≤ w'.heap.size) : SlIs w' ok' v n cs := by
  obtain ⟨A, c, rfl, h1, h2, h3⟩ := h
  refine ⟨A, c, rfl, h1, h2, fun hn => ?_⟩
  obtain ⟨b, off, rfl, h4, h5, h6⟩ := h3 hn
  obtain ⟨k1, k2⟩ := hk b h4 h5
  exact ⟨b, off, rfl, k1, Nat.lt_of_lt_of_le h5 hs, fun j x hj => (World.cell?_of_block (a := ⟨b, off + j, none⟩) k2).trans (h6 j x hj)⟩
theorem SlIs.form {w : World} {ok : Nat → Prop} {v : Value} {n : Nat} {cs : List Value} (h : SlIs w ok v n cs) : ∃ A c, v = .slice A n c := by
  obtain ⟨A, c, rfl, _⟩ := h
  exact ⟨A, c, rfl⟩
theorem drop_at {α : Type} {l : List α} {i : Nat} {x : α} (h : l[i]? = some x) : l.drop i = x :: l.drop (i + 1) := by
  obtain ⟨hi, rfl⟩ := List.getElem?_eq_some_iff.1 h
  exact List.drop_eq_getElem_cons hi
/-- A row of the call's own is a slice whose cells are these. -/
theorem own_slIs {w : World} {base : Nat} {e : TypeId} {size : Nat} {v : Value} {n : Nat} {cs : List Value} (h : w.ownsRow base e size v n cs) : SlIs w (base ≤ ·) v n cs := by
  obtain ⟨h1, h2⟩ := h
  rcases h2 with ⟨rfl, rfl⟩ | ⟨g, cap, cur, rfl, hb, hg, hn, hc, hs, ht⟩
  · have : cs = [] := List.eq_nil_of_length_eq_zero (by simpa using h1)
    subst this
    exact SlIs.nil w _
  · unfold maxLen at hc
    refine ⟨_, cap, rfl, hn, by omega, fun _ => ⟨g, 0, rfl, hb, (Array.getElem?_eq_some_iff.1 hg).1, fun j x hj => ?_⟩⟩
    rw [Nat.zero_add, cell_of_row w g j cur _ _ hg, ← Array.getElem?_toList]
    rw [← ht, List.getElem?_take] at hj
    split at hj
    · exact hj
    · cases hj

/-- A bool that tells whether two things are equal. -/
def Tells (P : Prop) (w : World) (e : Ending) (w' : World) : Prop := Below w.heap.size w w' ∧ ((P ∧ e = .returned (.bool true)) ∨ (¬ P ∧ e = .returned (.bool false)))
theorem Tells.yes {P : Prop} {w w' : World} (h : P) (hb : Below w.heap.size w w') : Tells P w (.returned (.bool true)) w' := ⟨hb, .inl ⟨h, rfl⟩⟩
theorem Tells.no {P : Prop} {w w' : World} (h : ¬ P) (hb : Below w.heap.size w w') : Tells P w (.returned (.bool false)) w' := ⟨hb, .inr ⟨h, rfl⟩⟩
theorem SlIs.on {w w' : World} {ok : Nat → Prop} {v : Value} {n : Nat} {cs : List Value} (h : SlIs w ok v n cs) (hb : Below w.heap.size w w') : SlIs w' ok v n cs :=
  h.keep (fun b hb' hlt => ⟨hb', hb.block b hlt⟩) hb.size
theorem below_more {w w1 w2 : World} (h1 : Below w.heap.size w w1) (h2 : Below w1.heap.size w1 w2) : Below w.heap.size w w2 := h1.trans (h2.mono h1.size)
theorem below_alloc {w w1 : World} (h : Below w.heap.size w w1) (o : Obj) : Below w.heap.size w (w1.alloc o) := h.alloc h.size o
theorem Tells.as {P : Prop} {w w' : World} {e : Ending} (h : Tells P w e w') : ∃ r : Bool, e = .returned (.bool r) ∧ (r = true ↔ P) ∧ Below w.heap.size w w' := by
  obtain ⟨hb, ⟨h, rfl⟩ | ⟨h, rfl⟩⟩ := h
  · exact ⟨true, rfl, ⟨fun _ => h, fun _ => rfl⟩, hb⟩
  · exact ⟨false, rfl, ⟨fun e => (nomatch e), fun e => absurd e h⟩, hb⟩
theorem below_undrew {B : Nat} {w w' : World} (h : Below B w.drew w') : Below B w w' := ⟨h.os, h.tape, h.output, h.size, h.block⟩
theorem drewN_below {B : Nat} (w : World) (n : Nat) : Below B w (w.drewN n) := ⟨rfl, rfl, rfl, Nat.le_refl _, fun _ _ => rfl⟩
theorem conv_str {w : World} {A : Option Addr} {c : Nat} {q : List Nat} (h : ArgIs w A c q) : (convert 25 9 (.slice A q.length c)).run Try.prog w = .ok (.string (strOf q)) w :=
  conv_any h _ 5 _ Try.underlying25 Try.underlying5 Try.underlying9

abbrev nilS : Value := .slice none 0 0

/-- How a law ends. -/
def IsTrue (w : World) (e : Ending) (w' : World) : Prop := e = .returned (.bool true) ∧ Below w.heap.size w w'

theorem info5b : (Try.prog.info? 5).map (fun i => (i.zero, i.size, i.bytes)) = some (some (.int .u8 0), 1, 1) := by kernel_rfl
section
variable {ops : Array Oper} {rest : List Oper} {o : Oper} {a : Act} {Q : Exit → Act → World → Prop} {w : World}
theorem src_at {w : World} {b off : Nat} {q : List Nat} (h : BytesAt w b off q) {i : Nat} {v : Value} (hv : (u8s q)[i]? = some v) : w.cell? ((⟨b, off, none⟩ : Addr).add i) = some v := by
  simp only [u8s, List.getElem?_map, Option.map_eq_some_iff] at hv
  obtain ⟨x, hx, rfl⟩ := hv
  rw [Addr.add_lit]
  exact (h i x hx).2
/-- append of bytes that came in, whatever their address, onto a row of the call's own. -/
theorem run_append_arg {base n : Nat} {v : Value} {xs : List Value} {A : Option Addr} {c : Nat} {q : List Nat} (ty : TypeId) (hown : w.ownsRow base 5 1 v n xs) (hq : ArgIs w A c q)
    (hb : n + q.length ≤ 140737488355328) (hbase : base ≤ w.heap.size) :
    ∃ v' w', (Builtin.append_ #[25, 25] ty #[v, .slice A q.length c]).run Try.prog w = .ok v' w' ∧ w'.ownsRow base 5 1 v' (n + q.length) (xs ++ u8s q) ∧ w.grownBy w' v.ownBlock := by
  obtain ⟨i0, hi, hz0, hz1, hz2⟩ := info_parts info5b
  have h63 : n + q.length ≤ maxLen := by unfold maxLen; omega
  have main : ∀ a : Addr, A = some a → (∀ j u, (u8s q)[j]? = some u → w.cell? (a.add j) = some u) →
      ∃ v' w', (Builtin.append_ #[25, 25] ty #[v, .slice A q.length c]).run Try.prog w = .ok v' w' ∧ w'.ownsRow base 5 1 v' (n + q.length) (xs ++ u8s q) ∧ w.grownBy w' v.ownBlock := by
    rintro a rfl ha
    obtain ⟨v', w', h1, h2, h3, _⟩ := run_append_own (P := Try.prog) w base 25 ty 5 i0 (.int .u8 0) 1 1 Try.underlying25 hi hz0 hz1 hz2 rfl (by decide) v n xs hown a q.length c (u8s q) (by rw [u8s_length]; omega) ha (u8s_one q) h63 (by omega) hbase
    exact ⟨v', w', h1, h2, h3⟩
  rcases Nat.eq_zero_or_pos q.length with h0 | h0
  · obtain rfl : q = [] := List.eq_nil_of_length_eq_zero h0
    cases A with
    | some a => exact main a rfl (fun j u hj => by simp [u8s] at hj)
    | none =>
      refine ⟨v, w, ?_, by simpa [u8s] using hown, World.grownBy.refl w _⟩
      rcases hown.2 with ⟨rfl, rfl⟩ | ⟨g, cap, cur, rfl, _, _, hnc, _⟩
      · simp [Builtin.append_, run_underlying Try.underlying25, sizeOf, typeInfo, hi, Builtin.lenOf, Builtin.firstCells]
      · simp [Builtin.append_, run_underlying Try.underlying25, sizeOf, typeInfo, hi, Builtin.lenOf, Builtin.firstCells, hnc, storeCells]
  · obtain ⟨b, off, rfl, _, hby⟩ := hq.2.2.2 h0
    exact main _ rfl (fun j u hj => src_at hby hj)
theorem append_arg (hgd : o.guard = none) (s x : Operand)
    (ho : o.op = .call { callee := .builtin .append, args := #[s, x], argTypes := #[25, 25] })
    (base : Nat) (v : Value) (n : Nat) (xs : List Value) (A : Option Addr) (c : Nat) (q : List Nat) (hown : w.ownsRow base 5 1 v n xs) (hq : ArgIs w A c q)
    (hs : a.eval s = v) (hx : a.eval x = .slice A q.length c) (hb : n + q.length ≤ 140737488355328) (hbase : base ≤ w.heap.size)
    (h : ∀ v' w', w'.ownsRow base 5 1 v' (n + q.length) (xs ++ u8s q) → w.grownBy w' v.ownBlock → wpList Try.prog ops Q rest (a.put o.dst v') w') : wpList Try.prog ops Q (o :: rest) a w := by
  refine wpList_plain hgd fun K hK => ?_
  obtain ⟨v', w', hrun, h2, h3⟩ := run_append_arg o.type hown hq hb hbase
  unfold Oper.wp
  simp [execOp, ho, resolve, invoke, builtin, hs, hx, hrun, Result.andThen]
  exact hK _ _ (h v' w' h2 h3)
end

end Go.Proofs.Ythklgpflaghojaa
