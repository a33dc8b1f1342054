/-
  The document's Print: put, quote.
-/
import Derived.Test.YthhlmalpelgpeaaGreatDoorG21
import Derived.Test.YthhlmalpelgpeaaGreatDoorG11
import Derived.Test.YthhlmalpelgpeaaGreatDoorG01
import Derived.Test.YthhlmalpelgpeaaGreatDoorQM
import Derived.Lib.AppendStr
namespace Go.Proofs.YthhlmalpelgpeaaGreatDoor
open Go.RowKit

/-- X behind q, or something too long, if that is. -/
def Puts (q X q' : List Nat) : Prop := if (q ++ X).length ≤ 4096 then q' = q ++ X else 4096 < q'.length
theorem Puts.over {q q' : List Nat} (X : List Nat) (h : 4096 < q.length) (h' : 4096 < q'.length) : Puts q X q' := by
  unfold Puts
  rw [if_neg (by rw [List.length_append]; omega)]
  exact h'
theorem Puts.trans {q X q1 Y q2 : List Nat} (h1 : Puts q X q1) (h2 : Puts q1 Y q2) : Puts q (X ++ Y) q2 := by
  unfold Puts at *
  by_cases a : (q ++ X).length ≤ 4096
  · rw [if_pos a] at h1
    subst h1
    rw [List.append_assoc] at h2
    exact h2
  · rw [if_neg a] at h1
    rw [if_neg (by rw [List.length_append]; omega)] at h2
    rw [if_neg (by rw [List.length_append, List.length_append]; rw [List.length_append] at a; omega)]
    exact h2
theorem Puts.nil (q : List Nat) : Puts q [] q := by
  unfold Puts
  rw [List.append_nil]
  split
  · rfl
  · omega
theorem Puts.exact {q X q' : List Nat} (h : q' = q ++ X) : Puts q X q' := by
  subst h
  unfold Puts
  split
  · rfl
  · omega
theorem Puts.same {q X Y q' : List Nat} (h : Puts q X q') (e : X = Y ∨ (4096 < X.length ∧ 4096 < Y.length)) : Puts q Y q' := by
  rcases e with rfl | ⟨h1, h2⟩
  · exact h
  · unfold Puts at *
    rw [if_neg (by rw [List.length_append]; omega)] at h ⊢
    exact h
/-- Bytes behind bytes: how a step of the document's writer ends. -/
def BsEnd (q X : List Nat) (w : World) (e : Ending) (w' : World) : Prop := Below w.heap.size w w' ∧ ∃ A c q', e = .returned (.slice A q'.length c) ∧ ArgIs w' A c q' ∧ Puts q X q'
theorem own_empty_bytes (w : World) : (w.alloc (.cells #[] 5)).ownsRow w.heap.size 5 1 (.slice (some ⟨w.heap.size, 0, none⟩) 0 0) 0 (u8s []) :=
  ⟨rfl, .inr ⟨w.heap.size, 0, #[], rfl, Nat.le_refl _, heap_alloc_new w _, Nat.le_refl _, Nat.zero_le _, rfl, rfl⟩⟩
set_option maxHeartbeats 2000000 in
set_option maxRecDepth 100000 in
theorem put_any (q : List Nat) (s : ByteArray) (A : Option Addr) (c n : Nat) (w : World) (hq : ArgIs w A c q) (hn : q.length = n) :
    Calls Tryz.prog 18 #[.slice A n c, .string s] w (BsEnd q (numsOf s) w) := by
  have Hlen := Lib.hid (numsOf_length s)
  have hnc : n ≤ 9223372036854775807 := by rw [← hn]; exact Nat.le_trans hq.1 hq.2.1
  by_cases hbig : 4096 < n ∨ 4096 < s.size
  · have hdd : decide ((4096 : Int) < (n : Int)) = true ∨ (decide ((4096 : Int) < (n : Int)) = false ∧ decide ((4096 : Int) < (s.size : Int)) = true) := by
      by_cases h : 4096 < n
      · exact .inl (decide_eq_true (by omega))
      · exact .inr ⟨decide_eq_false (by omega), decide_eq_true (by omega)⟩
    have HX : Hid (∀ q' : List Nat, q'.length = 4097 → Puts q (numsOf s) q') := fun q' h => by
      unfold Puts
      rw [if_neg (by rw [List.length_append, Hlen.out, hn]; omega)]
      omega
    clear hq hn hbig
    rcases hdd with d1 | ⟨d1, d2⟩
    all_goals
      go_enter Tryz.func18, Tryz.ntmps18
      repeat ((fail_if_success (with_reducible show wpList _ _ _ (⟨some 14, _, _, _, _, _⟩ :: _) _ _)); first | go_values | go_skip | go_guarded | go_step | go_upon | go_back | go_simp)
      refine make_at rfl (Operand.const (Value.int IntKind.i64 4097)) (Operand.const (Value.int IntKind.i64 4097)) rfl 4097 4097 rfl rfl (by decide) (by decide) ?_
      intro w1 hl1 hb1
      have HE : Hid (BsEnd q (numsOf s) w (.returned (.slice (some ⟨w.heap.size, 0, none⟩) 4097 4097)) w1) := ⟨hb1, some ⟨w.heap.size, 0, none⟩, 4097, List.replicate 4097 0, by rw [List.length_replicate], arg_lies hl1 (rep_lt 4097) (by rw [List.length_replicate]; exact Nat.le_refl _) (by decide), HX.out _ (by rw [List.length_replicate])⟩
      clear hl1 hb1
      go_frame
      go_wp2
      go_ret
      exact HE.out
  have d1 : decide ((4096 : Int) < (n : Int)) = false := decide_eq_false (by omega)
  have d2 : decide ((4096 : Int) < (s.size : Int)) = false := decide_eq_false (by omega)
  have hn2 : n ≤ 4096 := by omega
  have hs2 : s.size ≤ 4096 := by omega
  have HQ := Lib.hid hq
  have HN := Lib.hid hn
  clear hq hn hbig
  go_enter Tryz.func18, Tryz.ntmps18
  repeat ((fail_if_success (with_reducible show wpList _ _ _ (⟨some 17, _, _, _, _, _⟩ :: _) _ _)); first | go_values | go_skip | go_guarded | go_step | go_upon | go_back | go_simp)
  have hown0 := own_empty_bytes w
  have hbx := below_new2 w
  have hb0 : Below w.heap.size w (w.alloc (.cells #[] 5)) := (Below.refl _ _).alloc (Nat.le_refl _) _
  have hq0 := HQ.out.alloc (.cells #[] 5)
  refine append_arg rfl (.tmp 15) (.tmp 16) rfl w.heap.size (.slice (some ⟨w.heap.size, 0, none⟩) 0 0) 0 (u8s []) A c q hown0 hq0 rfl (by rw [HN.out]; rfl) (by rw [HN.out]; omega) hb0.size ?_
  intro v1 w1 hown1 hgr1
  rw [HN.out, Nat.zero_add, ← u8s_append, List.nil_append] at hown1
  have hb1 : Below w.heap.size w w1 := hb0.grown hgr1 hb0.size (fun k e => (hown0.lt k e).1)
  obtain ⟨A1, c1, rfl⟩ := own_slice hown1
  clear hown0 hbx hb0 hq0 hgr1
  go_frame
  repeat ((fail_if_success (with_reducible show wpList _ _ _ (⟨some 20, _, _, _, _, _⟩ :: _) _ _)); first | go_values | go_skip | go_guarded | go_step | go_upon | go_back | go_simp)
  obtain ⟨i0, hi, hz0, hz1, hz2⟩ := info_parts infoByte
  with_reducible refine Lib.wpList_append_own_string _ rfl (.tmp 18) (.tmp 19) 31 9 rfl w.heap.size 5 i0 Tryz.underlying31 Tryz.underlying9 hi hz0 hz1 hz2 (.slice A1 n c1) n (u8s q) ?r1 hown1 s ?r2 ?r3 ?r4 ?r5 ?r6
  case r1 => rfl
  case r2 => rfl
  case r3 => unfold maxLen; omega
  case r4 => omega
  case r5 => exact hb1.size
  case r6 =>
    intro v2 w2 hown2 hgr2 hnil
    clear hnil
    obtain ⟨A2, c2, rfl⟩ := own_slice hown2
    rw [zstr_cells, ← u8s_append] at hown2
    have hb2 : Below w.heap.size w w2 := hb1.grown hgr2 hb1.size (fun k e => (hown1.lt k e).1)
    have hbytes : ∀ x ∈ q ++ numsOf s, x < 256 := fun x hx => by
      rcases List.mem_append.1 hx with h | h
      · exact HQ.out.2.2.1 x h
      · exact numsOf_lt s x h
    have harg := own_arg hown2 hbytes
    have HE : Hid (BsEnd q (numsOf s) w (.returned (.slice A2 (n + s.size) c2)) w2) := ⟨hb2, A2, c2, q ++ numsOf s, by rw [harg.1], harg.2, Puts.exact rfl⟩
    clear hown1 hown2 hgr2 hb1 hb2 hbytes harg hi hz0 hz1 hz2 i0
    go_frame
    go_wp2
    go_ret
    exact HE.out
end Go.Proofs.YthhlmalpelgpeaaGreatDoor
