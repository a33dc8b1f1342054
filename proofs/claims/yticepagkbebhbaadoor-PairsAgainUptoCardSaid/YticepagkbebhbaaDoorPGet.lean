/-
  The contracts of Get and of the document's Get.
-/
import Derived.Test.YticepagkbebhbaaDoorPMem
import Derived.Outline
namespace Go.Proofs.YticepagkbebhbaaDoor
open Go.RowKit

def GetEnd (L : List (List Nat × List Nat)) (nm : List Nat) (w : World) (e : Ending) (w' : World) : Prop :=
  e = .returned (.tuple #[.string (strOf (Pq.first L nm)), .int .i64 (Pq.many L nm : Nat)]) ∧ Below w.heap.size w w'
def GetRel (L : List (List Nat × List Nat)) (nm : List Nat) (n : Nat) (w : World) (v c i : Value) (wr : World) : Prop :=
  ∃ (k m : Nat) (V : ByteArray), i = .int .i64 k ∧ k ≤ n ∧ c = .int .i64 m ∧ m ≤ k ∧ m = Pq.many (L.take k) nm ∧ v = .string V ∧ V = strOf (Pq.first (L.take k) nm) ∧ Below w.heap.size w wr
theorem take_at (L : List (List Nat × List Nat)) (k : Nat) (h : k < L.length) : L.take (k + 1) = L.take k ++ [L.getD k ([], [])] := by
  rw [List.take_succ_eq_append_getElem h]
  simp [List.getD_eq_getElem?_getD, List.getElem?_eq_getElem h]

set_option maxHeartbeats 2000000 in
set_option maxRecDepth 100000 in
theorem get_any (L : List (List Nat × List Nat)) (nm : List Nat) (A : Option Addr) (c : Nat) (w : World) (hA : Row w A (pcells L)) (hL : Pq.Fine L) (hnm : ∀ x ∈ nm, x < 256) (hn : L.length ≤ 140737488355328) :
    Calls Tryd.prog 21 #[.slice A L.length c, .string (strOf nm)] w fun e w' => GetEnd L nm w e w' := by
  obtain ⟨n, en⟩ : ∃ n, L.length = n := ⟨_, rfl⟩
  have Hn := Lib.hid en
  rw [en] at hn ⊢
  clear en
  go_enter Tryd.func21, Tryd.ntmps21
  go_wp2_with fail
  go_loopw [6, 7, 12] (fun v m i wr => GetRel L nm n w v m i wr) (fun _ _ i _ => n - (intOf i).toNat)
  case atStart => exact ⟨0, 0, _, rfl, Nat.zero_le _, rfl, Nat.le_refl _, rfl, rfl, rfl, Below.refl _ _⟩
  case round =>
    obtain ⟨k, m, V, rfl, hk, rfl, hmk, hm, rfl, hV, hb⟩ := hrel
    have Hm := Lib.hid hm
    have HV := Lib.hid hV
    clear hm hV
    by_cases hlt : k < n
    · obtain ⟨b, off, rfl, hbw, c0, c1⟩ := (hA.below hb (Nat.le_refl _)).pair (by rw [Hn.out]; exact hlt)
      have HT := Lib.hid (take_at L k (by rw [Hn.out]; exact hlt))
      have hbq := str_beq (getD_lt hL k).1 hnm
      obtain ⟨p, ep⟩ : ∃ p, L.getD k ([], []) = p := ⟨_, rfl⟩
      rw [ep] at c0 c1 HT hbq
      have hb2 := hb.alloc hb.size (.cells #[.string (strOf p.1), .string (strOf p.2)] 39)
      clear ep hA hb
      by_cases hp : p.1 = nm
      · rw [decide_eq_true hp] at hbq
        have Hp := Lib.hid hp
        have hb' : ((strOf p.1).toList != (strOf nm).toList) = false := by simp only [bne, hbq]; rfl
        clear hp
        by_cases h0 : m = 0
        · have hd : ((m : Int) == 0) = true := by rw [beq_iff_eq]; omega
          have H0 := Lib.hid h0
          clear h0
          go_wp2
          go_roundw
          case rel => exact ⟨k + 1, m + 1, _, by go_num, by omega, by go_num, by omega, by rw [HT.out, Pq.many_snoc_yes _ Hp.out, Hm.out], rfl, by rw [HT.out, Pq.first_snoc_new _ (Hm.out.symm.trans H0.out) Hp.out], hb2⟩
          case measure => simp [intOf]; omega
        · have hd : ((m : Int) == 0) = false := by rw [beq_eq_false_iff_ne]; omega
          have H0 := Lib.hid h0
          clear h0
          go_wp2
          go_roundw
          case rel => exact ⟨k + 1, m + 1, _, by go_num, by omega, by go_num, by omega, by rw [HT.out, Pq.many_snoc_yes _ Hp.out, Hm.out], rfl, by rw [HT.out, Pq.first_snoc_old _ _ (fun h => H0.out (Hm.out.trans h)), HV.out], hb2⟩
          case measure => simp [intOf]; omega
      · rw [decide_eq_false hp] at hbq
        have Hp := Lib.hid hp
        have hb' : ((strOf p.1).toList != (strOf nm).toList) = true := by simp only [bne, hbq]; rfl
        clear hp
        go_wp2
        go_roundw
        case rel => exact ⟨k + 1, m, _, by go_num, by omega, rfl, by omega, by rw [HT.out, Pq.many_snoc_no _ Hp.out, Hm.out], rfl, by rw [HT.out, Pq.first_snoc_no _ Hp.out, HV.out], hb2⟩
        case measure => simp [intOf]; omega
    · obtain rfl : k = n := by omega
      have hd : decide ((k : Int) < (k : Int)) = false := by simp
      have HT : Hid (L.take k = L) := List.take_of_length_le (by rw [Hn.out]; exact Nat.le_refl _)
      rw [HT.out] at Hm HV
      go_wp2
      go_ret2
      exact ⟨by rw [← HV.out, ← Hm.out]; rfl, hb⟩

def RefGRel (L : List (List Nat × List Nat)) (nm : List Nat) (n : Nat) (v c i : Value) : Prop :=
  ∃ (k m : Nat) (V : ByteArray), i = .int .i64 ((k : Int) - 1) ∧ k ≤ n ∧ c = .int .i64 m ∧ m ≤ n - k ∧ m = Pq.many (L.drop k) nm ∧ v = .string V ∧ V = strOf (Pq.first (L.drop k) nm)
theorem drop_pair (L : List (List Nat × List Nat)) (k : Nat) (h : k < L.length) : L.drop k = L.getD k ([], []) :: L.drop (k + 1) := by
  rw [List.drop_eq_getElem_cons h]
  simp [List.getD_eq_getElem?_getD, List.getElem?_eq_getElem h]

set_option maxHeartbeats 2000000 in
set_option maxRecDepth 100000 in
theorem refGet_any (L : List (List Nat × List Nat)) (nm : List Nat) (A : Option Addr) (c : Nat) (w : World) (hA : Row w A (pcells L)) (hL : Pq.Fine L) (hnm : ∀ x ∈ nm, x < 256) (hn : L.length ≤ 140737488355328) :
    Calls Tryd.prog 22 #[.slice A L.length c, .string (strOf nm)] w fun e w' => GetEnd L nm w e w' := by
  obtain ⟨n, en⟩ : ∃ n, L.length = n := ⟨_, rfl⟩
  have Hn := Lib.hid en
  rw [en] at hn ⊢
  clear en
  go_enter Tryd.func22, Tryd.ntmps22
  go_wp2_with fail
  go_loop [6, 7, 8] (fun v m i => RefGRel L nm n v m i) (fun _ _ i => (intOf i + 1).toNat)
  case atStart =>
    have e : L.drop n = [] := List.drop_eq_nil_of_le (by rw [Hn.out]; exact Nat.le_refl _)
    exact ⟨n, 0, _, rfl, Nat.le_refl _, rfl, Nat.zero_le _, by rw [e]; rfl, rfl, by rw [e]; rfl⟩
  case round =>
    obtain ⟨k, m, V, rfl, hk, rfl, hmk, hm, rfl, hV⟩ := hrel
    have Hm := Lib.hid hm
    have HV := Lib.hid hV
    clear hm hV
    by_cases hlt : 0 < k
    · obtain ⟨j, rfl⟩ : ∃ j, k = j + 1 := ⟨k - 1, by omega⟩
      obtain ⟨b, off, rfl, hbw, c0, c1⟩ := hA.pair (i := j) (by rw [Hn.out]; omega)
      have HT := Lib.hid (drop_pair L j (by rw [Hn.out]; omega))
      have hbq := str_beq (getD_lt hL j).1 hnm
      obtain ⟨p, ep⟩ : ∃ p, L.getD j ([], []) = p := ⟨_, rfl⟩
      rw [ep] at c0 c1 HT hbq
      clear ep hA
      have ej : (((j + 1 : Nat) : Int) - 1) = (j : Int) := by omega
      rw [ej]
      have hd : decide ((0 : Int) ≤ (j : Int)) = true := decide_eq_true (by omega)
      have hj : j < n := by omega
      by_cases hp : p.1 = nm
      · rw [decide_eq_true hp] at hbq
        have Hp := Lib.hid hp
        clear hp
        go_wp2
        go_round
        case rel => exact ⟨j, m + 1, _, rfl, by omega, by go_num, by omega, by rw [HT.out, Pq.many_cons_yes _ Hp.out, Hm.out], rfl, by rw [HT.out, Pq.first_cons_yes _ Hp.out]⟩
        case measure => simp [intOf]
      · rw [decide_eq_false hp] at hbq
        have Hp := Lib.hid hp
        clear hp
        go_wp2
        go_round
        case rel => exact ⟨j, m, _, rfl, by omega, rfl, by omega, by rw [HT.out, Pq.many_cons_no _ Hp.out, Hm.out], rfl, by rw [HT.out, Pq.first_cons_no _ Hp.out, HV.out]⟩
        case measure => simp [intOf]
    · obtain rfl : k = 0 := by omega
      rw [List.drop_zero] at Hm HV
      have e0 : (((0 : Nat) : Int) - 1) = -1 := by omega
      rw [e0]
      go_wp2
      go_ret2
      exact ⟨by rw [← HV.out, ← Hm.out]; rfl, Below.refl _ _⟩
end Go.Proofs.YticepagkbebhbaaDoor
