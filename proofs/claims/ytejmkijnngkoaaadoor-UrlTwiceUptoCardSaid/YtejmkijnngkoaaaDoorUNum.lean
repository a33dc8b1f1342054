/-
  A host's number, against the library's words for numerals.
-/
import Derived.Test.YtejmkijnngkoaaaDoorUM
import Derived.Lib.AtoiTie
import Derived.Lib.ItoaNum
namespace Go.Proofs.YtejmkijnngkoaaaDoor.Uq

def nums (l : List UInt8) : List Nat := l.map fun u => u.toNat

theorem decFrom_val : ∀ (l : List UInt8) (acc : Nat), Digits (nums l) → Lib.decFrom acc l = some ((nums l).foldl (fun n c => n * 10 + (c - 48)) acc)
  | [], acc, _ => rfl
  | c :: r, acc, h => by
    have hc := h c.toNat (by simp [nums])
    rw [Lib.decFrom, show Lib.digitVal c = some (c.toNat - 48) from by unfold Lib.digitVal; rw [if_pos hc]]
    exact decFrom_val r _ fun x hx => h x (by simp [nums] at hx ⊢; exact .inr hx)

theorem snoc_cases (L : List Nat) : L = [] ∨ ∃ l c, L = l ++ [c] := by
  rcases List.eq_nil_or_concat L with h | ⟨l, c, h⟩
  · exact .inl h
  · exact .inr ⟨l, c, by rw [h]; simp⟩

theorem val_pos : ∀ (n : Nat) (L : List Nat), L.length = n → L ≠ [] → Digits L → L.getD 0 0 ≠ 48 → 1 ≤ val L ∧ Lib.decDigits (val L) = L.map UInt8.ofNat
  | 0, L, hn, h0, _, _ => absurd (List.eq_nil_of_length_eq_zero hn) h0
  | n + 1, L, hn, h0, hd, hz => by
    rcases snoc_cases L with rfl | ⟨l, c, rfl⟩
    · exact absurd rfl h0
    · have hc := hd c (by simp)
      have e1 : UInt8.ofNat (48 + (c - 48)) = UInt8.ofNat c := by congr 1; omega
      by_cases hl : l = []
      · subst hl
        have hz' : c ≠ 48 := by simpa using hz
        have hv : val ([] ++ [c]) = c - 48 := by simp [val]
        rw [hv]
        refine ⟨by omega, ?_⟩
        rw [Lib.decDigits, dif_pos (by omega), e1]; rfl
      · have hz' : l.getD 0 0 ≠ 48 := by
          cases l with
          | nil => exact absurd rfl hl
          | cons a r => simpa using hz
        obtain ⟨i1, i2⟩ := val_pos n l (by simpa using hn) hl (fun x hx => hd x (by simp [hx])) hz'
        rw [val_snoc]
        refine ⟨by omega, ?_⟩
        rw [Lib.decDigits, dif_neg (by omega), show (val l * 10 + (c - 48)) / 10 = val l from by omega, show (val l * 10 + (c - 48)) % 10 = c - 48 from by omega, i2, e1]
        simp

theorem nums_append (a b : List UInt8) : nums (a ++ b) = nums a ++ nums b := by simp [nums]
theorem decDigits_nums (v : Nat) : 1 ≤ v → Digits (nums (Lib.decDigits v)) ∧ val (nums (Lib.decDigits v)) = v ∧ (nums (Lib.decDigits v)).getD 0 0 ≠ 48 ∧ Lib.decDigits v ≠ [] ∧ ∀ k, 1 ≤ k → v < 10 ^ k → (Lib.decDigits v).length ≤ k := by
  induction v using Nat.strongRecOn with
  | _ v ih =>
    intro h1
    by_cases h : v < 10
    · have e : (UInt8.ofNat (48 + v)).toNat = 48 + v := by simp; omega
      rw [Lib.decDigits, dif_pos h]
      simp only [nums, List.map_cons, List.map_nil, e]
      refine ⟨fun x hx => ?_, ?_, ?_, by simp, fun k hk _ => by simpa using hk⟩
      · simp at hx; omega
      · simp [val]
      · simp; omega
    · have e : (UInt8.ofNat (48 + v % 10)).toNat = 48 + v % 10 := by simp; omega
      obtain ⟨i1, i2, i3, i4, i5⟩ := ih (v / 10) (by omega) (by omega)
      rw [Lib.decDigits, dif_neg h, nums_append]
      have e2 : nums [UInt8.ofNat (48 + v % 10)] = [48 + v % 10] := by simp only [nums, List.map_cons, List.map_nil, e]
      rw [e2]
      refine ⟨fun x hx => ?_, ?_, ?_, by simp, fun k hk hv => ?_⟩
      · rcases List.mem_append.1 hx with hx | hx
        · exact i1 x hx
        · simp at hx; omega
      · rw [val_snoc, i2]; omega
      · cases hh : nums (Lib.decDigits (v / 10)) with
        | nil =>
          have : Lib.decDigits (v / 10) = [] := by simpa [nums] using hh
          exact absurd this i4
        | cons a r => rw [hh] at i3; simpa using i3
      · match k, hk with
        | 1, _ => omega
        | k + 2, _ =>
          have := i5 (k + 1) (by omega) (by rw [Nat.pow_succ] at hv; omega)
          simp; omega

theorem nums_ofNat (l : List UInt8) : (nums l).map UInt8.ofNat = l := by
  unfold nums
  rw [List.map_map]
  conv => rhs; rw [← List.map_id l]
  exact List.map_congr_left fun x _ => by simp

/-- What a host's number is. -/
theorem num_yes {l : List UInt8} (h : numOk (nums l) = true) : ∃ v : Int, Lib.atoiAll l = .ok v ∧ 1 ≤ v ∧ v ≤ 65535 ∧ Lib.itoa v = l := by
  obtain ⟨h1, h2, h3, h4, h5⟩ := of_decide_eq_true h
  have hl : (nums l).length = l.length := by simp [nums]
  have hne : nums l ≠ [] := by intro e; rw [e] at h1; simp at h1
  obtain ⟨p1, p2⟩ := val_pos _ (nums l) rfl hne h4 h3
  rw [nums_ofNat] at p2
  have hd : Lib.decNat l = some (val (nums l)) := by
    unfold Lib.decNat
    rw [if_neg (by cases l with | nil => exact absurd rfl hne | cons a r => simp)]
    exact decFrom_val l 0 h4
  refine ⟨(val (nums l) : Int), ?_, by omega, by omega, ?_⟩
  · rw [Lib.atoiAll_short l (by omega)]
    cases l with
    | nil => exact absurd rfl hne
    | cons b r =>
      have hb := h4 b.toNat (by simp [nums])
      have e1 : (b == 45) = false := beq_eq_false_iff_ne.2 (by rintro rfl; simp at hb)
      have e2 : (b == 43) = false := beq_eq_false_iff_ne.2 (by rintro rfl; simp at hb)
      simp only [Lib.atoi, e1, e2, Bool.false_eq_true, if_false, hd]
      rfl
  · unfold Lib.itoa
    rw [if_neg (by omega), Int.toNat_natCast, p2]
theorem num_of {l : List UInt8} {v : Int} (h1 : 1 ≤ v) (h2 : v ≤ 65535) (h : Lib.itoa v = l) : numOk (nums l) = true := by
  unfold Lib.itoa at h
  rw [if_neg (by omega)] at h
  subst h
  obtain ⟨d1, d2, d3, d4, d5⟩ := decDigits_nums v.toNat (by omega)
  have hl : (nums (Lib.decDigits v.toNat)).length = (Lib.decDigits v.toNat).length := by simp [nums]
  have h5 := d5 5 (by decide) (by omega)
  have h0 := List.length_pos_iff.2 d4
  exact decide_eq_true ⟨by omega, by omega, d3, d1, by omega⟩
theorem num_no {l : List UInt8} (h : ∀ v : Int, Lib.atoiAll l = .ok v → ¬ (1 ≤ v ∧ v ≤ 65535)) : numOk (nums l) = false := by
  cases e : numOk (nums l) with
  | false => rfl
  | true =>
    obtain ⟨v, a, b, c, _⟩ := num_yes e
    exact absurd ⟨b, c⟩ (h v a)
theorem num_iff {l : List UInt8} {v : Int} (h : Lib.atoiAll l = .ok v) (h1 : 1 ≤ v) (h2 : v ≤ 65535) : numOk (nums l) = decide (Lib.itoa v = l) := by
  by_cases e : Lib.itoa v = l
  · rw [decide_eq_true e]; exact num_of h1 h2 e
  · rw [decide_eq_false e]
    cases e2 : numOk (nums l) with
    | false => rfl
    | true =>
      obtain ⟨v', a, _, _, d⟩ := num_yes e2
      rw [h] at a
      injection a with a
      subst a
      exact absurd d e
end Go.Proofs.YtejmkijnngkoaaaDoor.Uq
