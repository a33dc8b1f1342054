/-
  The contracts of base's small functions: signsFor, bytesIn, joinBytes, strings.IndexByte at the signs.
-/
import Derived.Test.YtejjjhehfpeilaaBMem
import Derived.Outline
namespace Go.Proofs.Ytejjjhehfpeilaa
open Go.RowKit

set_option maxHeartbeats 400000 in
theorem signsFor_any (n : Nat) (h : n ≤ 281474976710656) (w : World) :
    Calls Try.prog 15 #[.int .i64 n] w fun e w' => e = .returned (.int .i64 (B64.sf n : Nat)) ∧ w = w' := by
  go_enter Try.func15, Try.ntmps15
  go_wp2
  all_goals
    go_ret
    exact ⟨ret_int (by unfold B64.sf; omega), rfl⟩

set_option maxHeartbeats 400000 in
theorem bytesIn_any (n : Nat) (h : n ≤ 281474976710656) (w : World) :
    Calls Try.prog 18 #[.int .i64 n] w fun e w' => e = .returned (.int .i64 (B64.bi n : Nat)) ∧ w = w' := by
  go_enter Try.func18, Try.ntmps18
  go_wp2
  all_goals
    go_ret
    exact ⟨ret_int (by unfold B64.bi; omega), rfl⟩

theorem val_u32 {a b : Int} (h : a = b) : Value.int .u32 a = .int .u32 b := by rw [h]
/-- One byte more, from the most significant one down. -/
theorem jb_or0 (x : Nat) (hx : x < 256) : bits .or .u32 0 ((x : Int) * 65536) = ((x * 65536 : Nat) : Int) := by
  have e : ((x : Int) * 65536) = ((x * 65536 : Nat) : Int) := by omega
  rw [e, show (0 : Int) = ((0 : Nat) : Int) from rfl, u32_or_nat _ _ (by omega) (by omega), Nat.zero_or]
theorem jb_or1 (a x : Nat) (ha : a < 256) (hx : x < 256) : bits .or .u32 ((a : Int) * 65536) ((x : Int) * 256) = ((a * 65536 + x * 256 : Nat) : Int) := by
  have e : ((x : Int) * 256) = ((x * 256 : Nat) : Int) := by omega
  have e' : ((a : Int) * 65536) = ((a * 65536 : Nat) : Int) := by omega
  rw [e, e', u32_or_nat _ _ (by omega) (by omega), show a * 65536 = 2 ^ 16 * a from by omega, or_add _ _ 16 (by omega)]
theorem jb_or2 (a b x : Nat) (ha : a < 256) (hb : b < 256) (hx : x < 256) : bits .or .u32 ((a : Int) * 65536 + (b : Int) * 256) (x : Int) = ((a * 65536 + b * 256 + x : Nat) : Int) := by
  have e' : ((a : Int) * 65536 + (b : Int) * 256) = ((a * 65536 + b * 256 : Nat) : Int) := by omega
  rw [e', u32_or_nat _ _ (by omega) (by omega), show a * 65536 + b * 256 = 2 ^ 8 * (a * 256 + b) from by omega, or_add _ _ 8 (by omega)]

theorem jb_take (g : List Nat) (k : Nat) (hk : k < g.length) (h3 : g.length ≤ 3) (hb : ∀ x ∈ g, x < 256) :
    (k = 0 ∧ B64.jb (g.take 0) = 0 ∧ B64.jb (g.take 1) = g.getD 0 0 * 65536) ∨
    (k = 1 ∧ ∃ a, a < 256 ∧ B64.jb (g.take 1) = a * 65536 ∧ B64.jb (g.take 2) = a * 65536 + g.getD 1 0 * 256) ∨
    (k = 2 ∧ ∃ a b, a < 256 ∧ b < 256 ∧ B64.jb (g.take 2) = a * 65536 + b * 256 ∧ B64.jb (g.take 3) = a * 65536 + b * 256 + g.getD 2 0) := by
  rcases g with _ | ⟨a, _ | ⟨b, _ | ⟨c, _ | ⟨d, r⟩⟩⟩⟩
  · simp at hk
  · have : k = 0 := by simp at hk; omega
    exact .inl ⟨this, by simp [B64.jb]⟩
  · have : k = 0 ∨ k = 1 := by simp at hk; omega
    rcases this with h | h
    · exact .inl ⟨h, by simp [B64.jb]⟩
    · exact .inr (.inl ⟨h, a, hb a (by simp), by simp [B64.jb]⟩)
  · have : k = 0 ∨ k = 1 ∨ k = 2 := by simp at hk; omega
    rcases this with h | h | h
    · exact .inl ⟨h, by simp [B64.jb]⟩
    · exact .inr (.inl ⟨h, a, hb a (by simp), by simp [B64.jb]⟩)
    · exact .inr (.inr ⟨h, a, b, hb a (by simp), hb b (by simp), by simp [B64.jb]⟩)
  · simp at h3

set_option maxHeartbeats 400000 in
theorem joinBytes_any (g : List Nat) (A : Option Addr) (c : Nat) (w : World) (hg : ArgIs w A c g) (h3 : g.length ≤ 3) :
    Calls Try.prog 22 #[.slice A g.length c] w fun e w' => e = .returned (.int .u32 (B64.jb g : Nat)) ∧ w = w' := by
  obtain ⟨l, hl⟩ : ∃ l, g.length = l := ⟨_, rfl⟩
  have h3' := h3
  rw [hl] at h3' ⊢
  have Hl := Lib.hid hl
  clear hl
  go_enter Try.func22, Try.ntmps22
  go_wp2
  go_loop [3, 8] (fun v i => ∃ k : Nat, k ≤ l ∧ i = .int .i64 k ∧ v = .int .u32 (B64.jb (g.take k) : Nat)) (fun _ i => l - (intOf i).toNat)
  case atStart => exact ⟨0, Nat.zero_le _, rfl, by rw [List.take_zero]; rfl⟩
  case round =>
    obtain ⟨k, hk, rfl, rfl⟩ := hrel
    by_cases hlt : k < l
    · have hj := jb_take g k (by rw [Hl.out]; exact hlt) h3 hg.2.2.1
      have hx : g.getD k 0 < 256 := B64.getD_lt hg.2.2.1 k
      obtain ⟨b, off, rfl, _, hby⟩ := hg.2.2.2 (by rw [Hl.out]; omega)
      have hc : w.cell? ⟨b, off + k, none⟩ = some (.int .u8 (g.getD k 0 : Nat)) := hby.get (by rw [Hl.out]; exact hlt)
      clear hby hg
      rcases hj with ⟨rfl, h1, h2⟩ | ⟨rfl, a, ha, h1, h2⟩ | ⟨rfl, a, b', ha, hb, h1, h2⟩
      · rw [h1]
        have HF := Lib.hid h2
        obtain ⟨x, ex⟩ : ∃ x, g.getD 0 0 = x := ⟨_, rfl⟩
        rw [ex] at hx hc HF
        rw [Nat.add_zero] at hc
        clear ex h1 h2
        go_wp2
        go_round
        case rel => exact ⟨1, by omega, rfl, by rw [HF.out]; exact val_u32 (by first | omega | exact jb_or0 x hx)⟩
        case measure => simp [intOf]; omega
      · rw [h1]
        have HF := Lib.hid h2
        obtain ⟨x, ex⟩ : ∃ x, g.getD 1 0 = x := ⟨_, rfl⟩
        rw [ex] at hx hc HF
        clear ex h1 h2
        go_wp2
        go_round
        case rel => exact ⟨2, by omega, rfl, by rw [HF.out]; exact val_u32 (jb_or1 a x ha hx)⟩
        case measure => simp [intOf]; omega
      · rw [h1]
        have HF := Lib.hid h2
        obtain ⟨x, ex⟩ : ∃ x, g.getD 2 0 = x := ⟨_, rfl⟩
        rw [ex] at hx hc HF
        clear ex h1 h2
        go_wp2
        go_round
        case rel => exact ⟨3, by omega, rfl, by rw [HF.out]; exact val_u32 (jb_or2 a b' x ha hb hx)⟩
        case measure => simp [intOf]; omega
    · have hd : decide ((k : Int) < (l : Int)) = false := by simp; omega
      rw [List.take_of_length_le (by rw [Hl.out]; omega)]
      go_wp2
      go_ret
      exact ⟨rfl, rfl⟩
end Go.Proofs.Ytejjjhehfpeilaa
