/-
  QR3: Sum Same Key Mac MacAll Alive, side by side.
-/
import Derived.Test.YthklgpflaghojaaGreatDoorQR2
import Derived.Test.YthklgpflaghojaaGreatDoorQM
import Derived.Deep.RegionHeld3
import Derived.Deep.MidRow
import Derived.Lib.SlBytesConst

/-
  The contracts of (*Hash).Write, whatever is held back, and of digest.Sum.
-/
namespace Go.Proofs.YthklgpflaghojaaGreatDoor
open Go.RowKit

theorem write_any (g : Nat) (p q : List Nat) (A : Option Addr) (c : Nat) (w : World) (hT : Tab w) (hH : HashIs w g p) (hq : SliceIs w g A c q) (hg0 : 1 < g) (hn : p.length + q.length < 2305843009213693952) :
    Calls Tryz.prog 100 #[.pointer (some ⟨g, 0, none⟩), .slice A q.length c] w fun e w' => e = .returned (.tuple #[]) ∧ HashIs w' g (p ++ q) ∧ w.grownBy w' (some g) := by
  by_cases h0 : p.length % 64 = 0
  · exact write_zero g p q A c w hT hH hq hg0 hn h0
  · by_cases h1 : p.length % 64 + q.length < 64
    · exact write_few g p q A c w hT hH hq hg0 hn (by omega) h1
    · exact write_more g p q A c w hT hH hq hg0 hn (by omega) (by omega)

section
variable {w w' : World} {A : Option Addr} {c : Nat} {q : List Nat}
theorem ArgIs.slice {g B : Nat} (h : ArgIs w A c q) (hb : Below B w w') (hB : w.heap.size ≤ B) (hg : w.heap.size ≤ g) : SliceIs w' g A c q :=
  ⟨h.1, h.2.1, h.2.2.1, fun hq => by
    obtain ⟨b, off, e, hbw, hby⟩ := h.2.2.2 hq
    exact ⟨b, off, e, by omega, Nat.lt_of_lt_of_le hbw hb.size, hby.below hb (by omega)⟩⟩
end

theorem hash_new {w : World} {g : Nat} (h : Lies w g 149 (hashCells Sha.init rest0 0)) : HashIs w g [] :=
  ⟨rest0, h, rfl, rfl, fun x hx => by cases hx⟩

theorem below_of_grown {w w1 w2 : World} {B g : Nat} (h : Below B w w1) (hg : w1.grownBy w2 (some g)) (hB : B ≤ w1.heap.size) (hBg : B ≤ g) : Below B w w2 :=
  h.grown hg hB (fun k hk => by injection hk with hk; omega)

set_option maxHeartbeats 400000 in
set_option maxRecDepth 100000 in
theorem sum_any (q : List Nat) (A : Option Addr) (c : Nat) (w : World) (hT : Tab w) (hq : ArgIs w A c q) (hn : q.length < 2305843009213693952) :
    Calls Tryz.prog 98 #[.slice A q.length c] w fun e w' => e = .returned (.agg (u8s (Sha.sum q)).toArray) ∧ Below w.heap.size w w' := by
  have hz := zero25
  go_enter Tryz.func98, Tryz.ntmps98
  go_wp2_with fail
  refine (new_any _).mono ?_
  rintro e w1 ⟨g, rfl, hgB, hL1, hb1⟩
  have hgB' : w.heap.size + 1 ≤ g := by simpa using hgB
  have hB1 : w.heap.size + 1 ≤ w1.heap.size := by have := hb1.size; simp at this; omega
  have h01 : Lies w1 w.heap.size 71 (z8 32) := (Lies.made w _ (z8 32)).below hb1 (by simp)
  have hbel1 : Below w.heap.size w w1 := ((Below.refl _ _).alloc (Nat.le_refl _) _).trans (hb1.mono (by simp))
  have hT1 : Tab w1 := hT.below hbel1 hT.lt
  have hq1 := hq.slice (g := g) hbel1 (Nat.le_refl _) (by omega)
  have hTl := hT.lt
  clear hb1 hz hgB
  go_wp2_with fail
  refine (write_any g [] q A c w1 hT1 (hash_new hL1) hq1 (by omega) (by simpa using hn)).mono ?_
  rintro e w2 ⟨rfl, hH2, hg2⟩
  rw [List.nil_append] at hH2
  have h02 := h01.grown hg2 (by simp; omega)
  have hbel2 := below_of_grown hbel1 hg2 hbel1.size (by omega)
  have hT2 : Tab w2 := hT.below hbel2 hT.lt
  clear hg2 hT1 hbel1 h01 hL1 hq1
  go_wp2_with fail
  refine (hashSum_any g q w2 hT2 hH2 hn).mono ?_
  rintro e w3 ⟨rfl, hb3⟩
  have h03 := h02.below hb3 h02.lt
  have hbel3 : Below w.heap.size w w3 := hbel2.trans (hb3.mono hbel2.size)
  have Hl32 : Hid ((u8s (Sha.sum q)).length = 32) := by unfold Hid; rw [u8s_length, Sha.sum_length]
  have Hone : Hid ((u8s (Sha.sum q)).all (·.oneCell') = true) := List.all_eq_true.2 (u8s_one _)
  obtain ⟨D, hDe⟩ : ∃ D, u8s (Sha.sum q) = D := ⟨_, rfl⟩
  rw [hDe] at Hl32 Hone ⊢
  have HDe := Lib.hid hDe
  clear hDe hb3 h02 hbel2 hT2
  repeat ((fail_if_success (with_reducible show wpList _ _ _ (⟨none, _, _, _, _, _⟩ :: _) _ _)); first | go_values | go_skip | go_guarded | go_step | go_upon | go_back | go_simp)
  with_reducible refine store_lies rfl 71 (.tmp 2) (.tmp 9) rfl w.heap.size D 71 (z8 32) h03 ?sx ?sy ?si ?sl ?s1 ?_
  case sx => rfl
  case sy => rfl
  case si => (rw [z8_length]; exact info25)
  case sl => rw [Hl32.out, z8_length]
  case s1 => exact Hone.out
  go_wp2
  refine bodyPost_ret (results_one Tryz.results98 _ _ w.heap.size 71 D _ rfl h03.row Tryz.underlying71 rfl (by rw [Hl32.out]; exact info25)) rfl ⟨?_, below_row hbel3 (Nat.le_refl _)⟩
  rw [HDe.out]
end Go.Proofs.YthklgpflaghojaaGreatDoor

/-
  The contract of digest.Same.
-/
namespace Go.Proofs.YthklgpflaghojaaGreatDoor
open Go.RowKit

theorem i64_small (n : Nat) (h : n < 9223372036854775808) : IntKind.i64.wrap (n : Int) = (n : Int) := by
  simp only [IntKind.wrap, IntKind.bits, IntKind.signed]
  simp
  omega
theorem ofInt_i64 (a : Nat) (ha : a < 9223372036854775808) : (BitVec.ofInt 64 (a : Int)).toNat = a := by
  rw [BitVec.ofInt_natCast, BitVec.toNat_ofNat]; exact Nat.mod_eq_of_lt (by omega)
theorem i64_or_nat (a b : Nat) (ha : a < 9223372036854775808) (hb : b < 9223372036854775808) : bits .or .i64 (a : Int) (b : Int) = ((a ||| b : Nat) : Int) := by
  have hx : a ||| b < 2 ^ 63 := Nat.or_lt_two_pow (by omega) (by omega)
  show IntKind.i64.wrap ((BitVec.ofInt 64 (a : Int) ||| BitVec.ofInt 64 (b : Int)).toNat : Int) = _
  rw [BitVec.toNat_or, ofInt_i64 a ha, ofInt_i64 b hb, i64_small _ (by omega)]
theorem i64_xor_nat (a b : Nat) (ha : a < 9223372036854775808) (hb : b < 9223372036854775808) : bits .xor .i64 (a : Int) (b : Int) = ((a ^^^ b : Nat) : Int) := by
  have hx : a ^^^ b < 2 ^ 63 := Nat.xor_lt_two_pow (by omega) (by omega)
  show IntKind.i64.wrap ((BitVec.ofInt 64 (a : Int) ^^^ BitVec.ofInt 64 (b : Int)).toNat : Int) = _
  rw [BitVec.toNat_xor, ofInt_i64 a ha, ofInt_i64 b hb, i64_small _ (by omega)]
theorem xor_zero (a b : Nat) : a ^^^ b = 0 ↔ a = b := by
  constructor
  · intro h
    have := congrArg (a ^^^ ·) h
    simp only [← Nat.xor_assoc, Nat.xor_self, Nat.zero_xor, Nat.xor_zero] at this
    exact this.symm
  · rintro rfl; exact Nat.xor_self a
theorem or_zero (a b : Nat) : a ||| b = 0 ↔ a = 0 ∧ b = 0 := by
  constructor
  · intro h
    have h1 : a ≤ a ||| b := Nat.left_le_or
    have h2 : b ≤ a ||| b := Nat.right_le_or
    omega
  · rintro ⟨rfl, rfl⟩; rfl

/-- What has been gathered says whether the lengths, and the first k bytes, are the same. -/
def Gathers (p q : List Nat) (k D : Nat) : Prop := D < 9223372036854775808 ∧ (D = 0 ↔ p.length = q.length ∧ p.take k = q.take k)

theorem gathers_next {p q : List Nat} {k D : Nat} (h : Gathers p q k D) (h1 : k < p.length) (h2 : k < q.length) (hx : p.getD k 0 < 256) (hy : q.getD k 0 < 256) :
    Gathers p q (k + 1) (D ||| (p.getD k 0 ^^^ q.getD k 0)) := by
  have hlt : p.getD k 0 ^^^ q.getD k 0 < 2 ^ 8 := Nat.xor_lt_two_pow (by omega) (by omega)
  refine ⟨?_, ?_⟩
  · have : D ||| (p.getD k 0 ^^^ q.getD k 0) < 2 ^ 63 := Nat.or_lt_two_pow (by have := h.1; omega) (by omega)
    omega
  · rw [or_zero, xor_zero, h.2, List.take_succ_eq_append_getElem h1, List.take_succ_eq_append_getElem h2]
    have ep : p.getD k 0 = p[k] := by rw [List.getD_eq_getElem?_getD, List.getElem?_eq_getElem h1]; rfl
    have eq : q.getD k 0 = q[k] := by rw [List.getD_eq_getElem?_getD, List.getElem?_eq_getElem h2]; rfl
    rw [ep, eq]
    constructor
    · rintro ⟨⟨a, b⟩, c⟩; exact ⟨a, by rw [b, c]⟩
    · rintro ⟨a, b⟩
      have hl : (p.take k).length = (q.take k).length := by rw [List.length_take, List.length_take]; omega
      obtain ⟨c, d⟩ := List.append_inj b hl
      exact ⟨⟨a, c⟩, by simpa using d⟩
theorem gathers_end {p q : List Nat} {k D : Nat} (h : Gathers p q k D) (hk : k = min p.length q.length) : (((D : Nat) : Int) == 0) = decide (p = q) := by
  rw [Bool.eq_iff_iff, beq_iff_eq, decide_eq_true_iff]
  have : ((D : Int) = 0) ↔ D = 0 := by omega
  rw [this, h.2]
  constructor
  · rintro ⟨a, b⟩
    rwa [List.take_of_length_le (by omega), List.take_of_length_le (by omega)] at b
  · rintro rfl; exact ⟨rfl, rfl⟩
theorem gathers_start (p q : List Nat) (h1 : p.length ≤ 9223372036854775807) (h2 : q.length ≤ 9223372036854775807) : Gathers p q 0 (p.length ^^^ q.length) := by
  refine ⟨?_, ?_⟩
  · have : p.length ^^^ q.length < 2 ^ 63 := Nat.xor_lt_two_pow (by omega) (by omega)
    omega
  · rw [xor_zero]; simp

set_option maxRecDepth 100000 in
set_option maxHeartbeats 400000 in
theorem bytesSame_any (p q : List Nat) (A A' : Option Addr) (c c' : Nat) (w : World) (hp : ArgIs w A c p) (hq : ArgIs w A' c' q) :
    Calls Tryz.prog 37 #[.slice A p.length c, .slice A' q.length c'] w fun e w' => e = .returned (.bool (decide (p = q))) ∧ ∃ k, w' = w.drewN k := by
  have g0 := gathers_start p q (Nat.le_trans hp.1 hp.2.1) (Nat.le_trans hq.1 hq.2.1)
  have hpl := Nat.le_trans hp.1 hp.2.1
  have hql := Nat.le_trans hq.1 hq.2.1
  obtain ⟨l, hl⟩ : ∃ l, p.length = l := ⟨_, rfl⟩
  obtain ⟨m, hm⟩ : ∃ m, q.length = m := ⟨_, rfl⟩
  have hx := i64_xor_nat l m (by omega) (by omega)
  rw [hl, hm] at g0 ⊢
  rw [hl] at hpl
  rw [hm] at hql
  have Hl := Lib.hid hl
  have Hm := Lib.hid hm
  clear hl hm
  by_cases hml : (m : Int) < (l : Int)
  · go_enter Tryz.func37, Tryz.ntmps37
    go_wp2_with fail
    go_loopw [5, 17] (fun v i wr => ∃ k D j : Nat, k ≤ m ∧ i = .int .i64 k ∧ v = .int .i64 D ∧ Gathers p q k D ∧ wr = w.drewN j) (fun _ i _ => m - (intOf i).toNat)
    case atStart => exact ⟨0, _, 0, Nat.zero_le _, rfl, rfl, g0, rfl⟩
    case round =>
      obtain ⟨k, D, j, hk, rfl, rfl, hG, rfl⟩ := hrel
      by_cases hlt : k < m
      · have hd : decide ((k : Int) < (m : Int)) = true := by simp; omega
        obtain ⟨b, off, rfl, hbw, hby⟩ := hp.2.2.2 (by rw [Hl.out]; omega)
        obtain ⟨b', off', rfl, hbw', hby'⟩ := hq.2.2.2 (by rw [Hm.out]; omega)
        have hc1 := hby.get (j := k) (by rw [Hl.out]; omega)
        have hc2 := hby'.get (j := k) (by rw [Hm.out]; omega)
        have hx1 := hby.lt k
        have hx2 := hby'.lt k
        have HN := Lib.hid (gathers_next hG (by rw [Hl.out]; omega) (by rw [Hm.out]; omega) hx1 hx2)
        have hD := hG.1
        obtain ⟨x, ex⟩ : ∃ x, p.getD k 0 = x := ⟨_, rfl⟩
        obtain ⟨y, ey⟩ : ∃ y, q.getD k 0 = y := ⟨_, rfl⟩
        rw [ex] at hc1 hx1 HN
        rw [ey] at hc2 hx2 HN
        clear ex ey
        have hxy : x ^^^ y < 256 := by have : x ^^^ y < 2 ^ 8 := Nat.xor_lt_two_pow (by omega) (by omega); omega
        have q1 := u8_xor_nat x y hx1 hx2
        have q2 := i64_or_nat D (x ^^^ y) hD (by omega)
        have q3 : IntKind.i64.wrap ((x ^^^ y : Nat) : Int) = ((x ^^^ y : Nat) : Int) := i64_small _ (by omega)
        have k1 : (k : Int) < (l : Int) := by omega
        have k2 : (k : Int) < (m : Int) := by omega
        clear hp hq hby hby'
        go_wp2_with fail
        go_quiet (fail)
        clear hc1 hc2 q1 q2 q3 k1 k2
        go_wp2
        go_roundw
        case rel => exact ⟨k + 1, _, _, by omega, by go_num, rfl, HN.out, rfl⟩
        case measure => simp [intOf]; omega
      · have hd : decide ((k : Int) < (m : Int)) = false := by simp; omega
        have HE := Lib.hid (gathers_end hG (by rw [Hl.out, Hm.out]; omega))
        clear hp hq
        go_wp2
        go_ret
        exact ⟨by rw [HE.out]; rfl, _, rfl⟩
  · go_enter Tryz.func37, Tryz.ntmps37
    go_wp2_with fail
    go_loopw [5, 17] (fun v i wr => ∃ k D j : Nat, k ≤ l ∧ i = .int .i64 k ∧ v = .int .i64 D ∧ Gathers p q k D ∧ wr = w.drewN j) (fun _ i _ => l - (intOf i).toNat)
    case atStart => exact ⟨0, _, 0, Nat.zero_le _, rfl, rfl, g0, rfl⟩
    case round =>
      obtain ⟨k, D, j, hk, rfl, rfl, hG, rfl⟩ := hrel
      by_cases hlt : k < l
      · have hd : decide ((k : Int) < (l : Int)) = true := by simp; omega
        obtain ⟨b, off, rfl, hbw, hby⟩ := hp.2.2.2 (by rw [Hl.out]; omega)
        obtain ⟨b', off', rfl, hbw', hby'⟩ := hq.2.2.2 (by rw [Hm.out]; omega)
        have hc1 := hby.get (j := k) (by rw [Hl.out]; omega)
        have hc2 := hby'.get (j := k) (by rw [Hm.out]; omega)
        have hx1 := hby.lt k
        have hx2 := hby'.lt k
        have HN := Lib.hid (gathers_next hG (by rw [Hl.out]; omega) (by rw [Hm.out]; omega) hx1 hx2)
        have hD := hG.1
        obtain ⟨x, ex⟩ : ∃ x, p.getD k 0 = x := ⟨_, rfl⟩
        obtain ⟨y, ey⟩ : ∃ y, q.getD k 0 = y := ⟨_, rfl⟩
        rw [ex] at hc1 hx1 HN
        rw [ey] at hc2 hx2 HN
        clear ex ey
        have hxy : x ^^^ y < 256 := by have : x ^^^ y < 2 ^ 8 := Nat.xor_lt_two_pow (by omega) (by omega); omega
        have q1 := u8_xor_nat x y hx1 hx2
        have q2 := i64_or_nat D (x ^^^ y) hD (by omega)
        have q3 : IntKind.i64.wrap ((x ^^^ y : Nat) : Int) = ((x ^^^ y : Nat) : Int) := i64_small _ (by omega)
        have k1 : (k : Int) < (l : Int) := by omega
        have k2 : (k : Int) < (m : Int) := by omega
        clear hp hq hby hby'
        go_wp2_with fail
        go_quiet (fail)
        clear hc1 hc2 q1 q2 q3 k1 k2
        go_wp2
        go_roundw
        case rel => exact ⟨k + 1, _, _, by omega, by go_num, rfl, HN.out, rfl⟩
        case measure => simp [intOf]; omega
      · have hd : decide ((k : Int) < (l : Int)) = false := by simp; omega
        have HE := Lib.hid (gathers_end hG (by rw [Hl.out, Hm.out]; omega))
        clear hp hq
        go_wp2
        go_ret
        exact ⟨by rw [HE.out]; rfl, _, rfl⟩
end Go.Proofs.YthklgpflaghojaaGreatDoor

/-
  The contracts of keyGroup, masked, sumBehind and Mac.
-/
namespace Go.Proofs.YthklgpflaghojaaGreatDoor
open Go.RowKit

namespace Sha
/-- A key that fills one group. -/
def keyG (k : List Nat) : List Nat := (if 64 < k.length then sum k else k) ++ List.replicate (64 - (if 64 < k.length then sum k else k).length) 0
def mask (k : List Nat) (m : Nat) : List Nat := k.map (· ^^^ m)
def mac (k b : List Nat) : List Nat := sum (mask (keyG k) 92 ++ sum (mask (keyG k) 54 ++ b))
theorem keyG_length (k : List Nat) : (keyG k).length = 64 := by
  unfold keyG
  split
  · simp [sum_length]
  · simp; omega
theorem be_lt (k n : Nat) : ∀ x ∈ be n k, x < 256 := by
  induction k generalizing n with
  | zero => intro x hx; simp [be] at hx
  | succ k ih =>
    intro x hx
    simp only [be, List.mem_append, List.mem_cons, List.not_mem_nil, or_false] at hx
    rcases hx with hx | hx
    · exact ih _ x hx
    · omega
theorem sum_lt (p : List Nat) : ∀ x ∈ sum p, x < 256 := by
  intro x hx
  obtain ⟨w, _, hw⟩ := List.mem_flatMap.1 hx
  exact be_lt _ _ x hw
theorem keyG_lt (k : List Nat) (hk : ∀ x ∈ k, x < 256) : ∀ x ∈ keyG k, x < 256 := by
  intro x hx
  unfold keyG at hx
  rcases List.mem_append.1 hx with hx | hx
  · split at hx
    · exact sum_lt k x hx
    · exact hk x hx
  · have := List.eq_of_mem_replicate hx; omega
theorem mask_length (k : List Nat) (m : Nat) : (mask k m).length = k.length := by simp [mask]
theorem mask_lt (k : List Nat) (m : Nat) (hk : ∀ x ∈ k, x < 256) (hm : m < 256) : ∀ x ∈ mask k m, x < 256 := by
  intro x hx
  obtain ⟨y, hy, rfl⟩ := List.mem_map.1 hx
  have : y ^^^ m < 2 ^ 8 := Nat.xor_lt_two_pow (by have := hk y hy; omega) (by omega)
  omega
end Sha
set_option maxRecDepth 100000 in
theorem zero43 (w : World) : (zeroValue 112).run Tryz.prog w = .ok (.agg (z8 64).toArray) w := by kernel_rfl
set_option maxRecDepth 100000 in
theorem info43 : (Tryz.prog.info? 112).map (·.size) = some 64 := by kernel_rfl
theorem splice_zero (k : List Nat) (h : k.length ≤ 64) : splice (z8 64) 0 (u8s k) = u8s (k ++ List.replicate (64 - k.length) 0) := by
  rw [u8s_z8, u8s_splice]
  have e := splice_over ([] : List Nat) k 0 64 0 (by omega)
  simp only [List.nil_append, List.length_nil, Nat.zero_add, List.replicate_zero, Nat.sub_zero] at e
  rw [e]

set_option maxHeartbeats 400000 in
set_option maxRecDepth 100000 in
theorem keyGroup_any (q : List Nat) (A : Option Addr) (c : Nat) (w : World) (hT : Tab w) (hq : ArgIs w A c q) (hn : q.length < 2305843009213693952) :
    Calls Tryz.prog 81 #[.slice A q.length c] w fun e w' => e = .returned (.agg (u8s (Sha.keyG q)).toArray) ∧ Below w.heap.size w w' := by
  have hz := zero43
  have hz2 := zero25
  obtain ⟨l, hl⟩ : ∃ l, q.length = l := ⟨_, rfl⟩
  have hcm := Nat.le_trans hq.1 hq.2.1
  rw [hl] at hn hcm ⊢
  have Hl := Lib.hid hl
  have Hone : Hid ((u8s (Sha.keyG q)).all (·.oneCell') = true) := List.all_eq_true.2 (u8s_one _)
  have Hlen : Hid ((u8s (Sha.keyG q)).length = 64) := by unfold Hid; rw [u8s_length, Sha.keyG_length]
  clear hl
  by_cases h64 : 64 < l
  · have hd : decide ((64 : Int) < (l : Int)) = true := by simp; omega
    have HK : Hid (splice (z8 64) 0 (u8s (Sha.sum q)) = u8s (Sha.keyG q)) := by
      unfold Hid; rw [splice_zero _ (by rw [Sha.sum_length]; decide)]; unfold Sha.keyG; rw [if_pos (by rw [Hl.out]; exact h64)]
    obtain ⟨KG, hKG⟩ : ∃ KG, u8s (Sha.keyG q) = KG := ⟨_, rfl⟩
    rw [hKG] at Hone Hlen HK ⊢
    clear hKG
    go_enter Tryz.func81, Tryz.ntmps81
    go_wp2_with fail
    have hbB : Below w.heap.size w ((w.alloc (.cells (z8 64).toArray 112)).alloc (.cells (z8 64).toArray 112)) := ((Below.refl _ _).alloc (Nat.le_refl _) _).alloc (by simp) _
    rw [← Hl.out]
    refine (sum_any q A c _ (hT.below hbB hT.lt) (hq.below hbB (Nat.le_refl _)) (by rw [Hl.out]; exact hn)).mono ?_
    rintro e w1 ⟨rfl, hb1⟩
    have h01 : Lies w1 w.heap.size 112 (z8 64) := ((Lies.made w _ (z8 64)).alloc _).below hb1 (by simp <;> omega)
    have h11 : Lies w1 (w.heap.size + 1) 112 (z8 64) := (Lies.new_ (cs := z8 64) (by simp)).below hb1 (by simp)
    have hbel1 : Below w.heap.size w w1 := hbB.trans (hb1.mono (by simp <;> omega))
    have hB1 : w.heap.size + 2 ≤ w1.heap.size := by have := hb1.size; simp at this; omega
    have Hl32 : Hid ((u8s (Sha.sum q)).length = 32) := by unfold Hid; rw [u8s_length, Sha.sum_length]
    have Hone2 : Hid (∀ v ∈ u8s (Sha.sum q), v.oneCell' = true) := u8s_one _
    obtain ⟨D, hDe⟩ : ∃ D, u8s (Sha.sum q) = D := ⟨_, rfl⟩
    rw [hDe] at Hl32 Hone2 HK ⊢
    clear hDe hb1 hbB hz hq
    repeat ((fail_if_success (with_reducible show wpList _ _ _ (⟨none, _, _, _, _, _⟩ :: _) _ _)); first | go_values | go_skip | go_guarded | go_step | go_upon | go_back | go_simp)
    with_reducible refine store_lies rfl 71 (.tmp 4) (.tmp 9) rfl w1.heap.size D 71 (z8 32) (Lies.new_ rfl) ?sx ?sy ?si ?sl ?s1 ?_
    case sx => rfl
    case sy => rfl
    case si => (rw [z8_length]; exact info25)
    case sl => rw [Hl32.out, z8_length]
    case s1 => exact List.all_eq_true.2 Hone2.out
    generalize hw2 : World.setRow _ _ _ = w2
    have h02 : Lies w2 w.heap.size 112 (z8 64) := by rw [← hw2]; exact (h01.alloc _).farRow (by omega)
    have h12 : Lies w2 (w.heap.size + 1) 112 (z8 64) := by rw [← hw2]; exact (h11.alloc _).farRow (by omega)
    have h22 : Lies w2 w1.heap.size 71 D := by rw [← hw2]; exact Lies.row (cs := z8 32) (Lies.new_ rfl)
    have hbel2 : Below w.heap.size w w2 := by rw [← hw2]; exact below_row (hbel1.alloc hbel1.size _) (by omega)
    clear hw2 h01 h11 hbel1 hz2
    go_frame
    have HSrc : Hid (∀ j v, D[j]? = some v → w2.cell? ((⟨w1.heap.size, 0, none⟩ : Addr).add j) = some v) := by
      intro j v hv
      have hadd : (⟨w1.heap.size, 0, none⟩ : Addr).add j = ⟨w1.heap.size, j, none⟩ := by unfold Addr.add; split <;> simp_all
      rw [hadd, h22.cell]; exact hv
    go_upto_region 4 with (fail)
    go_region_law (refine step_copy_lies rfl (.tmp 10) (.tmp 11) 27 27 rfl 5 Tryz.underlying27 info5 (w.heap.size + 1) 0 (z8 64) 112 (by exact h12) D _ _ _ _ _ _ rfl rfl (Hl32.out.trans (by decide)) (fun _ => ⟨rfl, ⟨w1.heap.size, 0, none⟩, rfl, by exact HSrc.out⟩) (by rw [Hl32.out, z8_length]; decide) Hone2.out ?_; intro w3 hL3 hg3)
    all_goals
      rw [HK.out] at hL3
      have h03 := Lies.grown (by exact h02) hg3 (by simp)
      have hbel3 : Below w.heap.size w w3 := hbel2.drew.grown hg3 (by exact hbel2.size) (by simp)
      clear hg3 h02 h12 h22 hbel2 HSrc
      go_upto_region 6 with (fail)
      repeat ((fail_if_success (with_reducible show wpList _ _ _ (⟨some 16, _, _, _, _, _⟩ :: _) _ _)); first | go_values | go_skip | go_guarded | go_step | go_upon | go_back | go_simp)
      with_reducible refine load_lies rfl 112 (.tmp 3) rfl (w.heap.size + 1) 112 KG _ hL3 ?hx Tryz.underlying112 ?hd ?hi ?_
      case hx => rfl
      case hd => rfl
      case hi => (rw [Hlen.out]; exact info43)
      repeat ((fail_if_success (with_reducible show wpList _ _ _ (⟨none, _, _, _, _, _⟩ :: _) _ _)); first | go_values | go_skip | go_guarded | go_step | go_upon | go_back | go_simp)
      with_reducible refine store_lies rfl 112 (.tmp 2) (.tmp 16) rfl w.heap.size KG 112 (z8 64) h03 ?sx ?sy ?si ?sl ?s1 ?_
      case sx => rfl
      case sy => rfl
      case si => (rw [z8_length]; exact info43)
      case sl => rw [Hlen.out, z8_length]
      case s1 => exact Hone.out
      go_wp2
      refine bodyPost_ret (results_one Tryz.results81 _ _ w.heap.size 112 KG _ rfl h03.row Tryz.underlying112 rfl (by rw [Hlen.out]; exact info43)) rfl ⟨rfl, below_row hbel3 (Nat.le_refl _)⟩
  · have hd : decide ((64 : Int) < (l : Int)) = false := by simp; omega
    have HK : Hid (splice (z8 64) 0 (u8s q) = u8s (Sha.keyG q)) := by
      unfold Hid; rw [splice_zero _ (by rw [Hl.out]; omega)]; unfold Sha.keyG; rw [if_neg (by rw [Hl.out]; omega)]
    obtain ⟨KG, hKG⟩ : ∃ KG, u8s (Sha.keyG q) = KG := ⟨_, rfl⟩
    rw [hKG] at Hone Hlen HK ⊢
    clear hKG
    go_enter Tryz.func81, Tryz.ntmps81
    go_upto_region 5 with (fail)
    generalize hw1 : World.alloc (World.alloc _ _) _ = w1
    have h01 : Lies w1 w.heap.size 112 (z8 64) := by rw [← hw1]; exact (Lies.made w _ (z8 64)).alloc _
    have h11 : Lies w1 (w.heap.size + 1) 112 (z8 64) := by rw [← hw1]; exact Lies.new_ (by simp)
    have hbel1 : Below w.heap.size w w1 := by rw [← hw1]; exact ((Below.refl _ _).alloc (Nat.le_refl _) _).alloc (by simp) _
    have hq1 := hq.below hbel1 (Nat.le_refl _)
    clear hw1 hz hz2 hq
    repeat ((fail_if_success (with_reducible show wpList _ _ _ (⟨some 15, _, _, _, _, _⟩ :: _) _ _)); first | go_values | go_skip | go_guarded | go_step | go_upon | go_back | go_simp)
    with_reducible refine copy_lies rfl (.tmp 13) (.tmp 14) 27 27 rfl 5 Tryz.underlying27 info5 (w.heap.size + 1) 0 (z8 64) 112 h11 (u8s q) (some ⟨w.heap.size + 1, 0, none⟩) A 64 64 l c ?hd ?hs ?hn ?hp ?hf ?h1 ?_
    case hd => rfl
    case hs => rfl
    case hn => (rw [u8s_length, Hl.out]; exact (Nat.min_eq_left (by omega)).symm)
    case hp =>
      intro hpos
      rw [u8s_length] at hpos
      obtain ⟨b, off, rfl, hbw, hby⟩ := hq1.2.2.2 hpos
      exact ⟨rfl, ⟨b, off, none⟩, rfl, fun i v hv => src_at hby hv⟩
    case hf => rw [u8s_length, Hl.out, z8_length]; omega
    case h1 => exact u8s_one _
    intro w3 hL3 hg3
    rw [HK.out] at hL3
    have h03 := Lies.grown h01 hg3 (by simp)
    have hbel3 : Below w.heap.size w w3 := hbel1.grown hg3 hbel1.size (by simp)
    clear hg3 h01 h11 hbel1 hq1
    go_frame
    go_upto_region 6 with (fail)
    repeat ((fail_if_success (with_reducible show wpList _ _ _ (⟨some 16, _, _, _, _, _⟩ :: _) _ _)); first | go_values | go_skip | go_guarded | go_step | go_upon | go_back | go_simp)
    with_reducible refine load_lies rfl 112 (.tmp 3) rfl (w.heap.size + 1) 112 KG _ hL3 ?hx Tryz.underlying112 ?hd ?hi ?_
    case hx => rfl
    case hd => rfl
    case hi => (rw [Hlen.out]; exact info43)
    repeat ((fail_if_success (with_reducible show wpList _ _ _ (⟨none, _, _, _, _, _⟩ :: _) _ _)); first | go_values | go_skip | go_guarded | go_step | go_upon | go_back | go_simp)
    with_reducible refine store_lies rfl 112 (.tmp 2) (.tmp 16) rfl w.heap.size KG 112 (z8 64) h03 ?sx ?sy ?si ?sl ?s1 ?_
    case sx => rfl
    case sy => rfl
    case si => (rw [z8_length]; exact info43)
    case sl => rw [Hlen.out, z8_length]
    case s1 => exact Hone.out
    go_wp2
    refine bodyPost_ret (results_one Tryz.results81 _ _ w.heap.size 112 KG _ rfl h03.row Tryz.underlying112 rfl (by rw [Hlen.out]; exact info43)) rfl ⟨rfl, below_row hbel3 (Nat.le_refl _)⟩
end Go.Proofs.YthklgpflaghojaaGreatDoor

/-
  The contracts of masked, sumBehind and Mac.
-/
namespace Go.Proofs.YthklgpflaghojaaGreatDoor
open Go.RowKit

/-- The first bytes masked. -/
def maskTo (L : List Nat) (m k : Nat) : List Nat := (Sha.mask L m).take k ++ L.drop k
theorem maskTo_at (L : List Nat) (m k : Nat) (hk : k < L.length) : (u8s (maskTo L m k))[k]? = some (.int .u8 (L.getD k 0 : Nat)) := by
  unfold maskTo u8s
  rw [List.getElem?_map, List.getElem?_append_right (by simp [Sha.mask]; omega), List.getElem?_drop]
  have : k + (k - (List.take k (Sha.mask L m)).length) = k := by simp [Sha.mask]; omega
  rw [this, List.getD_eq_getElem?_getD, List.getElem?_eq_getElem hk]; rfl
theorem maskTo_put (L : List Nat) (m k : Nat) (hk : k < L.length) : (u8s (maskTo L m k)).set k (.int .u8 ((L.getD k 0 ^^^ m : Nat) : Int)) = u8s (maskTo L m (k + 1)) := by
  have e : L.getD k 0 = L[k] := by rw [List.getD_eq_getElem?_getD, List.getElem?_eq_getElem hk]; rfl
  have hl : ((Sha.mask L m).take k).length = k := by simp [Sha.mask]; omega
  unfold maskTo
  rw [e, u8s_append, List.set_append_right _ _ (by rw [u8s_length, hl]; exact Nat.le_refl _), u8s_length, hl, Nat.sub_self, List.drop_eq_getElem_cons hk, List.take_succ_eq_append_getElem (show k < (Sha.mask L m).length by rw [Sha.mask_length]; exact hk),
    show (u8s (L[k] :: L.drop (k + 1))).set 0 (.int .u8 ((L[k] ^^^ m : Nat) : Int)) = .int .u8 ((L[k] ^^^ m : Nat) : Int) :: u8s (L.drop (k + 1)) from rfl, u8s_append, u8s_append]
  have e2 : (Sha.mask L m)[k]'(by rw [Sha.mask_length]; exact hk) = L[k] ^^^ m := by simp [Sha.mask]
  rw [e2, show u8s [L[k] ^^^ m] = [.int .u8 ((L[k] ^^^ m : Nat) : Int)] from rfl, List.append_assoc]
  rfl

set_option maxHeartbeats 400000 in
set_option maxRecDepth 100000 in
theorem masked_any (L : List Nat) (m : Nat) (w : World) (hL : L.length = 64) (hlt : ∀ x ∈ L, x < 256) (hm : m < 256) :
    Calls Tryz.prog 83 #[.agg (u8s L).toArray, .int .u8 m] w fun e w' => e = .returned (.agg (u8s (Sha.mask L m)).toArray) ∧ Below w.heap.size w w' := by
  have hz := zero43
  have HL := Lib.hid hL
  have Hlt := Lib.hid hlt
  clear hL hlt
  go_enter Tryz.func83, Tryz.ntmps83
  go_wp2_with fail
  generalize hw1 : World.alloc (World.alloc _ _) _ = w1
  have h01 : Lies w1 w.heap.size 112 (u8s L) := by rw [← hw1]; exact (Lies.made w _ (u8s L)).alloc _
  have h11 : Lies w1 (w.heap.size + 1) 112 (z8 64) := by rw [← hw1]; exact Lies.new_ (by simp)
  have hbel1 : Below w.heap.size w w1 := by rw [← hw1]; exact ((Below.refl _ _).alloc (Nat.le_refl _) _).alloc (by simp) _
  clear hw1 hz
  go_loopw [6] (fun i wr => ∃ k : Nat, k ≤ 64 ∧ i = .int .i64 k ∧ Lies wr w.heap.size 112 (u8s (maskTo L m k)) ∧ Lies wr (w.heap.size + 1) 112 (z8 64) ∧ Below w.heap.size w wr) (fun i _ => 64 - (intOf i).toNat)
  case atStart => exact ⟨0, Nat.zero_le _, rfl, h01, h11, hbel1⟩
  case round =>
    clear h01 h11 hbel1
    obtain ⟨k, hk, rfl, h0, h1, hb⟩ := hrel
    by_cases hlt : k < 64
    · have hd : decide ((k : Int) < 64) = true := by simp; omega
      have hx : L.getD k 0 < 256 := by
        have hk' : k < L.length := by rw [HL.out]; exact hlt
        rw [List.getD_eq_getElem?_getD, List.getElem?_eq_getElem hk']
        exact Hlt.out _ (List.getElem_mem hk')
      have hc := (h0.cell k).trans (maskTo_at L m k (by rw [HL.out]; exact hlt))
      have hf := h0.free k
      have HP := Lib.hid (maskTo_put L m k (by rw [HL.out]; exact hlt))
      obtain ⟨x, ex⟩ : ∃ x, L.getD k 0 = x := ⟨_, rfl⟩
      rw [ex] at hx hc HP
      clear ex
      have hxor := u8_xor_nat x m hx hm
      go_wp2
      go_roundw
      case rel =>
        refine ⟨k + 1, by omega, by go_num, ?_, h1.far (by simp) _, hb.setCell (by simp) _⟩
        have h := h0.put k (.int .u8 ((x ^^^ m : Nat) : Int))
        rw [HP.out] at h
        exact h
      case measure => simp [intOf]; omega
    · obtain rfl : k = 64 := by omega
      have hd : decide (((64 : Nat) : Int) < 64) = false := by decide
      have e : maskTo L m 64 = Sha.mask L m := by
        unfold maskTo
        rw [List.take_of_length_le (by rw [Sha.mask_length, HL.out]; exact Nat.le_refl _), List.drop_eq_nil_of_le (by rw [HL.out]; exact Nat.le_refl _), List.append_nil]
      rw [e] at h0
      have Hlen : Hid ((u8s (Sha.mask L m)).length = 64) := by unfold Hid; rw [u8s_length, Sha.mask_length, HL.out]
      have Hone : Hid ((u8s (Sha.mask L m)).all (·.oneCell') = true) := List.all_eq_true.2 (u8s_one _)
      obtain ⟨D, hDe⟩ : ∃ D, u8s (Sha.mask L m) = D := ⟨_, rfl⟩
      rw [hDe] at h0 Hlen Hone
      have HDe := Lib.hid hDe
      clear hDe e
      go_upto_region 6 with (fail)
      repeat ((fail_if_success (with_reducible show wpList _ _ _ (⟨some 16, _, _, _, _, _⟩ :: _) _ _)); first | go_values | go_skip | go_guarded | go_step | go_upon | go_back | go_simp)
      with_reducible refine load_lies rfl 112 (.tmp 2) rfl w.heap.size 112 D _ h0 ?hx Tryz.underlying112 ?hd ?hi ?_
      case hx => rfl
      case hd => rfl
      case hi => (rw [Hlen.out]; exact info43)
      repeat ((fail_if_success (with_reducible show wpList _ _ _ (⟨none, _, _, _, _, _⟩ :: _) _ _)); first | go_values | go_skip | go_guarded | go_step | go_upon | go_back | go_simp)
      with_reducible refine store_lies rfl 112 (.tmp 4) (.tmp 16) rfl (w.heap.size + 1) D 112 (z8 64) h1 ?sx ?sy ?si ?sl ?s1 ?_
      case sx => rfl
      case sy => rfl
      case si => (rw [z8_length]; exact info43)
      case sl => rw [Hlen.out, z8_length]
      case s1 => exact Hone.out
      go_wp2
      refine bodyPost_ret (results_one Tryz.results83 _ _ (w.heap.size + 1) 112 D _ rfl h1.row Tryz.underlying112 rfl (by rw [Hlen.out]; exact info43)) rfl ⟨?_, below_row hb (by omega)⟩
      rw [HDe.out]

set_option maxHeartbeats 400000 in
set_option maxRecDepth 100000 in
theorem sumBehind_any (L q : List Nat) (A : Option Addr) (c : Nat) (w : World) (hT : Tab w) (hL : L.length = 64) (hlt : ∀ x ∈ L, x < 256) (hq : ArgIs w A c q) (hn : q.length < 2305843009213693000) :
    Calls Tryz.prog 82 #[.agg (u8s L).toArray, .slice A q.length c] w fun e w' => e = .returned (.agg (u8s (Sha.sum (L ++ q))).toArray) ∧ Below w.heap.size w w' := by
  have hz := zero25
  have HL := Lib.hid hL
  have Hlt := Lib.hid hlt
  clear hL hlt
  go_enter Tryz.func82, Tryz.ntmps82
  go_wp2_with fail
  generalize hw0 : World.alloc (World.alloc _ _) _ = w0
  have h00 : Lies w0 w.heap.size 112 (u8s L) := by rw [← hw0]; exact (Lies.made w _ (u8s L)).alloc _
  have h10 : Lies w0 (w.heap.size + 1) 71 (z8 32) := by rw [← hw0]; exact Lies.new_ (by simp)
  have hbel0 : Below w.heap.size w w0 := by rw [← hw0]; exact ((Below.refl _ _).alloc (Nat.le_refl _) _).alloc (by simp) _
  have hB0 : w.heap.size + 2 ≤ w0.heap.size := by rw [← hw0]; simp
  clear hw0 hz
  refine (new_any _).mono ?_
  rintro e w1 ⟨g, rfl, hgB, hL1, hb1⟩
  have h01 := h00.below hb1 h00.lt
  have h11 := h10.below hb1 h10.lt
  have hbel1 : Below w.heap.size w w1 := hbel0.trans (hb1.mono hbel0.size)
  have hT1 : Tab w1 := hT.below hbel1 hT.lt
  have hTl := hT.lt
  have hB1 := hbel1.size
  have hw1 := hL1.lt
  clear hb1 h00 h10 hbel0
  go_wp2_with fail
  have hs1 : SliceIs w1 g (some ⟨w.heap.size, 0, none⟩) 64 L := ⟨by rw [HL.out]; exact Nat.le_refl _, by omega, Hlt.out, fun _ => ⟨w.heap.size, 0, rfl, by omega, h01.lt, by have := h01.bytes Hlt.out 0 64; rwa [List.drop_zero, List.take_of_length_le (by rw [HL.out]; exact Nat.le_refl _)] at this⟩⟩
  have hW1 := write_any g [] L (some ⟨w.heap.size, 0, none⟩) 64 w1 hT1 (hash_new hL1) hs1 (by omega) (by rw [HL.out]; simp)
  rw [HL.out] at hW1
  refine hW1.mono ?_
  clear hW1
  rintro e w2 ⟨rfl, hH2, hg2⟩
  rw [List.nil_append] at hH2
  have h12 := h11.grown hg2 (by simp; omega)
  have hbel2 := below_of_grown hbel1 hg2 hbel1.size (by omega)
  have hT2 : Tab w2 := hT.below hbel2 hT.lt
  have hs2 : SliceIs w2 g A c q := hq.slice hbel2 (Nat.le_refl _) (by omega)
  clear hg2 hT1 hbel1 h11 h01 hL1 hs1
  go_wp2_with fail
  refine (write_any g L q A c w2 hT2 hH2 hs2 (by omega) (by rw [HL.out]; omega)).mono ?_
  rintro e w3 ⟨rfl, hH3, hg3⟩
  have h13 := h12.grown hg3 (by simp; omega)
  have hbel3 := below_of_grown hbel2 hg3 hbel2.size (by omega)
  have hT3 : Tab w3 := hT.below hbel3 hT.lt
  clear hg3 hT2 hbel2 h12 hs2 hH2
  go_wp2_with fail
  refine (hashSum_any g (L ++ q) w3 hT3 hH3 (by rw [List.length_append, HL.out]; omega)).mono ?_
  rintro e w4 ⟨rfl, hb4⟩
  have h14 := h13.below hb4 h13.lt
  have hbel4 : Below w.heap.size w w4 := hbel3.trans (hb4.mono hbel3.size)
  have Hl32 : Hid ((u8s (Sha.sum (L ++ q))).length = 32) := by unfold Hid; rw [u8s_length, Sha.sum_length]
  have Hone : Hid ((u8s (Sha.sum (L ++ q))).all (·.oneCell') = true) := List.all_eq_true.2 (u8s_one _)
  obtain ⟨D, hDe⟩ : ∃ D, u8s (Sha.sum (L ++ q)) = D := ⟨_, rfl⟩
  rw [hDe] at Hl32 Hone ⊢
  have HDe := Lib.hid hDe
  clear hDe hb4 h13 hbel3 hT3 hH3 hq
  repeat ((fail_if_success (with_reducible show wpList _ _ _ (⟨none, _, _, _, _, _⟩ :: _) _ _)); first | go_values | go_skip | go_guarded | go_step | go_upon | go_back | go_simp)
  with_reducible refine store_lies rfl 71 (.tmp 4) (.tmp 14) rfl (w.heap.size + 1) D 71 (z8 32) h14 ?sx ?sy ?si ?sl ?s1 ?_
  case sx => rfl
  case sy => rfl
  case si => (rw [z8_length]; exact info25)
  case sl => rw [Hl32.out, z8_length]
  case s1 => exact Hone.out
  go_wp2
  refine bodyPost_ret (results_one Tryz.results82 _ _ (w.heap.size + 1) 71 D _ rfl h14.row Tryz.underlying71 rfl (by rw [Hl32.out]; exact info25)) rfl ⟨?_, below_row hbel4 (by omega)⟩
  rw [HDe.out]
end Go.Proofs.YthklgpflaghojaaGreatDoor

/-
  The contract of Mac.
-/
namespace Go.Proofs.YthklgpflaghojaaGreatDoor
open Go.RowKit

theorem range_of {w : World} {g : Nat} {t : TypeId} {cs : List Value} (h : Lies w g t cs) : w.rangeAt g 0 cs := fun j v hv => by rw [Nat.zero_add, h.cell]; exact hv
theorem there_of {w : World} {g : Nat} {t : TypeId} {cs : List Value} (h : Lies w g t cs) : w.there g 0 cs.length := fun j hj => by
  rw [Nat.zero_add, h.cell]
  exact ⟨by rw [List.getElem?_eq_getElem hj]; rfl, h.free j⟩
theorem range_call {w w' : World} {g : Nat} {cs : List Value} (h : w.rangeAt g 0 cs) (hb : Below w.heap.size w w') : w'.rangeAt g 0 cs := fun j v hv => by
  have := h j v hv
  rw [hb.cell (p := ⟨g, 0 + j, none⟩) (block_lt_of_cell this)]; exact this
theorem there_call {w w' : World} {g n : Nat} (h : w.there g 0 n) (hb : Below w.heap.size w w') : w'.there g 0 n := fun j hj => by
  obtain ⟨h1, h2⟩ := h j hj
  obtain ⟨u, hu⟩ := Option.isSome_iff_exists.1 h1
  have hlt := block_lt_of_cell hu
  exact ⟨by rw [hb.cell (p := ⟨g, 0 + j, none⟩) hlt]; exact h1, by rw [hb.frozen (p := ⟨g, 0 + j, none⟩) hlt]; exact h2⟩
theorem below_setCells {B g : Nat} {a : World} (hg : B ≤ g) : ∀ (vs : List Value) (o : Nat) (w : World), Below B a w → Below B a (w.setCells g o vs)
  | [], _, _, h => h
  | v :: r, o, _, h => below_setCells hg r (o + 1) _ (h.setCell hg v)
theorem arg_range {w : World} {g : Nat} {L : List Nat} {c : Nat} (h : w.rangeAt g 0 (u8s L)) (hL : ∀ x ∈ L, x < 256) (hc : L.length ≤ c) (hcm : c ≤ 9223372036854775807) : ArgIs w (some ⟨g, 0, none⟩) c L :=
  ⟨hc, hcm, hL, fun hp => by
    have h0 := h 0 (.int .u8 (L[0] : Nat)) (by simp [u8s, List.getElem?_eq_getElem hp])
    exact ⟨g, 0, rfl, block_lt_of_cell h0, fun j x hj => ⟨hL x (List.mem_of_getElem? hj), h j _ (by simp [u8s, hj])⟩⟩⟩

theorem results_mid {P : Program} {fn : Func} {p : Tmp} {ty : TypeId} (h : fn.results = #[.cell p ty]) (tmps : Array Value) (w : World) (g : Nat) (_t : TypeId) (cs : List Value) (d : TypeDesc)
    (hp : tmps.getD p undef = .pointer (some ⟨g, 0, none⟩)) (hc : w.rangeAt g 0 cs) (hu : P.underlying ty = some d) (hd : d.isRow = true) (hi : (P.info? ty).map (·.size) = some cs.length) :
    (results fn tmps).run P w = .ok (.agg cs.toArray) w := by
  have hp' : tmps[p]?.getD undef = .pointer (some ⟨g, 0, none⟩) := by simpa using hp
  simp [results, h, hp', asAddr, run_loadVar_mid w g 0 ty cs d hc hu hd hi]

set_option maxHeartbeats 800000 in
set_option maxRecDepth 100000 in
theorem mac_any (k q : List Nat) (A A' : Option Addr) (c c' : Nat) (w : World) (hT : Tab w) (hk : ArgIs w A c k) (hq : ArgIs w A' c' q) (hn : k.length < 2305843009213693952) (hn' : q.length < 2305843009213693000) :
    Calls Tryz.prog 60 #[.slice A k.length c, .slice A' q.length c'] w fun e w' => e = .returned (.agg (u8s (Sha.mac k q)).toArray) ∧ Below w.heap.size w w' := by
  have hz := zero25
  have hz2 := zero43
  go_enter Tryz.func60, Tryz.ntmps60
  go_wp2_with fail
  have hb0 : Below w.heap.size w (w.alloc (.cells (z8 32).toArray 71)) := (Below.refl _ _).alloc (Nat.le_refl _) _
  refine (keyGroup_any k A c _ (hT.below hb0 hT.lt) (hk.below hb0 (Nat.le_refl _)) hn).mono ?_
  rintro e w1 ⟨rfl, hb1⟩
  have h01 : Lies w1 w.heap.size 71 (z8 32) := (Lies.made w _ (z8 32)).below hb1 (by simp)
  have hbel1 : Below w.heap.size w w1 := hb0.trans (hb1.mono (by simp))
  have hB1 : w.heap.size + 1 ≤ w1.heap.size := by have := hb1.size; simp at this; omega
  have HKl : Hid ((Sha.keyG k).length = 64) := Sha.keyG_length k
  have HKt : Hid (∀ x ∈ Sha.keyG k, x < 256) := Sha.keyG_lt k hk.2.2.1
  obtain ⟨KG, hKG⟩ : ∃ KG, Sha.keyG k = KG := ⟨_, rfl⟩
  rw [hKG] at HKl HKt ⊢
  have HKG := Lib.hid hKG
  clear hKG hb0 hb1 hk
  repeat ((fail_if_success (with_reducible show wpList _ _ _ (⟨none, _, _, _, _, _⟩ :: _) _ _)); first | go_values | go_skip | go_guarded | go_step | go_upon | go_back | go_simp)
  with_reducible refine store_lies rfl 112 (.tmp 5) (.tmp 8) rfl w1.heap.size (u8s KG) 112 (z8 64) (Lies.new_ rfl) ?sx ?sy ?si ?sl ?s1 ?_
  case sx => rfl
  case sy => rfl
  case si => (rw [z8_length]; exact info43)
  case sl => rw [u8s_length, HKl.out, z8_length]
  case s1 => exact (List.all_eq_true.2 (u8s_one _))
  generalize hw2 : World.setRow _ _ _ = w2
  have h02 : Lies w2 w.heap.size 71 (z8 32) := by rw [← hw2]; exact (h01.alloc _).farRow (by omega)
  have hG2 : Lies w2 w1.heap.size 112 (u8s KG) := by rw [← hw2]; exact Lies.row (cs := z8 64) (Lies.new_ rfl)
  have hbel2 : Below w.heap.size w w2 := by rw [← hw2]; exact below_row (hbel1.alloc hbel1.size _) (by omega)
  clear hw2 h01 hbel1 hz2
  go_frame
  go_upto_region 2 with (fail)
  repeat ((fail_if_success (with_reducible show wpList _ _ _ (⟨some 9, _, _, _, _, _⟩ :: _) _ _)); first | go_values | go_skip | go_guarded | go_step | go_upon | go_back | go_simp)
  with_reducible refine load_lies rfl 112 (.tmp 5) rfl w1.heap.size 112 (u8s KG) _ hG2 ?hx Tryz.underlying112 ?hd ?hi ?_
  case hx => rfl
  case hd => rfl
  case hi => (rw [u8s_length, HKl.out]; exact info43)
  go_frame
  go_wp2_with fail
  refine (masked_any KG 54 w2 HKl.out HKt.out (by decide)).mono ?_
  rintro e w3 ⟨rfl, hb3⟩
  have h03 := h02.below hb3 h02.lt
  have hG3 := hG2.below hb3 hG2.lt
  have hbel3 : Below w.heap.size w w3 := hbel2.trans (hb3.mono hbel2.size)
  clear hb3 h02 hG2 hbel2
  go_wp2_with fail
  refine (sumBehind_any (Sha.mask KG 54) q A' c' w3 (hT.below hbel3 hT.lt) (by rw [Sha.mask_length]; exact HKl.out) (Sha.mask_lt KG 54 HKt.out (by decide)) (hq.below hbel3 (Nat.le_refl _)) hn').mono ?_
  rintro e w4 ⟨rfl, hb4⟩
  have h04 := h03.below hb4 h03.lt
  have hG4 := hG3.below hb4 hG3.lt
  have hbel4 : Below w.heap.size w w4 := hbel3.trans (hb4.mono hbel3.size)
  have hg4 := hG4.lt
  have HIl : Hid ((Sha.sum (Sha.mask KG 54 ++ q)).length = 32) := Sha.sum_length _
  have HIt : Hid (∀ x ∈ Sha.sum (Sha.mask KG 54 ++ q), x < 256) := Sha.sum_lt _
  obtain ⟨I, hI⟩ : ∃ I, Sha.sum (Sha.mask KG 54 ++ q) = I := ⟨_, rfl⟩
  rw [hI] at HIl HIt ⊢
  have HI := Lib.hid hI
  clear hI hb4 h03 hG3 hbel3 hq
  repeat ((fail_if_success (with_reducible show wpList _ _ _ (⟨none, _, _, _, _, _⟩ :: _) _ _)); first | go_values | go_skip | go_guarded | go_step | go_upon | go_back | go_simp)
  with_reducible refine store_lies rfl 71 (.tmp 6) (.tmp 12) rfl w4.heap.size (u8s I) 71 (z8 32) (Lies.new_ rfl) ?sx ?sy ?si ?sl ?s1 ?_
  case sx => rfl
  case sy => rfl
  case si => (rw [z8_length]; exact info25)
  case sl => rw [u8s_length, HIl.out, z8_length]
  case s1 => exact (List.all_eq_true.2 (u8s_one _))
  generalize hw5 : World.setRow _ _ _ = w5
  have h05 : Lies w5 w.heap.size 71 (z8 32) := by rw [← hw5]; exact (h04.alloc _).farRow (by have := h04.lt; omega)
  have hG5 : Lies w5 w1.heap.size 112 (u8s KG) := by rw [← hw5]; exact (hG4.alloc _).farRow (by omega)
  have hI5 : Lies w5 w4.heap.size 71 (u8s I) := by rw [← hw5]; exact Lies.row (cs := z8 32) (Lies.new_ rfl)
  have hbel5 : Below w.heap.size w w5 := by rw [← hw5]; exact below_row (hbel4.alloc hbel4.size _) (by have := h04.lt; omega)
  clear hw5 h04 hG4 hbel4 hz
  go_frame
  have r1 := range_of hG5
  have r2 := range_of hI5
  have r3 := there_of h05
  rw [z8_length] at r3
  have hu := Tryz.underlying112
  have hi : (Tryz.prog.info? 112).map (·.size) = some (u8s KG).length := by rw [u8s_length, HKl.out]; exact info43
  have hu2 := Tryz.underlying71
  have Hl32 : Hid ((u8s (Sha.sum (Sha.mask KG 92 ++ I))).length = 32) := by unfold Hid; rw [u8s_length, Sha.sum_length]
  have h1 : ∀ v ∈ u8s (Sha.sum (Sha.mask KG 92 ++ I)), v.oneCell' = true := u8s_one _
  obtain ⟨D, hD⟩ : ∃ D, u8s (Sha.sum (Sha.mask KG 92 ++ I)) = D := ⟨_, rfl⟩
  have hsb : ∀ W, Tab W → W.rangeAt w4.heap.size 0 (u8s I) → Calls Tryz.prog 82 #[.agg (u8s (Sha.mask KG 92)).toArray, .slice (some ⟨w4.heap.size, 0, none⟩) 32 32] W fun e w' => e = .returned (.agg D.toArray) ∧ Below W.heap.size W w' := by
    intro W hTW hr
    have := sumBehind_any (Sha.mask KG 92) I (some ⟨w4.heap.size, 0, none⟩) 32 W hTW (by rw [Sha.mask_length]; exact HKl.out) (Sha.mask_lt KG 92 HKt.out (by decide)) (arg_range hr HIt.out (by rw [HIl.out]; exact Nat.le_refl _) (by decide)) (by rw [HIl.out]; decide)
    rw [HIl.out, hD] at this
    exact this
  have Hsb := Lib.hid hsb
  rw [hD] at Hl32 h1
  have HD := Lib.hid hD
  have hiD : (Tryz.prog.info? 71).map (·.size) = some D.length := by rw [Hl32.out]; exact info25
  have hDl : D.length = 32 := Hl32.out
  clear hD hsb h05 hG5 hI5
  go_upto_region 3 with (fail)
  go_region_held3 (fun W => W.rangeAt w1.heap.size 0 (u8s KG) ∧ W.rangeAt w4.heap.size 0 (u8s I) ∧ W.there w.heap.size 0 32 ∧ Below w.heap.size w W)
    (first
      | (go_split_ands; exact ⟨range_call (by assumption) hba, range_call (by assumption) hba, there_call (by assumption) hba, (by assumption : Below w.heap.size w _).trans (hba.mono (by assumption : Below w.heap.size w _).size)⟩)
      | (go_split_ands; exact ⟨by assumption, by assumption, by assumption, Below.drew (by assumption)⟩)
      | (go_split_ands; exact ⟨World.rangeAt_setCells_apart (by assumption) _ _ _ (by omega), World.rangeAt_setCells_apart (by assumption) _ _ _ (by omega), World.there_setCells (by assumption) _ _ _, below_setCells (Nat.le_refl _) _ _ _ (by assumption)⟩)
      | go_keep_ranges)
    (first
      | (go_at_call 83; refine (masked_any KG 92 _ HKl.out HKt.out (by decide)).mono ?_; rintro e wa ⟨rfl, hba⟩)
      | (go_at_call 82; go_split_ands; refine (Hsb.out _ (hT.below (by assumption : Below w.heap.size w _) hT.lt) (by assumption)).mono ?_; rintro e wa ⟨rfl, hba⟩))
  have ht := there_call (by assumption) hba
  rw [← hDl] at ht
  have hR := World.rangeAt_setCells_same wa w.heap.size 0 D ht
  go_split_ands
  have hfin : Below w.heap.size w (wa.setCells w.heap.size 0 D) := by assumption
  clear ht Hsb hi hu hu2
  go_wp2
  refine bodyPost_ret (results_mid Tryz.results60 _ _ w.heap.size 71 D _ rfl hR Tryz.underlying71 rfl hiD) rfl ⟨?_, hfin⟩
  unfold Sha.mac
  rw [HKG.out, HI.out, HD.out]
end Go.Proofs.YthklgpflaghojaaGreatDoor

/-
  The contract of the law package's alive: it answers true.
-/
namespace Go.Proofs.YthklgpflaghojaaGreatDoor
open Go.RowKit
end Go.Proofs.YthklgpflaghojaaGreatDoor
