/-
  QT1: B64 BMem BSmall BIdx BJoin BApp BEnc BFill BDec, side by side.
-/
import Derived.Test.YthklgpflaghojaaGreatDoorRows
import Derived.Test.YthklgpflaghojaaGreatDoorQM
import Derived.WalkKit
import Derived.WalkSpells
import Derived.WalkLawsBesides
import Derived.Lib.Hide
import Derived.Deep.QuietTactic
import Derived.BigQuiet
import Derived.ArgAppend
import Derived.Laws.BytesArg
import Derived.Laws.MakeOwn
import Derived.Lib.Bytealg
import Derived.Test.YthklgpflaghojaaGreatDoorQR1
import Derived.Outline
import Derived.StillTailTactics
import Derived.Deep.AppendLies
import Derived.Deep.Cut

/-
  Bytes as letters: plain lists of numbers, no program.
-/
namespace Go.Proofs.YthklgpflaghojaaGreatDoor.B64

/-- The 64 signs. -/
def SL : List Nat := [65, 66, 67, 68, 69, 70, 71, 72, 73, 74, 75, 76, 77, 78, 79, 80, 81, 82, 83, 84, 85, 86, 87, 88, 89, 90, 97, 98, 99, 100, 101, 102, 103, 104, 105, 106, 107, 108, 109, 110, 111, 112, 113, 114, 115, 116, 117, 118, 119, 120, 121, 122, 48, 49, 50, 51, 52, 53, 54, 55, 56, 57, 45, 95]
def sign (n : Nat) : Nat := SL.getD n 0
/-- A sign's value; 64: it is none. -/
def val (c : Nat) : Nat := SL.idxOf c
theorem SL_length : SL.length = 64 := rfl
theorem val_sign : ∀ n, n < 64 → val (sign n) = n := by decide +kernel
theorem sign_lt64 : ∀ n, n < 64 → sign n < 256 := by decide +kernel
theorem sign_lt (n : Nat) : sign n < 256 := by
  by_cases h : n < 64
  · exact sign_lt64 n h
  · unfold sign; rw [List.getD_eq_getElem?_getD, List.getElem?_eq_none (by rw [SL_length]; omega)]; decide
theorem sign_val (c : Nat) (h : val c < 64) : sign (val c) = c := by
  have h' : SL.idxOf c < SL.length := h
  unfold sign val
  rw [List.getD_eq_getElem?_getD, List.getElem?_eq_getElem h']
  exact List.getElem_idxOf h'

/-- The bits of at most three bytes, of at most four signs. -/
def jb (g : List Nat) : Nat := g.getD 0 0 * 65536 + g.getD 1 0 * 256 + g.getD 2 0
def jsum (L : List Nat) : Nat := val (L.getD 0 65) * 262144 + val (L.getD 1 65) * 4096 + val (L.getD 2 65) * 64 + val (L.getD 3 65)
def okS (L : List Nat) : Prop := ∀ x ∈ L, val x < 64
def sf (n : Nat) : Nat := n + n / 3 + min 1 (n % 3)
def bi (n : Nat) : Nat := n - n / 4 - min 1 (n % 4)
def sg (g : List Nat) : List Nat := (List.range (sf g.length)).map fun i => sign (jb g / 2 ^ (18 - 6 * i) % 64)
def fl (n word : Nat) : List Nat := (List.range n).map fun i => word / 2 ^ (16 - 8 * i) % 256
theorem val65 : val 65 = 0 := rfl

theorem sg1 (a : Nat) : sg [a] = [sign (a * 65536 / 262144 % 64), sign (a * 65536 / 4096 % 64)] := by
  simp [sg, sf, jb, List.range_succ]
theorem sg2 (a b : Nat) : sg [a, b] = [sign ((a * 65536 + b * 256) / 262144 % 64), sign ((a * 65536 + b * 256) / 4096 % 64), sign ((a * 65536 + b * 256) / 64 % 64)] := by
  simp [sg, sf, jb, List.range_succ]
theorem sg3 (a b c : Nat) : sg [a, b, c] = [sign ((a * 65536 + b * 256 + c) / 262144 % 64), sign ((a * 65536 + b * 256 + c) / 4096 % 64), sign ((a * 65536 + b * 256 + c) / 64 % 64), sign ((a * 65536 + b * 256 + c) % 64)] := by
  simp [sg, sf, jb, List.range_succ]
theorem sg_length (g : List Nat) : (sg g).length = sf g.length := by simp [sg]
theorem fl_length (n word : Nat) : (fl n word).length = n := by simp [fl]
theorem fl_lt (n word : Nat) : ∀ x ∈ fl n word, x < 256 := by
  intro x hx
  simp only [fl, List.mem_map] at hx
  obtain ⟨i, _, rfl⟩ := hx
  exact Nat.mod_lt _ (by decide)
theorem sg_lt (g : List Nat) : ∀ x ∈ sg g, x < 256 := by
  intro x hx
  simp only [sg, List.mem_map] at hx
  obtain ⟨i, _, rfl⟩ := hx
  exact sign_lt _
theorem fl1 (w : Nat) : fl 1 w = [w / 65536 % 256] := by simp [fl, List.range_succ]
theorem fl2 (w : Nat) : fl 2 w = [w / 65536 % 256, w / 256 % 256] := by simp [fl, List.range_succ]
theorem fl3 (w : Nat) : fl 3 w = [w / 65536 % 256, w / 256 % 256, w % 256] := by simp [fl, List.range_succ]
theorem jb1 (a : Nat) : jb [a] = a * 65536 := by simp [jb]
theorem jb2 (a b : Nat) : jb [a, b] = a * 65536 + b * 256 := by simp [jb]
theorem jb3 (a b c : Nat) : jb [a, b, c] = a * 65536 + b * 256 + c := by simp [jb]
theorem getD_lt {g : List Nat} (h : ∀ x ∈ g, x < 256) (i : Nat) : g.getD i 0 < 256 := by
  rw [List.getD_eq_getElem?_getD]
  cases e : g[i]? with
  | none => simp
  | some x => exact h x (List.mem_of_getElem? e)
theorem vs (n : Nat) : val (sign (n % 64)) = n % 64 := val_sign _ (Nat.mod_lt _ (by decide))

/-- What at most three bytes are written as says them. -/
theorem js_sg (g : List Nat) (hb : ∀ x ∈ g, x < 256) (hn : g.length ≤ 3) : okS (sg g) ∧ jsum (sg g) = jb g := by
  refine ⟨?_, ?_⟩
  · intro x hx
    simp only [sg, List.mem_map] at hx
    obtain ⟨i, _, rfl⟩ := hx
    rw [vs]; exact Nat.mod_lt _ (by decide)
  · match g, hn with
    | [], _ => rfl
    | [a], _ =>
      have ha := hb a (by simp)
      rw [sg1, jb1]; simp only [jsum, List.getD_cons_zero, List.getD_cons_succ, List.getD_nil, vs, val65]; omega
    | [a, b], _ =>
      have ha := hb a (by simp)
      have hb' := hb b (by simp)
      rw [sg2, jb2]; simp only [jsum, List.getD_cons_zero, List.getD_cons_succ, List.getD_nil, vs, val65]; omega
    | [a, b, c], _ =>
      have ha := hb a (by simp)
      have hb' := hb b (by simp)
      have hc := hb c (by simp)
      rw [sg3, jb3]; simp only [jsum, List.getD_cons_zero, List.getD_cons_succ, vs]; omega
theorem fl_jb (g : List Nat) (hb : ∀ x ∈ g, x < 256) (hn : g.length ≤ 3) : fl g.length (jb g) = g := by
  match g, hn with
  | [], _ => rfl
  | [a], _ =>
    have ha := hb a (by simp)
    rw [jb1, List.length_singleton, fl1, show a * 65536 / 65536 % 256 = a from by omega]
  | [a, b], _ =>
    have ha := hb a (by simp)
    have hb' := hb b (by simp)
    rw [jb2, show [a, b].length = 2 from rfl, fl2, show (a * 65536 + b * 256) / 65536 % 256 = a from by omega, show (a * 65536 + b * 256) / 256 % 256 = b from by omega]
  | [a, b, c], _ =>
    have ha := hb a (by simp)
    have hb' := hb b (by simp)
    have hc := hb c (by simp)
    rw [jb3, show [a, b, c].length = 3 from rfl, fl3, show (a * 65536 + b * 256 + c) / 65536 % 256 = a from by omega, show (a * 65536 + b * 256 + c) / 256 % 256 = b from by omega, show (a * 65536 + b * 256 + c) % 256 = c from by omega]
theorem sg_inj {g g' : List Nat} (hb : ∀ x ∈ g, x < 256) (hb' : ∀ x ∈ g', x < 256) (hn : g.length ≤ 3) (hl : g.length = g'.length) (h : sg g = sg g') : g = g' := by
  have e : jb g = jb g' := by rw [← (js_sg g hb hn).2, ← (js_sg g' hb' (by omega)).2, h]
  rw [← fl_jb g hb hn, ← fl_jb g' hb' (by omega), e, hl]
theorem list234 (L : List Nat) (h1 : 2 ≤ L.length) (h2 : L.length ≤ 4) : (∃ a b, L = [a, b]) ∨ (∃ a b c, L = [a, b, c]) ∨ ∃ a b c d, L = [a, b, c, d] := by
  rcases L with _ | ⟨a, _ | ⟨b, _ | ⟨c, _ | ⟨d, _ | ⟨e, r⟩⟩⟩⟩⟩
  · simp at h1
  · simp at h1
  · exact .inl ⟨a, b, rfl⟩
  · exact .inr (.inl ⟨a, b, c, rfl⟩)
  · exact .inr (.inr ⟨a, b, c, d, rfl⟩)
  · simp at h2
/-- Two, three or four signs whose bits fit in bytes are those bytes' own. -/
theorem sg_fl (L : List Nat) (h1 : 2 ≤ L.length) (h2 : L.length ≤ 4) (ok : okS L) (h : jb (fl (bi L.length) (jsum L)) = jsum L) : sg (fl (bi L.length) (jsum L)) = L := by
  rcases list234 L h1 h2 with ⟨a, b, rfl⟩ | ⟨a, b, c, rfl⟩ | ⟨a, b, c, d, rfl⟩
  · have ha := ok a (by simp)
    have hb := ok b (by simp)
    have e : jsum [a, b] = val a * 262144 + val b * 4096 := by simp [jsum, val65]
    rw [show [a, b].length = 2 from rfl, show bi 2 = 1 from by decide, fl1, jb1] at h
    rw [show [a, b].length = 2 from rfl, show bi 2 = 1 from by decide, fl1, sg1, h, e, show (val a * 262144 + val b * 4096) / 262144 % 64 = val a from by omega, show (val a * 262144 + val b * 4096) / 4096 % 64 = val b from by omega, sign_val a ha, sign_val b hb]
  · have ha := ok a (by simp)
    have hb := ok b (by simp)
    have hc := ok c (by simp)
    have e : jsum [a, b, c] = val a * 262144 + val b * 4096 + val c * 64 := by simp [jsum, val65]
    rw [show [a, b, c].length = 3 from rfl, show bi 3 = 2 from by decide, fl2, jb2] at h
    rw [show [a, b, c].length = 3 from rfl, show bi 3 = 2 from by decide, fl2, sg2, h, e, show (val a * 262144 + val b * 4096 + val c * 64) / 262144 % 64 = val a from by omega, show (val a * 262144 + val b * 4096 + val c * 64) / 4096 % 64 = val b from by omega,
      show (val a * 262144 + val b * 4096 + val c * 64) / 64 % 64 = val c from by omega, sign_val a ha, sign_val b hb, sign_val c hc]
  · have ha := ok a (by simp)
    have hb := ok b (by simp)
    have hc := ok c (by simp)
    have hd := ok d (by simp)
    have e : jsum [a, b, c, d] = val a * 262144 + val b * 4096 + val c * 64 + val d := by simp [jsum]
    rw [show [a, b, c, d].length = 4 from rfl, show bi 4 = 3 from by decide, fl3, jb3] at h
    rw [show [a, b, c, d].length = 4 from rfl, show bi 4 = 3 from by decide, fl3, sg3, h, e, show (val a * 262144 + val b * 4096 + val c * 64 + val d) / 262144 % 64 = val a from by omega, show (val a * 262144 + val b * 4096 + val c * 64 + val d) / 4096 % 64 = val b from by omega,
      show (val a * 262144 + val b * 4096 + val c * 64 + val d) / 64 % 64 = val c from by omega, show (val a * 262144 + val b * 4096 + val c * 64 + val d) % 64 = val d from by omega, sign_val a ha, sign_val b hb, sign_val c hc, sign_val d hd]

/-- The writing of any bytes. -/
def enc : List Nat → List Nat
  | [] => []
  | [a] => sg [a]
  | [a, b] => sg [a, b]
  | a :: b :: c :: r => sg [a, b, c] ++ enc r

theorem enc_step (q : List Nat) (h : 0 < q.length) : enc q = sg (q.take (min 3 q.length)) ++ enc (q.drop (min 3 q.length)) := by
  match q, h with
  | [a], _ => simp [enc]
  | [a, b], _ => simp [enc]
  | a :: b :: c :: r, _ =>
    have e : min 3 (a :: b :: c :: r).length = 3 := by simp only [List.length_cons]; omega
    rw [e]; simp [enc]
theorem sf_add3 (n : Nat) : sf (n + 3) = sf n + 4 := by unfold sf; omega
theorem enc_length (q : List Nat) : (enc q).length = sf q.length := by
  induction q using enc.induct with
  | case1 => rfl
  | case2 a => simp [enc, sg_length]
  | case3 a b => simp [enc, sg_length]
  | case4 a b c r ih =>
    rw [enc, List.length_append, ih, sg_length, show (a :: b :: c :: r).length = r.length + 3 from rfl, sf_add3, show [a, b, c].length = 3 from rfl, show sf 3 = 4 from by decide]; omega
theorem enc_lt (q : List Nat) : ∀ x ∈ enc q, x < 256 := by
  induction q using enc.induct with
  | case1 => intro x hx; simp [enc] at hx
  | case2 a => exact sg_lt _
  | case3 a b => exact sg_lt _
  | case4 a b c r ih =>
    intro x hx
    rw [enc, List.mem_append] at hx
    rcases hx with hx | hx
    · exact sg_lt _ x hx
    · exact ih x hx
theorem enc_join (p q : List Nat) (h : p.length % 3 = 0) : enc (p ++ q) = enc p ++ enc q := by
  induction p using enc.induct with
  | case1 => simp [enc]
  | case2 a => simp at h
  | case3 a b => simp at h
  | case4 a b c r ih =>
    have h' : r.length % 3 = 0 := by simp only [List.length_cons] at h; omega
    rw [List.cons_append, List.cons_append, List.cons_append, enc, enc, ih h', List.append_assoc]
theorem sf_inj {m n : Nat} (h : sf m = sf n) : m = n := by unfold sf at h; omega
theorem enc_short (g : List Nat) (h : g.length ≤ 3) : enc g = sg g := by
  match g, h with
  | [], _ => rfl
  | [a], _ => rfl
  | [a, b], _ => rfl
  | [a, b, c], _ => simp [enc]
theorem enc_inj (n : Nat) : ∀ p q : List Nat, p.length ≤ n → (∀ x ∈ p, x < 256) → (∀ x ∈ q, x < 256) → enc p = enc q → p = q := by
  induction n with
  | zero =>
    intro p q hn _ _ h
    have hp : p = [] := List.eq_nil_of_length_eq_zero (by omega)
    subst hp
    have hl := congrArg List.length h
    rw [enc_length, enc_length] at hl
    have := sf_inj hl
    exact (List.eq_nil_of_length_eq_zero this.symm).symm
  | succ n ih =>
    intro p q hn hp hq h
    have hl : p.length = q.length := by
      have hl := congrArg List.length h
      rw [enc_length, enc_length] at hl
      exact sf_inj hl
    rcases Nat.eq_zero_or_pos p.length with h0 | h0
    · have e1 : p = [] := List.eq_nil_of_length_eq_zero h0
      have e2 : q = [] := List.eq_nil_of_length_eq_zero (by omega)
      rw [e1, e2]
    · rw [enc_step p h0, enc_step q (by omega), ← hl] at h
      obtain ⟨h1, h2⟩ := List.append_inj h (by rw [sg_length, sg_length, List.length_take, List.length_take, hl])
      have e1 : p.take (min 3 p.length) = q.take (min 3 p.length) :=
        sg_inj (fun x hx => hp x (List.mem_of_mem_take hx)) (fun x hx => hq x (List.mem_of_mem_take hx)) (by rw [List.length_take]; omega) (by rw [List.length_take, List.length_take, hl]) h1
      have e2 := ih (p.drop (min 3 p.length)) (q.drop (min 3 p.length)) (by rw [List.length_drop]; omega) (fun x hx => hp x (List.mem_of_mem_drop hx)) (fun x hx => hq x (List.mem_of_mem_drop hx)) h2
      rw [← List.take_append_drop (min 3 p.length) p, e1, e2, List.take_append_drop]
theorem enc_one {p q : List Nat} (hp : ∀ x ∈ p, x < 256) (hq : ∀ x ∈ q, x < 256) (h : enc p = enc q) : p = q := enc_inj p.length p q (Nat.le_refl _) hp hq h
theorem enc_behind {D q s : List Nat} (h3 : D.length % 3 = 0) (hD : ∀ x ∈ D, x < 256) (hq : ∀ x ∈ q, x < 256) (h : enc q = enc D ++ s) : ∃ r, q = D ++ r ∧ enc r = s := by
  have hl := congrArg List.length h
  rw [List.length_append, enc_length, enc_length] at hl
  have hle : D.length ≤ q.length := by unfold sf at hl; omega
  refine ⟨q.drop D.length, ?_, ?_⟩
  all_goals
    have ht : (q.take D.length).length = D.length := by rw [List.length_take]; omega
    have e := enc_join (q.take D.length) (q.drop D.length) (by rw [ht]; exact h3)
    rw [List.take_append_drop, h] at e
    obtain ⟨e1, e2⟩ := List.append_inj e (by rw [enc_length, enc_length, ht])
    have e3 := enc_one hD (fun x hx => hq x (List.mem_of_mem_take hx)) e1
  · conv => rhs; rw [e3]
    rw [List.length_take, Nat.min_eq_left hle, List.take_append_drop]
  · exact e2.symm

/-- What a reading of a text must be: the bytes whose writing it is, or none. -/
def IsDec (s : List Nat) (r : Option (List Nat)) : Prop := match r with
  | some q => (∀ x ∈ q, x < 256) ∧ enc q = s
  | none => ∀ q : List Nat, (∀ x ∈ q, x < 256) → enc q ≠ s
theorem isDec_one {s : List Nat} {r r' : Option (List Nat)} (h : IsDec s r) (h' : IsDec s r') : r = r' := by
  cases r with
  | none => cases r' with
    | none => rfl
    | some q => exact absurd h'.2 (h q h'.1)
  | some p => cases r' with
    | none => exact absurd h.2 (h' p h.1)
    | some q => rw [enc_one h.1 h'.1 (h.2.trans h'.2.symm)]
theorem not_of_length {s : List Nat} (h : s.length % 4 = 1) : IsDec s none := by
  intro q _ e
  have := congrArg List.length e
  rw [enc_length] at this
  unfold sf at this
  omega
/-- One group more is read. -/
theorem dec_next {D s : List Nat} {n : Nat} (h3 : D.length % 3 = 0) (h0 : 0 < s.length) (h1 : s.length % 4 ≠ 1) (hn : n = min 4 s.length) (ok : okS (s.take n)) (h : jb (fl (bi n) (jsum (s.take n))) = jsum (s.take n)) :
    enc (D ++ fl (bi n) (jsum (s.take n))) ++ s.drop n = enc D ++ s := by
  have hl : (s.take n).length = n := by rw [List.length_take]; omega
  have e := sg_fl (s.take n) (by omega) (by omega) ok (by rw [hl]; exact h)
  rw [hl] at e
  rw [enc_join _ _ h3, enc_short (fl (bi n) (jsum (s.take n))) (by rw [fl_length]; unfold bi; omega), e, List.append_assoc, List.take_append_drop]
/-- The first group of what is left of a writing is that of bytes. -/
theorem group_ok {D q s : List Nat} {n : Nat} (h3 : D.length % 3 = 0) (hD : ∀ x ∈ D, x < 256) (hq : ∀ x ∈ q, x < 256) (he : enc q = enc D ++ s) (h0 : 0 < s.length) (hn : n = min 4 s.length) :
    okS (s.take n) ∧ jb (fl (bi n) (jsum (s.take n))) = jsum (s.take n) := by
  obtain ⟨r, rfl, hr⟩ := enc_behind h3 hD hq he
  have hrb : ∀ x ∈ r, x < 256 := fun x hx => hq x (List.mem_append_right _ hx)
  have hl := congrArg List.length hr
  rw [enc_length] at hl
  have hr0 : 0 < r.length := by
    rcases Nat.eq_zero_or_pos r.length with h | h
    · rw [h, show sf 0 = 0 from rfl] at hl; omega
    · exact h
  have hg : (r.take (min 3 r.length)).length = min 3 r.length := by rw [List.length_take]; omega
  have hgb : ∀ x ∈ r.take (min 3 r.length), x < 256 := fun x hx => hrb x (List.mem_of_mem_take hx)
  have e := enc_step r hr0
  rw [hr] at e
  have hsn : sf (min 3 r.length) = n := by rw [hn, ← hl]; unfold sf; omega
  have ht : s.take n = sg (r.take (min 3 r.length)) := by
    conv => lhs; rw [e]
    rw [List.take_append_of_le_length (by rw [sg_length, hg, hsn]; exact Nat.le_refl _), List.take_of_length_le (by rw [sg_length, hg, hsn]; exact Nat.le_refl _)]
  obtain ⟨j1, j2⟩ := js_sg (r.take (min 3 r.length)) hgb (by rw [hg]; omega)
  have hbi : bi n = (r.take (min 3 r.length)).length := by rw [hg, ← hsn]; unfold bi sf; omega
  rw [ht]
  refine ⟨j1, ?_⟩
  rw [j2, hbi, fl_jb _ hgb (by rw [hg]; omega)]
theorem dec_fails {D s S : List Nat} {n : Nat} (h3 : D.length % 3 = 0) (hD : ∀ x ∈ D, x < 256) (hS : enc D ++ s = S) (h0 : 0 < s.length) (hn : n = min 4 s.length)
    (h : ¬ (okS (s.take n) ∧ jb (fl (bi n) (jsum (s.take n))) = jsum (s.take n))) : IsDec S none := by
  intro q hq e
  rw [← hS] at e
  exact h (group_ok h3 hD hq e h0 hn)
end Go.Proofs.YthklgpflaghojaaGreatDoor.B64

/-
  Bytes in memory and in texts, for the walks over base.
-/
namespace Go.Proofs.YthklgpflaghojaaGreatDoor
open Go.RowKit
section
variable {w w' : World} {A : Option Addr} {c : Nat} {q : List Nat}
end
set_option maxRecDepth 100000 in
theorem info3b : (Tryz.prog.info? 3).map (fun i => (i.zero, i.size, i.bytes)) = some (some (.int .i64 0), 1, 8) := by kernel_rfl

end Go.Proofs.YthklgpflaghojaaGreatDoor

/-
  The contracts of base's small functions: signsFor, bytesIn, joinBytes, strings.IndexByte at the signs.
-/
namespace Go.Proofs.YthklgpflaghojaaGreatDoor
open Go.RowKit
set_option maxRecDepth 100000 in
set_option maxHeartbeats 400000 in
theorem bytesIn_any (n : Nat) (h : n ≤ 281474976710656) (w : World) :
    Calls Tryz.prog 70 #[.int .i64 n] w fun e w' => e = .returned (.int .i64 (B64.bi n : Nat)) ∧ w = w' := by
  go_enter Tryz.func70, Tryz.ntmps70
  go_wp2
  all_goals
    go_ret
    exact ⟨ret_int (by unfold B64.bi; omega), rfl⟩

theorem val_u32 {a b : Int} (h : a = b) : Value.int .u32 a = .int .u32 b := by rw [h]
/-- One byte more, from the most significant one down. -/
theorem jb_or0 (x : Nat) (hx : x < 256) : bits .or .u32 0 ((x : Int) * 65536) = ((x * 65536 : Nat) : Int) := by
  have e : ((x : Int) * 65536) = ((x * 65536 : Nat) : Int) := by omega
  rw [e, show (0 : Int) = ((0 : Nat) : Int) from rfl, u32_or_nat _ _ (by omega) (by omega), Nat.zero_or]
theorem jb_or1 (a x : Nat) (ha : a < 256) (hx : x < 256) : bits .or .u32 ((a : Int) * 65536) ((x : Int) * 256) = ((a * 65536 + x * 256 : Nat) : Int) := by
  have e : ((x : Int) * 256) = ((x * 256 : Nat) : Int) := by omega
  have e' : ((a : Int) * 65536) = ((a * 65536 : Nat) : Int) := by omega
  rw [e, e', u32_or_nat _ _ (by omega) (by omega), show a * 65536 = 2 ^ 16 * a from by omega, or_add _ _ 16 (by omega)]
theorem jb_or2 (a b x : Nat) (ha : a < 256) (hb : b < 256) (hx : x < 256) : bits .or .u32 ((a : Int) * 65536 + (b : Int) * 256) (x : Int) = ((a * 65536 + b * 256 + x : Nat) : Int) := by
  have e' : ((a : Int) * 65536 + (b : Int) * 256) = ((a * 65536 + b * 256 : Nat) : Int) := by omega
  rw [e', u32_or_nat _ _ (by omega) (by omega), show a * 65536 + b * 256 = 2 ^ 8 * (a * 256 + b) from by omega, or_add _ _ 8 (by omega)]

theorem jb_take (g : List Nat) (k : Nat) (hk : k < g.length) (h3 : g.length ≤ 3) (hb : ∀ x ∈ g, x < 256) :
    (k = 0 ∧ B64.jb (g.take 0) = 0 ∧ B64.jb (g.take 1) = g.getD 0 0 * 65536) ∨
    (k = 1 ∧ ∃ a, a < 256 ∧ B64.jb (g.take 1) = a * 65536 ∧ B64.jb (g.take 2) = a * 65536 + g.getD 1 0 * 256) ∨
    (k = 2 ∧ ∃ a b, a < 256 ∧ b < 256 ∧ B64.jb (g.take 2) = a * 65536 + b * 256 ∧ B64.jb (g.take 3) = a * 65536 + b * 256 + g.getD 2 0) := by
  rcases g with _ | ⟨a, _ | ⟨b, _ | ⟨c, _ | ⟨d, r⟩⟩⟩⟩
  · simp at hk
  · have : k = 0 := by simp at hk; omega
    exact .inl ⟨this, by simp [B64.jb]⟩
  · have : k = 0 ∨ k = 1 := by simp at hk; omega
    rcases this with h | h
    · exact .inl ⟨h, by simp [B64.jb]⟩
    · exact .inr (.inl ⟨h, a, hb a (by simp), by simp [B64.jb]⟩)
  · have : k = 0 ∨ k = 1 ∨ k = 2 := by simp at hk; omega
    rcases this with h | h | h
    · exact .inl ⟨h, by simp [B64.jb]⟩
    · exact .inr (.inl ⟨h, a, hb a (by simp), by simp [B64.jb]⟩)
    · exact .inr (.inr ⟨h, a, b, hb a (by simp), hb b (by simp), by simp [B64.jb]⟩)
  · simp at h3

set_option maxRecDepth 100000 in
set_option maxHeartbeats 400000 in
theorem joinBytes_any (g : List Nat) (A : Option Addr) (c : Nat) (w : World) (hg : ArgIs w A c g) (h3 : g.length ≤ 3) :
    Calls Tryz.prog 94 #[.slice A g.length c] w fun e w' => e = .returned (.int .u32 (B64.jb g : Nat)) ∧ w = w' := by
  obtain ⟨l, hl⟩ : ∃ l, g.length = l := ⟨_, rfl⟩
  have h3' := h3
  rw [hl] at h3' ⊢
  have Hl := Lib.hid hl
  clear hl
  go_enter Tryz.func94, Tryz.ntmps94
  go_wp2
  go_loop [3, 8] (fun v i => ∃ k : Nat, k ≤ l ∧ i = .int .i64 k ∧ v = .int .u32 (B64.jb (g.take k) : Nat)) (fun _ i => l - (intOf i).toNat)
  case atStart => exact ⟨0, Nat.zero_le _, rfl, by rw [List.take_zero]; rfl⟩
  case round =>
    obtain ⟨k, hk, rfl, rfl⟩ := hrel
    by_cases hlt : k < l
    · have hj := jb_take g k (by rw [Hl.out]; exact hlt) h3 hg.2.2.1
      have hx : g.getD k 0 < 256 := B64.getD_lt hg.2.2.1 k
      obtain ⟨b, off, rfl, _, hby⟩ := hg.2.2.2 (by rw [Hl.out]; omega)
      have hc : w.cell? ⟨b, off + k, none⟩ = some (.int .u8 (g.getD k 0 : Nat)) := hby.get (by rw [Hl.out]; exact hlt)
      clear hby hg
      rcases hj with ⟨rfl, h1, h2⟩ | ⟨rfl, a, ha, h1, h2⟩ | ⟨rfl, a, b', ha, hb, h1, h2⟩
      · rw [h1]
        have HF := Lib.hid h2
        obtain ⟨x, ex⟩ : ∃ x, g.getD 0 0 = x := ⟨_, rfl⟩
        rw [ex] at hx hc HF
        rw [Nat.add_zero] at hc
        clear ex h1 h2
        go_wp2
        go_round
        case rel => exact ⟨1, by omega, rfl, by rw [HF.out]; exact val_u32 (by first | omega | exact jb_or0 x hx)⟩
        case measure => simp [intOf]; omega
      · rw [h1]
        have HF := Lib.hid h2
        obtain ⟨x, ex⟩ : ∃ x, g.getD 1 0 = x := ⟨_, rfl⟩
        rw [ex] at hx hc HF
        clear ex h1 h2
        go_wp2
        go_round
        case rel => exact ⟨2, by omega, rfl, by rw [HF.out]; exact val_u32 (jb_or1 a x ha hx)⟩
        case measure => simp [intOf]; omega
      · rw [h1]
        have HF := Lib.hid h2
        obtain ⟨x, ex⟩ : ∃ x, g.getD 2 0 = x := ⟨_, rfl⟩
        rw [ex] at hx hc HF
        clear ex h1 h2
        go_wp2
        go_round
        case rel => exact ⟨3, by omega, rfl, by rw [HF.out]; exact val_u32 (jb_or2 a b' x ha hb hx)⟩
        case measure => simp [intOf]; omega
    · have hd : decide ((k : Int) < (l : Int)) = false := by simp; omega
      rw [List.take_of_length_le (by rw [Hl.out]; omega)]
      go_wp2
      go_ret
      exact ⟨rfl, rfl⟩
end Go.Proofs.YthklgpflaghojaaGreatDoor

/-
  strings.IndexByte at the signs; a sign out of them; the contract of joinSigns.
-/
namespace Go.Proofs.YthklgpflaghojaaGreatDoor
open Go.RowKit

/-- The signs, as the program has them. -/
abbrev signsB : ByteArray := { data := #[65, 66, 67, 68, 69, 70, 71, 72, 73, 74, 75, 76, 77, 78, 79, 80, 81, 82, 83, 84, 85, 86, 87, 88, 89, 90, 97, 98, 99, 100, 101, 102, 103, 104, 105, 106, 107, 108, 109, 110, 111, 112, 113, 114, 115, 116, 117, 118, 119, 120, 121, 122, 48, 49, 50, 51, 52, 53, 54, 55, 56, 57, 45, 95] }

theorem index_signs : ∀ c, c < 256 → Lib.indexByte signsB.data.toList (((c : Nat) : Int).toNat.toUInt8) = if B64.val c < 64 then ((B64.val c : Nat) : Int) else -1 := by decide +kernel

set_option maxRecDepth 100000 in
set_option maxHeartbeats 400000 in
theorem liteIndex_any (s : ByteArray) (c : Int) (w : World) :
    Calls Tryz.prog 111 #[.string s, .int .u8 c] w fun e w' => e = .returned (.int .i64 (Lib.indexByte s.data.toList c.toNat.toUInt8)) ∧ w = w' := by
  go_enter Tryz.func111, Tryz.ntmps111
  go_wp2
  rw [run_callFunc_extern Tryz.func131 (by kernel_rfl) (by kernel_rfl) (by kernel_rfl) (e := Extern.BytealgIndexByte.indexByte) (by kernel_rfl), Lib.run_indexByteString]
  simp only [Result.andThen]
  rw [Oper.upon_value]
  go_wp2
  go_ret
  exact ⟨rfl, rfl⟩

set_option maxRecDepth 100000 in
set_option maxHeartbeats 400000 in
theorem index2_any (s : ByteArray) (c : Int) (w : World) :
    Calls Tryz.prog 93 #[.string s, .int .u8 c] w fun e w' => e = .returned (.int .i64 (Lib.indexByte s.data.toList c.toNat.toUInt8)) ∧ w = w' := by
  go_enter Tryz.func93, Tryz.ntmps93
  go_wp2_with (go_at_call 111; refine (liteIndex_any _ _ _).mono ?_; rintro e w' ⟨rfl, rfl⟩)
  go_ret
  exact ⟨rfl, rfl⟩

theorem index_yes (c : Nat) (hc : c < 256) (h : B64.val c < 64) (w : World) :
    Calls Tryz.prog 93 #[.string signsB, .int .u8 c] w fun e w' => e = .returned (.int .i64 (B64.val c : Nat)) ∧ w = w' :=
  (index2_any signsB c w).mono fun _ _ ⟨he, hw⟩ => ⟨by rw [he, index_signs c hc, if_pos h], hw⟩
theorem index_no (c : Nat) (hc : c < 256) (h : ¬ B64.val c < 64) (w : World) :
    Calls Tryz.prog 93 #[.string signsB, .int .u8 c] w fun e w' => e = .returned (.int .i64 (-1)) ∧ w = w' :=
  (index2_any signsB c w).mono fun _ _ ⟨he, hw⟩ => ⟨by rw [he, index_signs c hc, if_neg h], hw⟩

/-- The signs behind the first ones, as bits from the most significant one down. -/
def jTo (L : List Nat) (k : Nat) : Nat := B64.jsum (L.take k)
theorem jTo_next (L : List Nat) (k : Nat) (hk : k < L.length) (h4 : k < 4) : jTo L (k + 1) = jTo L k + B64.val (L.getD k 0) * 2 ^ (18 - 6 * k) := by
  unfold jTo B64.jsum
  have e : ∀ i, i ≠ k → (L.take (k + 1)).getD i 65 = (L.take k).getD i 65 := by
    intro i hi
    rw [List.getD_eq_getElem?_getD, List.getD_eq_getElem?_getD, List.getElem?_take, List.getElem?_take]
    by_cases h : i < k
    · rw [if_pos h, if_pos (by omega)]
    · rw [if_neg h, if_neg (by omega)]
  have e1 : (L.take (k + 1)).getD k 65 = L.getD k 0 := by
    rw [List.getD_eq_getElem?_getD, List.getD_eq_getElem?_getD, List.getElem?_take, if_pos (by omega), List.getElem?_eq_getElem hk]; rfl
  have e2 : (L.take k).getD k 65 = 65 := by
    rw [List.getD_eq_getElem?_getD, List.getElem?_take, if_neg (by omega)]; rfl
  obtain rfl | rfl | rfl | rfl : k = 0 ∨ k = 1 ∨ k = 2 ∨ k = 3 := by omega
  · rw [e1, e2, e 1 (by omega), e 2 (by omega), e 3 (by omega), B64.val65]; omega
  · rw [e1, e2, e 0 (by omega), e 2 (by omega), e 3 (by omega), B64.val65]; omega
  · rw [e1, e2, e 0 (by omega), e 1 (by omega), e 3 (by omega), B64.val65]; omega
  · rw [e1, e2, e 0 (by omega), e 1 (by omega), e 2 (by omega), B64.val65]; omega
theorem jTo_lt (L : List Nat) (k : Nat) (ok : ∀ j, j < k → B64.val (L.getD j 0) < 64) (hk : k ≤ L.length) (h4 : k ≤ 4) : ∃ m, jTo L k = 2 ^ (24 - 6 * k) * m ∧ m < 2 ^ (6 * k) := by
  induction k with
  | zero => exact ⟨0, by simp [jTo, B64.jsum, B64.val65], by decide⟩
  | succ k ih =>
    obtain ⟨m, h1, h2⟩ := ih (fun j hj => ok j (by omega)) (by omega) (by omega)
    have hv := ok k (by omega)
    refine ⟨64 * m + B64.val (L.getD k 0), ?_, ?_⟩
    · rw [jTo_next L k (by omega) (by omega), h1]
      obtain rfl | rfl | rfl | rfl : k = 0 ∨ k = 1 ∨ k = 2 ∨ k = 3 := by omega
      all_goals (simp only [Nat.reduceMul, Nat.reduceSub, Nat.reduceAdd, Nat.reducePow]; omega)
    · have : 2 ^ (6 * (k + 1)) = 2 ^ (6 * k) * 64 := by rw [Nat.mul_succ, Nat.pow_add]
      omega
/-- One sign more. -/
theorem jTo_or (L : List Nat) (k : Nat) (ok : ∀ j, j < k + 1 → B64.val (L.getD j 0) < 64) (hk : k < L.length) (h4 : k < 4) :
    bits .or .u32 ((jTo L k : Nat) : Int) (((B64.val (L.getD k 0) * 2 ^ (18 - 6 * k) : Nat)) : Int) = ((jTo L (k + 1) : Nat) : Int) := by
  obtain ⟨m, h1, h2⟩ := jTo_lt L k (fun j hj => ok j (by omega)) (by omega) (by omega)
  have hv := ok k (by omega)
  rw [jTo_next L k hk h4, h1]
  have hs : B64.val (L.getD k 0) * 2 ^ (18 - 6 * k) < 2 ^ (24 - 6 * k) := by
    have : 2 ^ (24 - 6 * k) = 64 * 2 ^ (18 - 6 * k) := by
      rw [show 24 - 6 * k = 6 + (18 - 6 * k) from by omega, Nat.pow_add]
    rw [this]
    exact Nat.mul_lt_mul_of_pos_right hv (Nat.two_pow_pos _)
  have hm : 2 ^ (24 - 6 * k) * m < 16777216 := by
    have : 2 ^ (24 - 6 * k) * 2 ^ (6 * k) = 16777216 := by rw [← Nat.pow_add, show 24 - 6 * k + 6 * k = 24 from by omega]
    rw [← this]
    exact Nat.mul_lt_mul_of_pos_left h2 (Nat.two_pow_pos _)
  have hle : (2 : Nat) ^ (24 - 6 * k) ≤ 2 ^ 24 := Nat.pow_le_pow_right (by decide) (by omega)
  rw [u32_or_nat _ _ (by omega) (by omega), or_add _ _ _ hs]
end Go.Proofs.YthklgpflaghojaaGreatDoor

/-
  The contract of joinSigns.
-/
namespace Go.Proofs.YthklgpflaghojaaGreatDoor
open Go.RowKit
theorem okS_iff (L : List Nat) : B64.okS L ↔ ∀ j, j < L.length → B64.val (L.getD j 0) < 64 := by
  constructor
  · intro h j hj
    rw [List.getD_eq_getElem?_getD, List.getElem?_eq_getElem hj]
    exact h _ (List.getElem_mem hj)
  · intro h x hx
    obtain ⟨j, hj, rfl⟩ := List.getElem_of_mem hx
    have := h j hj
    rwa [List.getD_eq_getElem?_getD, List.getElem?_eq_getElem hj] at this

theorem shl_small (v k : Nat) (hv : v < 64) (hk : k < 4) : ((v : Int) * 2 ^ (24 - 6 * (k + 1)) % 4294967296) = ((v * 2 ^ (18 - 6 * k) : Nat) : Int) := by
  obtain rfl | rfl | rfl | rfl : k = 0 ∨ k = 1 ∨ k = 2 ∨ k = 3 := by omega
  all_goals (simp only [Nat.reduceMul, Nat.reduceSub, Nat.reduceAdd, Nat.reducePow]; omega)
/-- What joinSigns answers. -/
def joined (L : List Nat) (v : Value) : Prop := (B64.okS L ∧ v = .tuple #[.int .u32 (B64.jsum L : Nat), .bool true]) ∨ (¬ B64.okS L ∧ v = .tuple #[.int .u32 0, .bool false])

set_option maxRecDepth 100000 in
set_option maxHeartbeats 1000000 in
theorem joinSigns_any (s : ByteArray) (h4 : s.size ≤ 4) (w : World) :
    Calls Tryz.prog 71 #[.string s] w fun e w' => (∃ v, e = .returned v ∧ joined (numsOf s) v) ∧ w = w' := by
  have Hlen := Lib.hid (numsOf_length s)
  go_enter Tryz.func71, Tryz.ntmps71
  go_wp2
  go_loop [4, 9] (fun v i => ∃ k : Nat, k ≤ s.size ∧ i = .int .i64 k ∧ v = .int .u32 (jTo (numsOf s) k : Nat) ∧ ∀ j, j < k → B64.val ((numsOf s).getD j 0) < 64) (fun _ i => s.size - (intOf i).toNat)
  case atStart => exact ⟨0, Nat.zero_le _, rfl, by unfold jTo; rw [List.take_zero]; rfl, fun j hj => by omega⟩
  case round =>
    obtain ⟨k, hk, rfl, rfl, hok⟩ := hrel
    have Hok := Lib.hid hok
    clear hok
    by_cases hlt : k < s.size
    · have hx : s[k].toNat < 256 := s[k].toNat_lt
      have HN := Lib.hid (nums_at s k hlt)
      by_cases hv : B64.val s[k].toNat < 64
      · have Hj : Hid (bits .or .u32 ((jTo (numsOf s) k : Nat) : Int) (((B64.val s[k].toNat * 2 ^ (18 - 6 * k) : Nat)) : Int) = ((jTo (numsOf s) (k + 1) : Nat) : Int)) := by
          have := jTo_or (numsOf s) k (fun j hj => by
            rcases Nat.lt_or_eq_of_le (Nat.le_of_lt_succ hj) with h | h
            · exact Hok.out j h
            · rw [h, HN.out]; exact hv) (by rw [Hlen.out]; exact hlt) (by omega)
          rw [HN.out] at this
          exact this
        obtain ⟨J, eJ⟩ : ∃ J, jTo (numsOf s) k = J := ⟨_, rfl⟩
        rw [eJ] at Hj ⊢
        clear eJ
        go_wp2_with (go_at_call 93; refine (index_yes _ hx hv _).mono ?_; rintro e w' ⟨rfl, rfl⟩)
        go_round
        case rel =>
          refine ⟨k + 1, by omega, by go_num, ?_, ?_⟩
          · rw [← Hj.out, shl_small _ k hv (by omega)]
          · intro j hj
            rcases Nat.lt_or_eq_of_le (Nat.le_of_lt_succ hj) with h | h
            · exact Hok.out j h
            · rw [h, HN.out]; exact hv
        case measure => simp [intOf]; omega
      · go_wp2_with (go_at_call 93; refine (index_no _ hx hv _).mono ?_; rintro e w' ⟨rfl, rfl⟩)
        go_ret2
        refine ⟨⟨_, rfl, .inr ⟨fun h => hv ?_, rfl⟩⟩, rfl⟩
        have := (okS_iff _).1 h k (by rw [Hlen.out]; exact hlt)
        rwa [HN.out] at this
    · have hd : decide ((k : Int) < (s.size : Int)) = false := by simp; omega
      have e : jTo (numsOf s) k = B64.jsum (numsOf s) := by unfold jTo; rw [List.take_of_length_le (by rw [Hlen.out]; omega)]
      rw [e]
      clear e
      go_wp2
      go_ret2
      exact ⟨⟨_, rfl, .inl ⟨(okS_iff _).2 fun j hj => Hok.out j (by rw [Hlen.out] at hj; omega), rfl⟩⟩, rfl⟩
end Go.Proofs.YthklgpflaghojaaGreatDoor

/-
  The contract of appendSigns, where there is room.
-/
namespace Go.Proofs.YthklgpflaghojaaGreatDoor
open Go.RowKit

section
variable {ops : Array Oper} {rest : List Oper} {o : Oper} {a : Act} {Q : Exit → Act → World → Prop} {w : World}
end

theorem signs_get : ∀ n, n < 64 → (signsB.data.toList[n]?).map (fun u : UInt8 => u.toNat) = some (B64.sign n) := by decide +kernel
theorem splice_set (C T : List Nat) (n x : Nat) (h : n + T.length < C.length) : (splice C n T).set (n + T.length) x = splice C n (T ++ [x]) := by
  unfold splice
  have h1 : (C.take n).length = n := by rw [List.length_take]; omega
  rw [List.set_append_right _ _ (by omega), h1, List.set_append_right _ _ (by omega), show n + T.length - n - T.length = 0 from by omega, List.append_assoc]
  have e : C.drop (n + T.length) = C[n + T.length] :: C.drop (n + T.length + 1) := List.drop_eq_getElem_cons h
  rw [e, List.set_cons_zero]
  simp [Nat.add_assoc]
theorem splice_length (C T : List Nat) (n : Nat) (h : n + T.length ≤ C.length) : (splice C n T).length = C.length := by
  unfold splice
  rw [List.length_append, List.length_append, List.length_take, List.length_drop]; omega

end Go.Proofs.YthklgpflaghojaaGreatDoor

/-
  The contract of base.Encode.
-/
namespace Go.Proofs.YthklgpflaghojaaGreatDoor
open Go.RowKit

/-- Where a slice begins that is cut at n. -/
def cutAt (A : Option Addr) (c n : Nat) : Option Addr := if c = n then A else A.map (·.add n)
theorem ArgIs.cut {w : World} {A : Option Addr} {c : Nat} {q : List Nat} (h : ArgIs w A c q) (n : Nat) (hn : n ≤ q.length) : ArgIs w (cutAt A c n) (c - n) (q.drop n) := by
  refine ⟨by rw [List.length_drop]; have := h.1; omega, by have := h.2.1; omega, fun x hx => h.2.2.1 x (List.mem_of_mem_drop hx), fun hp => ?_⟩
  rw [List.length_drop] at hp
  obtain ⟨b, off, rfl, hb, hby⟩ := h.2.2.2 (by omega)
  have hne : c ≠ n := by have := h.1; omega
  refine ⟨b, off + n, ?_, hb, hby.cut n⟩
  simp only [cutAt, if_neg hne, Option.map_some, Addr.add_lit]
theorem ArgIs.head {w : World} {A : Option Addr} {c : Nat} {q : List Nat} (h : ArgIs w A c q) (n : Nat) (hn : n ≤ q.length) : ArgIs w A n (q.take n) :=
  ⟨by rw [List.length_take]; omega, by have := h.1; have := h.2.1; omega, fun x hx => h.2.2.1 x (List.mem_of_mem_take hx), fun hp => by
    rw [List.length_take] at hp
    obtain ⟨b, off, rfl, hb, hby⟩ := h.2.2.2 (by omega)
    exact ⟨b, off, rfl, hb, hby.take n⟩⟩

section
variable {ops : Array Oper} {rest : List Oper} {o : Oper} {a : Act} {Q : Exit → Act → World → Prop} {w : World}
set_option maxRecDepth 100000 in
theorem slice_from_at (hgd : o.guard = none) (x y : Operand) (ho : o.op = .slice 27 x (some y) none none) (A : Option Addr) (l c n : Nat) (hx : a.eval x = .slice A l c) (hy : a.eval y = .int .i64 n) (hn : n ≤ l)
    (h : wpList Tryz.prog ops Q rest (a.put o.dst (.slice (cutAt A c n) (l - n) (c - n))) w) : wpList Tryz.prog ops Q (o :: rest) a w := by
  refine wpList_plain hgd fun K hK => ?_
  have hr := run_slice_l (P := Tryz.prog) w 27 A l c Tryz.underlying27 .i64 n (by omega) (by omega)
  have hz := Tryz.sizeOf5
  have he : Tryz.prog.elem 27 = 5 := by kernel_rfl
  rw [he] at hr
  simp only [hz, Result.andThen, sliced, Int.toNat_natCast, Nat.mul_one] at hr
  unfold Oper.wp
  rw [execOp, ho]
  simp [hx, hy, run_sliceAt_slice (P := Tryz.prog) w 27 _ _ _ _ Tryz.underlying27, hr, Result.andThen]
  exact hK _ _ h
theorem min_at (hgd : o.guard = none) (m : Nat) (x : Operand) (ho : o.op = .call { callee := .builtin .min, args := #[.const (.int .i64 (m : Int)), x], argTypes := #[3, 3] }) (l : Nat) (hx : a.eval x = .int .i64 l)
    (h : wpList Tryz.prog ops Q rest (a.put o.dst (.int .i64 (min m l : Nat))) w) : wpList Tryz.prog ops Q (o :: rest) a w := by
  refine wpList_plain hgd fun K hK => ?_
  have hr := run_min_int2 (P := Tryz.prog) w #[3, 3] o.type .i64 .i64 m l
  have hc : a.eval (.const (.int .i64 (m : Int))) = .int .i64 m := rfl
  have e : (if (l : Int) < (m : Int) then (l : Int) else (m : Int)) = ((min m l : Nat) : Int) := by split <;> omega
  rw [e] at hr
  unfold Oper.wp
  simp [execOp, ho, resolve, invoke, builtin, hc, hx, hr, Result.andThen]
  exact hK _ _ h
end

theorem rep_cut (T X : List Nat) (cap : Nat) : splice (T ++ List.replicate (cap - T.length) 0) T.length X = (T ++ X) ++ List.replicate (cap - (T ++ X).length) 0 := by
  unfold splice
  rw [List.take_left, List.drop_length_add_append, List.drop_replicate, List.append_assoc, List.length_append, Nat.sub_sub]

end Go.Proofs.YthklgpflaghojaaGreatDoor

/-
  The contract of base.fill.
-/
namespace Go.Proofs.YthklgpflaghojaaGreatDoor
open Go.RowKit

theorem fl_take (n W k : Nat) (hk : k < n) : (B64.fl n W).take (k + 1) = (B64.fl n W).take k ++ [W / 2 ^ (16 - 8 * k) % 256] := by
  have hl : k < (B64.fl n W).length := by rw [B64.fl_length]; exact hk
  rw [List.take_succ_eq_append_getElem hl]
  congr 2
  simp [B64.fl]
theorem byte_small (W k : Nat) (hk : k < 3) : ((W : Int) / 2 ^ (24 - 8 * (k + 1))) % 256 = ((W / 2 ^ (16 - 8 * k) % 256 : Nat) : Int) := by
  obtain rfl | rfl | rfl : k = 0 ∨ k = 1 ∨ k = 2 := by omega
  all_goals (simp only [Nat.reduceMul, Nat.reduceSub, Nat.reduceAdd, Nat.reducePow]; omega)
theorem splice_lt {C T : List Nat} {n : Nat} (hC : ∀ x ∈ C, x < 256) (hT : ∀ x ∈ T, x < 256) : ∀ x ∈ splice C n T, x < 256 := by
  intro x hx
  unfold splice at hx
  rw [List.mem_append, List.mem_append] at hx
  rcases hx with hx | hx | hx
  · exact hC x (List.mem_of_mem_take hx)
  · exact hT x hx
  · exact hC x (List.mem_of_mem_drop hx)
theorem splice_mid (C T : List Nat) (n : Nat) (h : n ≤ C.length) : ((splice C n T).drop n).take T.length = T := by
  unfold splice
  have h1 : (C.take n).length = n := by rw [List.length_take]; omega
  conv => lhs; rw [← h1]
  simp

set_option maxHeartbeats 1000000 in
set_option maxRecDepth 100000 in
theorem fill_any (C : List Nat) (B off n W : Nat) (w : World) (hL : Lies w B 5 (u8s C)) (hC : ∀ x ∈ C, x < 256) (hn : n ≤ 3) (hoff : off + n ≤ C.length) :
    Calls Tryz.prog 72 #[.slice (some ⟨B, off, none⟩) n n, .int .u32 W] w fun e w' => e = .returned (.bool (decide (B64.jb (B64.fl n W) = W))) ∧ Lies w' B 5 (u8s (splice C off (B64.fl n W))) ∧ w.grownBy w' (some B) := by
  have HC := Lib.hid hC
  have Hoff := Lib.hid hoff
  clear hC hoff
  go_enter Tryz.func72, Tryz.ntmps72
  go_wp2
  go_loopw [8] (fun i wr => ∃ k : Nat, k ≤ n ∧ i = .int .i64 k ∧ Lies wr B 5 (u8s (splice C off ((B64.fl n W).take k))) ∧ w.grownBy wr (some B)) (fun i _ => n - (intOf i).toNat)
  case atStart => exact ⟨0, Nat.zero_le _, rfl, by simpa [splice] using hL, World.grownBy.refl w _⟩
  case round =>
    obtain ⟨k, hk, rfl, hL1, hgr⟩ := hrel
    by_cases hlt : k < n
    · have HT := Lib.hid (fl_take n W k hlt)
      have HB := Lib.hid (byte_small W k (by omega))
      have hlen : ((B64.fl n W).take k).length = k := by rw [List.length_take, B64.fl_length]; omega
      have hsl := splice_length C ((B64.fl n W).take k) off (by have := Hoff.out; omega)
      have hc : (wr.cell? ⟨B, off + k, none⟩).isSome = true := by
        rw [hL1.cell, List.getElem?_eq_getElem (by rw [u8s_length, hsl]; have := Hoff.out; omega)]; rfl
      obtain ⟨v0, hc0⟩ := Option.isSome_iff_exists.1 hc
      have hf : wr.frozen? ⟨B, off + k, none⟩ = false := hL1.free _
      have hput := hL1.put (off + k) (.int .u8 ((W / 2 ^ (16 - 8 * k) % 256 : Nat) : Int))
      have hset := splice_set C ((B64.fl n W).take k) off (W / 2 ^ (16 - 8 * k) % 256) (by rw [hlen]; have := Hoff.out; omega)
      rw [hlen, ← HT.out] at hset
      rw [u8s_set, hset] at hput
      clear hlen hsl hc hset
      go_wp2
      go_roundw
      case rel =>
        refine ⟨k + 1, by omega, by go_num, ?_, ?_⟩
        · rw [HB.out]; exact hput
        · exact ⟨hgr.os, hgr.tape, hgr.output, by simpa using hgr.size, fun j hj hne => (Below.heap_setCell _ _ _ j (fun e => hne (by rw [e]))).trans (hgr.block j hj hne)⟩
      case measure => simp [intOf]; omega
    · obtain rfl : k = n := by omega
      have hd : decide ((k : Int) < (k : Int)) = false := by simp
      have hfl := B64.fl_length k W
      rw [List.take_of_length_le (by rw [hfl]; exact Nat.le_refl _)] at hL1
      have hlt := B64.fl_lt k W
      have harg : ArgIs wr (some ⟨B, off, none⟩) k (B64.fl k W) := by
        refine ⟨by rw [hfl]; exact Nat.le_refl _, by omega, hlt, fun _ => ⟨B, off, rfl, hL1.lt, ?_⟩⟩
        have := hL1.bytes (splice_lt HC.out hlt) off (B64.fl k W).length
        rwa [splice_mid C (B64.fl k W) off (by have := Hoff.out; omega)] at this
      have hJ := joinBytes_any (B64.fl k W) _ k wr harg (by rw [hfl]; exact hn)
      rw [hfl] at hJ
      have heq : (((B64.jb (B64.fl k W) : Nat) : Int) == ((W : Nat) : Int)) = decide (B64.jb (B64.fl k W) = W) := by
        rw [Bool.eq_iff_iff, beq_iff_eq, decide_eq_true_iff]; omega
      have Heq := Lib.hid heq
      clear heq hfl hlt harg
      go_wp2_with fail
      refine hJ.mono ?_
      rintro e w' ⟨rfl, rfl⟩
      clear hJ
      go_wp2
      go_ret
      exact ⟨ret_bool Heq.out, hL1, hgr⟩
end Go.Proofs.YthklgpflaghojaaGreatDoor

/-
  The contract of base.Decode.
-/
namespace Go.Proofs.YthklgpflaghojaaGreatDoor
open Go.RowKit
/-- What Decode answers. -/
def DecEnd (S : List Nat) (w : World) (e : Ending) (w' : World) : Prop :=
  (∃ (q : List Nat) (A : Option Addr) (c : Nat), B64.IsDec S (some q) ∧ e = .returned (.tuple #[.slice A q.length c, .bool true]) ∧ ArgIs w' A c q ∧ Below w.heap.size w w') ∨
  (B64.IsDec S none ∧ e = .returned (.tuple #[.slice none 0 0, .bool false]) ∧ Below w.heap.size w w')

/-- What holds at each round of Decode's loop. -/
def DecRel (S : List Nat) (w : World) (L : Nat) (s r : Value) (wr : World) : Prop :=
  ∃ (s' : ByteArray) (D : List Nat) (A : Option Addr) (R : Nat), s = .string s' ∧ r = .slice A R R ∧ D.length + R = L ∧ (0 < R → A = some ⟨w.heap.size, D.length, none⟩) ∧ B64.enc D ++ numsOf s' = S ∧ (∀ x ∈ D, x < 256) ∧
    (0 < s'.size → D.length % 3 = 0) ∧ s'.size % 4 ≠ 1 ∧ s'.size ≤ 281474976710656 ∧ R = B64.bi s'.size ∧ Lies wr w.heap.size 5 (u8s (D ++ List.replicate R 0)) ∧ Below w.heap.size w wr
def sizeV : Value → Nat
  | .string s => s.size
  | _ => 0

theorem rep_cut' (T X : List Nat) (R : Nat) : splice (T ++ List.replicate R 0) T.length X = (T ++ X) ++ List.replicate (R - X.length) 0 := by
  unfold splice
  rw [List.take_left, List.drop_length_add_append, List.drop_replicate, List.append_assoc]

set_option maxHeartbeats 1000000 in
set_option maxRecDepth 100000 in
theorem decode_any (s : ByteArray) (w : World) (hs : s.size ≤ 281474976710656) :
    Calls Tryz.prog 53 #[.string s] w fun e w' => DecEnd (numsOf s) w e w' := by
  have Hlen := Lib.hid (numsOf_length s)
  by_cases h1 : s.size % 4 = 1
  · have hd : (((s.size : Int) % 4) == 1) = true := by rw [beq_iff_eq]; omega
    clear h1
    go_enter Tryz.func53, Tryz.ntmps53
    go_wp2
    go_ret2
    refine .inr ⟨B64.not_of_length ?_, rfl, Below.refl _ _⟩
    rw [Hlen.out]
    rw [beq_iff_eq] at hd
    omega
  · have hd : (((s.size : Int) % 4) == 1) = false := by rw [beq_eq_false_iff_ne]; omega
    go_enter Tryz.func53, Tryz.ntmps53
    go_wp2_with fail
    refine (bytesIn_any s.size hs w).mono ?_
    rintro e w' ⟨rfl, rfl⟩
    have hLm : B64.bi s.size ≤ 281474976710656 := by unfold B64.bi; omega
    obtain ⟨L, eL⟩ : ∃ L, B64.bi s.size = L := ⟨_, rfl⟩
    rw [eL] at hLm ⊢
    have HL := Lib.hid eL
    clear eL hd
    repeat ((fail_if_success (with_reducible show wpList _ _ _ (⟨some 17, _, _, _, _, _⟩ :: _) _ _)); first | go_values | go_skip | go_guarded | go_step | go_upon | go_back | go_simp)
    with_reducible refine make_at rfl (.tmp 16) (.tmp 16) rfl L L ?s1 ?s2 (Nat.le_refl _) hLm ?_
    case s1 => rfl
    case s2 => rfl
    intro w1 hL1 hb1
    go_frame
    go_wp2_with fail
    go_loopw [0, 5] (fun v r wr => DecRel (numsOf s) w L v r wr) (fun v _ _ => sizeV v)
    case atStart => exact ⟨s, [], some ⟨w.heap.size, 0, none⟩, L, rfl, rfl, Nat.zero_add _, (fun _ => rfl), rfl, (fun x hx => by cases hx), (fun _ => rfl), h1, hs, HL.out.symm, hL1, hb1⟩
    case round =>
      obtain ⟨s', D, A, R, rfl, rfl, hDR, hA, he, hD, h3, h1', hs', hR, hL, hb⟩ := hrel
      clear hL1 hb1 h1
      by_cases h0 : 0 < s'.size
      · have hx4 : (s'.extract 0 (min 4 s'.size)).size ≤ 4 := by rw [ByteArray.size_extract]; omega
        have hJ := joinSigns_any (s'.extract 0 (min 4 s'.size)) hx4 wr
        have hex : numsOf (s'.extract 0 (min 4 s'.size)) = (numsOf s').take (min 4 s'.size) := by rw [nums_extract, List.drop_zero]
        rw [hex] at hJ
        have hBI := fun w => bytesIn_any (min 4 s'.size) (by omega) w
        have hm1 : 1 ≤ min 4 s'.size := by omega
        have hms : min 4 s'.size ≤ s'.size := Nat.min_le_right _ _
        have hbi1 : 1 ≤ B64.bi (min 4 s'.size) := by unfold B64.bi; omega
        have hbi3 : B64.bi (min 4 s'.size) ≤ 3 := by unfold B64.bi; omega
        have hbiR : B64.bi (min 4 s'.size) ≤ R := by rw [hR]; unfold B64.bi; omega
        obtain ⟨n, en⟩ : ∃ n, min 4 s'.size = n := ⟨_, rfl⟩
        rw [en] at hJ hBI hm1 hms hbi1 hbi3 hbiR
        have Hn := Lib.hid en
        have HR := Lib.hid hR
        have He := Lib.hid he
        have HDR := Lib.hid hDR
        clear en hex hx4 hR he hDR
        repeat ((fail_if_success (with_reducible show wpList _ _ _ (⟨some 24, _, _, _, _, _⟩ :: _) _ _)); first | go_values | go_skip | go_guarded | go_step | go_upon | go_back | go_simp)
        with_reducible refine min_at rfl 4 (.tmp 23) rfl s'.size ?s1 ?_
        case s1 => rfl
        rw [Hn.out]
        go_frame
        go_wp2_with fail
        refine hJ.mono ?_
        rintro e w' ⟨⟨v, rfl, hj⟩, rfl⟩
        rcases hj with ⟨hok, rfl⟩ | ⟨hok, rfl⟩
        · obtain rfl : A = some ⟨w.heap.size, D.length, none⟩ := hA (by omega)
          have hF := fun w' (h : Lies w' w.heap.size 5 (u8s (D ++ List.replicate R 0))) => fill_any (D ++ List.replicate R 0) w.heap.size D.length (B64.bi n) (B64.jsum ((numsOf s').take n)) w' h (fun x hx => by
            rcases List.mem_append.1 hx with hx | hx
            · exact hD x hx
            · rw [List.mem_replicate] at hx; omega) hbi3 (by rw [List.length_append, List.length_replicate]; omega)
          have hF := hF wr hL
          have hne : B64.bi n ≠ 0 := by omega
          go_wp2_with fail
          refine (hBI _).mono ?_
          rintro e w' ⟨rfl, rfl⟩
          obtain ⟨z, ez⟩ : ∃ z, B64.bi n = z := ⟨_, rfl⟩
          rw [ez] at hF hne hbi1 hbi3 hbiR ⊢
          have Hz := Lib.hid ez
          clear ez hBI hJ
          go_wp2_with fail
          refine hF.mono ?_
          rintro e w2 ⟨rfl, hL2, hgr2⟩
          have hb2 : Below w.heap.size w w2 := hb.grown hgr2 hb.size (fun k hk => by injection hk with hk; omega)
          clear hF hgr2 hb hL
          by_cases hβ : B64.jb (B64.fl z (B64.jsum ((numsOf s').take n))) = B64.jsum ((numsOf s').take n)
          · rw [decide_eq_true hβ]
            have HB := Lib.hid hβ
            have HF := Lib.hid (B64.fl_length z (B64.jsum ((numsOf s').take n)))
            rw [rep_cut' D _ R, HF.out] at hL2
            clear hβ
            repeat ((fail_if_success (with_reducible show wpList _ _ _ (⟨some 47, _, _, _, _, _⟩ :: _) _ _)); first | go_values | go_skip | go_guarded | go_step | go_upon | go_back | go_simp)
            with_reducible refine slice_from_at rfl (.tmp 45) (.tmp 46) rfl (some ⟨w.heap.size, D.length, none⟩) R R z ?s5 ?s6 hbiR ?_
            case s5 => rfl
            case s6 => rfl
            go_frame
            go_wp2
            go_roundw
            case rel =>
              have hsz : (s'.extract n s'.size).size = s'.size - n := by rw [ByteArray.size_extract]; omega
              have hDl : (D ++ B64.fl z (B64.jsum ((numsOf s').take n))).length = D.length + z := by rw [List.length_append, HF.out]
              have h3' := h3 h0
              have hmn := Hn.out
              have hzn := Hz.out
              refine ⟨s'.extract n s'.size, D ++ B64.fl z (B64.jsum ((numsOf s').take n)), cutAt (some ⟨w.heap.size, D.length, none⟩) R z, R - z, rfl, rfl, ?_, ?_, ?_, ?_, ?_, ?_, ?_, ?_, hL2, hb2⟩
              · rw [hDl]; have := HDR.out; omega
              · intro hp
                rw [hDl]
                simp only [cutAt, if_neg (show R ≠ z by omega), Option.map_some, Addr.add_lit]
              · rw [nums_extract, show (numsOf s').take s'.size = numsOf s' from List.take_of_length_le (by rw [numsOf_length]; exact Nat.le_refl _), ← Hz.out]
                rw [B64.dec_next h3' (by rw [numsOf_length]; exact h0) (by rw [numsOf_length]; exact h1') (by rw [numsOf_length]; exact hmn.symm) hok (by rw [Hz.out]; exact HB.out), He.out]
              · intro x hx
                rcases List.mem_append.1 hx with hx | hx
                · exact hD x hx
                · exact B64.fl_lt _ _ x hx
              · rw [hsz, hDl]
                intro hp
                unfold B64.bi at hzn
                omega
              · rw [hsz]; omega
              · rw [hsz]; omega
              · rw [hsz, HR.out]
                unfold B64.bi at hzn ⊢
                omega
            case measure => simp [sizeV, ByteArray.size_extract]; omega
          · rw [decide_eq_false hβ]
            go_wp2
            go_ret2
            refine .inr ⟨B64.dec_fails (n := n) (h3 h0) hD He.out (by rw [numsOf_length]; exact h0) (by rw [numsOf_length]; exact Hn.out.symm) (fun h => hβ (by rw [← Hz.out]; exact h.2)), rfl, hb2⟩
        · go_wp2_with fail
          refine (hBI _).mono ?_
          rintro e w' ⟨rfl, rfl⟩
          go_wp2
          go_ret2
          refine .inr ⟨B64.dec_fails (h3 h0) hD He.out (by rw [numsOf_length]; exact h0) (by rw [numsOf_length]; exact Hn.out.symm) (fun h => hok h.1), rfl, hb⟩
      · have hz0 : s'.size = 0 := by omega
        have hR0 : R = 0 := by rw [hR, hz0]; rfl
        subst hR0
        have hs0 : numsOf s' = [] := List.eq_nil_of_length_eq_zero (by rw [numsOf_length]; exact hz0)
        rw [hs0, List.append_nil] at he
        rw [List.replicate_zero, List.append_nil] at hL
        have He := Lib.hid he
        have HDR := Lib.hid hDR
        have HR := Lib.hid hR
        have hd : decide ((0 : Int) < (s'.size : Int)) = false := decide_eq_false (by omega)
        clear he hDR hR hs0
        go_wp2
        go_ret2
        have hDL : D.length = L := HDR.out
        refine .inl ⟨D, some ⟨w.heap.size, 0, none⟩, L, ⟨hD, He.out⟩, ?_, arg_lies (c := L) hL hD (Nat.le_of_eq hDL) (by omega), hb⟩
        rw [hDL]
        rfl
end Go.Proofs.YthklgpflaghojaaGreatDoor
