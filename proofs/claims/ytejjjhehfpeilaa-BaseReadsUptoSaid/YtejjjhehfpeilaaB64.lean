/-
  Bytes as letters: plain lists of numbers, no program.
-/
namespace Go.Proofs.Ytejjjhehfpeilaa.B64

/-- The 64 signs. -/
def SL : List Nat := [65, 66, 67, 68, 69, 70, 71, 72, 73, 74, 75, 76, 77, 78, 79, 80, 81, 82, 83, 84, 85, 86, 87, 88, 89, 90, 97, 98, 99, 100, 101, 102, 103, 104, 105, 106, 107, 108, 109, 110, 111, 112, 113, 114, 115, 116, 117, 118, 119, 120, 121, 122, 48, 49, 50, 51, 52, 53, 54, 55, 56, 57, 45, 95]
def sign (n : Nat) : Nat := SL.getD n 0
/-- A sign's value; 64: it is none. -/
def val (c : Nat) : Nat := SL.idxOf c
theorem SL_length : SL.length = 64 := rfl
theorem val_sign : ∀ n, n < 64 → val (sign n) = n := by decide +kernel
theorem sign_lt64 : ∀ n, n < 64 → sign n < 256 := by decide +kernel
theorem sign_lt (n : Nat) : sign n < 256 := by
  by_cases h : n < 64
  · exact sign_lt64 n h
  · unfold sign; rw [List.getD_eq_getElem?_getD, List.getElem?_eq_none (by rw [SL_length]; omega)]; decide
theorem val_le (c : Nat) : val c ≤ 64 := List.idxOf_le_length
theorem sign_val (c : Nat) (h : val c < 64) : sign (val c) = c := by
  have h' : SL.idxOf c < SL.length := h
  unfold sign val
  rw [List.getD_eq_getElem?_getD, List.getElem?_eq_getElem h']
  exact List.getElem_idxOf h'

/-- The bits of at most three bytes, of at most four signs. -/
def jb (g : List Nat) : Nat := g.getD 0 0 * 65536 + g.getD 1 0 * 256 + g.getD 2 0
def jsum (L : List Nat) : Nat := val (L.getD 0 65) * 262144 + val (L.getD 1 65) * 4096 + val (L.getD 2 65) * 64 + val (L.getD 3 65)
def okS (L : List Nat) : Prop := ∀ x ∈ L, val x < 64
def sf (n : Nat) : Nat := n + n / 3 + min 1 (n % 3)
def bi (n : Nat) : Nat := n - n / 4 - min 1 (n % 4)
def sg (g : List Nat) : List Nat := (List.range (sf g.length)).map fun i => sign (jb g / 2 ^ (18 - 6 * i) % 64)
def fl (n word : Nat) : List Nat := (List.range n).map fun i => word / 2 ^ (16 - 8 * i) % 256
theorem val65 : val 65 = 0 := rfl

theorem sg_nil : sg [] = [] := rfl
theorem sg1 (a : Nat) : sg [a] = [sign (a * 65536 / 262144 % 64), sign (a * 65536 / 4096 % 64)] := by
  simp [sg, sf, jb, List.range_succ]
theorem sg2 (a b : Nat) : sg [a, b] = [sign ((a * 65536 + b * 256) / 262144 % 64), sign ((a * 65536 + b * 256) / 4096 % 64), sign ((a * 65536 + b * 256) / 64 % 64)] := by
  simp [sg, sf, jb, List.range_succ]
theorem sg3 (a b c : Nat) : sg [a, b, c] = [sign ((a * 65536 + b * 256 + c) / 262144 % 64), sign ((a * 65536 + b * 256 + c) / 4096 % 64), sign ((a * 65536 + b * 256 + c) / 64 % 64), sign ((a * 65536 + b * 256 + c) % 64)] := by
  simp [sg, sf, jb, List.range_succ]
theorem sg_length (g : List Nat) : (sg g).length = sf g.length := by simp [sg]
theorem fl_length (n word : Nat) : (fl n word).length = n := by simp [fl]
theorem fl_lt (n word : Nat) : ∀ x ∈ fl n word, x < 256 := by
  intro x hx
  simp only [fl, List.mem_map] at hx
  obtain ⟨i, _, rfl⟩ := hx
  exact Nat.mod_lt _ (by decide)
theorem sg_lt (g : List Nat) : ∀ x ∈ sg g, x < 256 := by
  intro x hx
  simp only [sg, List.mem_map] at hx
  obtain ⟨i, _, rfl⟩ := hx
  exact sign_lt _
theorem fl1 (w : Nat) : fl 1 w = [w / 65536 % 256] := by simp [fl, List.range_succ]
theorem fl2 (w : Nat) : fl 2 w = [w / 65536 % 256, w / 256 % 256] := by simp [fl, List.range_succ]
theorem fl3 (w : Nat) : fl 3 w = [w / 65536 % 256, w / 256 % 256, w % 256] := by simp [fl, List.range_succ]
theorem jb1 (a : Nat) : jb [a] = a * 65536 := by simp [jb]
theorem jb2 (a b : Nat) : jb [a, b] = a * 65536 + b * 256 := by simp [jb]
theorem jb3 (a b c : Nat) : jb [a, b, c] = a * 65536 + b * 256 + c := by simp [jb]
theorem getD_lt {g : List Nat} (h : ∀ x ∈ g, x < 256) (i : Nat) : g.getD i 0 < 256 := by
  rw [List.getD_eq_getElem?_getD]
  cases e : g[i]? with
  | none => simp
  | some x => exact h x (List.mem_of_getElem? e)
theorem jb_lt (g : List Nat) (h : ∀ x ∈ g, x < 256) : jb g < 16777216 := by
  have h0 := getD_lt h 0
  have h1 := getD_lt h 1
  have h2 := getD_lt h 2
  unfold jb; omega

theorem vs (n : Nat) : val (sign (n % 64)) = n % 64 := val_sign _ (Nat.mod_lt _ (by decide))

/-- What at most three bytes are written as says them. -/
theorem js_sg (g : List Nat) (hb : ∀ x ∈ g, x < 256) (hn : g.length ≤ 3) : okS (sg g) ∧ jsum (sg g) = jb g := by
  refine ⟨?_, ?_⟩
  · intro x hx
    simp only [sg, List.mem_map] at hx
    obtain ⟨i, _, rfl⟩ := hx
    rw [vs]; exact Nat.mod_lt _ (by decide)
  · match g, hn with
    | [], _ => rfl
    | [a], _ =>
      have ha := hb a (by simp)
      rw [sg1, jb1]; simp only [jsum, List.getD_cons_zero, List.getD_cons_succ, List.getD_nil, vs, val65]; omega
    | [a, b], _ =>
      have ha := hb a (by simp)
      have hb' := hb b (by simp)
      rw [sg2, jb2]; simp only [jsum, List.getD_cons_zero, List.getD_cons_succ, List.getD_nil, vs, val65]; omega
    | [a, b, c], _ =>
      have ha := hb a (by simp)
      have hb' := hb b (by simp)
      have hc := hb c (by simp)
      rw [sg3, jb3]; simp only [jsum, List.getD_cons_zero, List.getD_cons_succ, vs]; omega
theorem fl_jb (g : List Nat) (hb : ∀ x ∈ g, x < 256) (hn : g.length ≤ 3) : fl g.length (jb g) = g := by
  match g, hn with
  | [], _ => rfl
  | [a], _ =>
    have ha := hb a (by simp)
    rw [jb1, List.length_singleton, fl1, show a * 65536 / 65536 % 256 = a from by omega]
  | [a, b], _ =>
    have ha := hb a (by simp)
    have hb' := hb b (by simp)
    rw [jb2, show [a, b].length = 2 from rfl, fl2, show (a * 65536 + b * 256) / 65536 % 256 = a from by omega, show (a * 65536 + b * 256) / 256 % 256 = b from by omega]
  | [a, b, c], _ =>
    have ha := hb a (by simp)
    have hb' := hb b (by simp)
    have hc := hb c (by simp)
    rw [jb3, show [a, b, c].length = 3 from rfl, fl3, show (a * 65536 + b * 256 + c) / 65536 % 256 = a from by omega, show (a * 65536 + b * 256 + c) / 256 % 256 = b from by omega, show (a * 65536 + b * 256 + c) % 256 = c from by omega]
theorem sg_inj {g g' : List Nat} (hb : ∀ x ∈ g, x < 256) (hb' : ∀ x ∈ g', x < 256) (hn : g.length ≤ 3) (hl : g.length = g'.length) (h : sg g = sg g') : g = g' := by
  have e : jb g = jb g' := by rw [← (js_sg g hb hn).2, ← (js_sg g' hb' (by omega)).2, h]
  rw [← fl_jb g hb hn, ← fl_jb g' hb' (by omega), e, hl]
theorem list234 (L : List Nat) (h1 : 2 ≤ L.length) (h2 : L.length ≤ 4) : (∃ a b, L = [a, b]) ∨ (∃ a b c, L = [a, b, c]) ∨ ∃ a b c d, L = [a, b, c, d] := by
  rcases L with _ | ⟨a, _ | ⟨b, _ | ⟨c, _ | ⟨d, _ | ⟨e, r⟩⟩⟩⟩⟩
  · simp at h1
  · simp at h1
  · exact .inl ⟨a, b, rfl⟩
  · exact .inr (.inl ⟨a, b, c, rfl⟩)
  · exact .inr (.inr ⟨a, b, c, d, rfl⟩)
  · simp at h2
/-- Two, three or four signs whose bits fit in bytes are those bytes' own. -/
theorem sg_fl (L : List Nat) (h1 : 2 ≤ L.length) (h2 : L.length ≤ 4) (ok : okS L) (h : jb (fl (bi L.length) (jsum L)) = jsum L) : sg (fl (bi L.length) (jsum L)) = L := by
  rcases list234 L h1 h2 with ⟨a, b, rfl⟩ | ⟨a, b, c, rfl⟩ | ⟨a, b, c, d, rfl⟩
  · have ha := ok a (by simp)
    have hb := ok b (by simp)
    have e : jsum [a, b] = val a * 262144 + val b * 4096 := by simp [jsum, val65]
    rw [show [a, b].length = 2 from rfl, show bi 2 = 1 from by decide, fl1, jb1] at h
    rw [show [a, b].length = 2 from rfl, show bi 2 = 1 from by decide, fl1, sg1, h, e, show (val a * 262144 + val b * 4096) / 262144 % 64 = val a from by omega, show (val a * 262144 + val b * 4096) / 4096 % 64 = val b from by omega, sign_val a ha, sign_val b hb]
  · have ha := ok a (by simp)
    have hb := ok b (by simp)
    have hc := ok c (by simp)
    have e : jsum [a, b, c] = val a * 262144 + val b * 4096 + val c * 64 := by simp [jsum, val65]
    rw [show [a, b, c].length = 3 from rfl, show bi 3 = 2 from by decide, fl2, jb2] at h
    rw [show [a, b, c].length = 3 from rfl, show bi 3 = 2 from by decide, fl2, sg2, h, e, show (val a * 262144 + val b * 4096 + val c * 64) / 262144 % 64 = val a from by omega, show (val a * 262144 + val b * 4096 + val c * 64) / 4096 % 64 = val b from by omega,
      show (val a * 262144 + val b * 4096 + val c * 64) / 64 % 64 = val c from by omega, sign_val a ha, sign_val b hb, sign_val c hc]
  · have ha := ok a (by simp)
    have hb := ok b (by simp)
    have hc := ok c (by simp)
    have hd := ok d (by simp)
    have e : jsum [a, b, c, d] = val a * 262144 + val b * 4096 + val c * 64 + val d := by simp [jsum]
    rw [show [a, b, c, d].length = 4 from rfl, show bi 4 = 3 from by decide, fl3, jb3] at h
    rw [show [a, b, c, d].length = 4 from rfl, show bi 4 = 3 from by decide, fl3, sg3, h, e, show (val a * 262144 + val b * 4096 + val c * 64 + val d) / 262144 % 64 = val a from by omega, show (val a * 262144 + val b * 4096 + val c * 64 + val d) / 4096 % 64 = val b from by omega,
      show (val a * 262144 + val b * 4096 + val c * 64 + val d) / 64 % 64 = val c from by omega, show (val a * 262144 + val b * 4096 + val c * 64 + val d) % 64 = val d from by omega, sign_val a ha, sign_val b hb, sign_val c hc, sign_val d hd]

/-- The writing of any bytes. -/
def enc : List Nat → List Nat
  | [] => []
  | [a] => sg [a]
  | [a, b] => sg [a, b]
  | a :: b :: c :: r => sg [a, b, c] ++ enc r

theorem enc_step (q : List Nat) (h : 0 < q.length) : enc q = sg (q.take (min 3 q.length)) ++ enc (q.drop (min 3 q.length)) := by
  match q, h with
  | [a], _ => simp [enc]
  | [a, b], _ => simp [enc]
  | a :: b :: c :: r, _ =>
    have e : min 3 (a :: b :: c :: r).length = 3 := by simp only [List.length_cons]; omega
    rw [e]; simp [enc]
theorem sf_add3 (n : Nat) : sf (n + 3) = sf n + 4 := by unfold sf; omega
theorem enc_length (q : List Nat) : (enc q).length = sf q.length := by
  induction q using enc.induct with
  | case1 => rfl
  | case2 a => simp [enc, sg_length]
  | case3 a b => simp [enc, sg_length]
  | case4 a b c r ih =>
    rw [enc, List.length_append, ih, sg_length, show (a :: b :: c :: r).length = r.length + 3 from rfl, sf_add3, show [a, b, c].length = 3 from rfl, show sf 3 = 4 from by decide]; omega
theorem enc_lt (q : List Nat) : ∀ x ∈ enc q, x < 256 := by
  induction q using enc.induct with
  | case1 => intro x hx; simp [enc] at hx
  | case2 a => exact sg_lt _
  | case3 a b => exact sg_lt _
  | case4 a b c r ih =>
    intro x hx
    rw [enc, List.mem_append] at hx
    rcases hx with hx | hx
    · exact sg_lt _ x hx
    · exact ih x hx
theorem enc_join (p q : List Nat) (h : p.length % 3 = 0) : enc (p ++ q) = enc p ++ enc q := by
  induction p using enc.induct with
  | case1 => simp [enc]
  | case2 a => simp at h
  | case3 a b => simp at h
  | case4 a b c r ih =>
    have h' : r.length % 3 = 0 := by simp only [List.length_cons] at h; omega
    rw [List.cons_append, List.cons_append, List.cons_append, enc, enc, ih h', List.append_assoc]
theorem sf_inj {m n : Nat} (h : sf m = sf n) : m = n := by unfold sf at h; omega
theorem enc_short (g : List Nat) (h : g.length ≤ 3) : enc g = sg g := by
  match g, h with
  | [], _ => rfl
  | [a], _ => rfl
  | [a, b], _ => rfl
  | [a, b, c], _ => simp [enc]
theorem enc_inj (n : Nat) : ∀ p q : List Nat, p.length ≤ n → (∀ x ∈ p, x < 256) → (∀ x ∈ q, x < 256) → enc p = enc q → p = q := by
  induction n with
  | zero =>
    intro p q hn _ _ h
    have hp : p = [] := List.eq_nil_of_length_eq_zero (by omega)
    subst hp
    have hl := congrArg List.length h
    rw [enc_length, enc_length] at hl
    have := sf_inj hl
    exact (List.eq_nil_of_length_eq_zero this.symm).symm
  | succ n ih =>
    intro p q hn hp hq h
    have hl : p.length = q.length := by
      have hl := congrArg List.length h
      rw [enc_length, enc_length] at hl
      exact sf_inj hl
    rcases Nat.eq_zero_or_pos p.length with h0 | h0
    · have e1 : p = [] := List.eq_nil_of_length_eq_zero h0
      have e2 : q = [] := List.eq_nil_of_length_eq_zero (by omega)
      rw [e1, e2]
    · rw [enc_step p h0, enc_step q (by omega), ← hl] at h
      obtain ⟨h1, h2⟩ := List.append_inj h (by rw [sg_length, sg_length, List.length_take, List.length_take, hl])
      have e1 : p.take (min 3 p.length) = q.take (min 3 p.length) :=
        sg_inj (fun x hx => hp x (List.mem_of_mem_take hx)) (fun x hx => hq x (List.mem_of_mem_take hx)) (by rw [List.length_take]; omega) (by rw [List.length_take, List.length_take, hl]) h1
      have e2 := ih (p.drop (min 3 p.length)) (q.drop (min 3 p.length)) (by rw [List.length_drop]; omega) (fun x hx => hp x (List.mem_of_mem_drop hx)) (fun x hx => hq x (List.mem_of_mem_drop hx)) h2
      rw [← List.take_append_drop (min 3 p.length) p, e1, e2, List.take_append_drop]
theorem enc_one {p q : List Nat} (hp : ∀ x ∈ p, x < 256) (hq : ∀ x ∈ q, x < 256) (h : enc p = enc q) : p = q := enc_inj p.length p q (Nat.le_refl _) hp hq h
theorem enc_behind {D q s : List Nat} (h3 : D.length % 3 = 0) (hD : ∀ x ∈ D, x < 256) (hq : ∀ x ∈ q, x < 256) (h : enc q = enc D ++ s) : ∃ r, q = D ++ r ∧ enc r = s := by
  have hl := congrArg List.length h
  rw [List.length_append, enc_length, enc_length] at hl
  have hle : D.length ≤ q.length := by unfold sf at hl; omega
  refine ⟨q.drop D.length, ?_, ?_⟩
  all_goals
    have ht : (q.take D.length).length = D.length := by rw [List.length_take]; omega
    have e := enc_join (q.take D.length) (q.drop D.length) (by rw [ht]; exact h3)
    rw [List.take_append_drop, h] at e
    obtain ⟨e1, e2⟩ := List.append_inj e (by rw [enc_length, enc_length, ht])
    have e3 := enc_one hD (fun x hx => hq x (List.mem_of_mem_take hx)) e1
  · conv => rhs; rw [e3]
    rw [List.length_take, Nat.min_eq_left hle, List.take_append_drop]
  · exact e2.symm

/-- What a reading of a text must be: the bytes whose writing it is, or none. -/
def IsDec (s : List Nat) (r : Option (List Nat)) : Prop := match r with
  | some q => (∀ x ∈ q, x < 256) ∧ enc q = s
  | none => ∀ q : List Nat, (∀ x ∈ q, x < 256) → enc q ≠ s
theorem isDec_one {s : List Nat} {r r' : Option (List Nat)} (h : IsDec s r) (h' : IsDec s r') : r = r' := by
  cases r with
  | none => cases r' with
    | none => rfl
    | some q => exact absurd h'.2 (h q h'.1)
  | some p => cases r' with
    | none => exact absurd h.2 (h' p h.1)
    | some q => rw [enc_one h.1 h'.1 (h.2.trans h'.2.symm)]
theorem not_of_length {s : List Nat} (h : s.length % 4 = 1) : IsDec s none := by
  intro q _ e
  have := congrArg List.length e
  rw [enc_length] at this
  unfold sf at this
  omega
/-- One group more is read. -/
theorem dec_next {D s : List Nat} {n : Nat} (h3 : D.length % 3 = 0) (h0 : 0 < s.length) (h1 : s.length % 4 ≠ 1) (hn : n = min 4 s.length) (ok : okS (s.take n)) (h : jb (fl (bi n) (jsum (s.take n))) = jsum (s.take n)) :
    enc (D ++ fl (bi n) (jsum (s.take n))) ++ s.drop n = enc D ++ s := by
  have hl : (s.take n).length = n := by rw [List.length_take]; omega
  have e := sg_fl (s.take n) (by omega) (by omega) ok (by rw [hl]; exact h)
  rw [hl] at e
  rw [enc_join _ _ h3, enc_short (fl (bi n) (jsum (s.take n))) (by rw [fl_length]; unfold bi; omega), e, List.append_assoc, List.take_append_drop]
/-- The first group of what is left of a writing is that of bytes. -/
theorem group_ok {D q s : List Nat} {n : Nat} (h3 : D.length % 3 = 0) (hD : ∀ x ∈ D, x < 256) (hq : ∀ x ∈ q, x < 256) (he : enc q = enc D ++ s) (h0 : 0 < s.length) (hn : n = min 4 s.length) :
    okS (s.take n) ∧ jb (fl (bi n) (jsum (s.take n))) = jsum (s.take n) := by
  obtain ⟨r, rfl, hr⟩ := enc_behind h3 hD hq he
  have hrb : ∀ x ∈ r, x < 256 := fun x hx => hq x (List.mem_append_right _ hx)
  have hl := congrArg List.length hr
  rw [enc_length] at hl
  have hr0 : 0 < r.length := by
    rcases Nat.eq_zero_or_pos r.length with h | h
    · rw [h, show sf 0 = 0 from rfl] at hl; omega
    · exact h
  have hg : (r.take (min 3 r.length)).length = min 3 r.length := by rw [List.length_take]; omega
  have hgb : ∀ x ∈ r.take (min 3 r.length), x < 256 := fun x hx => hrb x (List.mem_of_mem_take hx)
  have e := enc_step r hr0
  rw [hr] at e
  have hsn : sf (min 3 r.length) = n := by rw [hn, ← hl]; unfold sf; omega
  have ht : s.take n = sg (r.take (min 3 r.length)) := by
    conv => lhs; rw [e]
    rw [List.take_append_of_le_length (by rw [sg_length, hg, hsn]; exact Nat.le_refl _), List.take_of_length_le (by rw [sg_length, hg, hsn]; exact Nat.le_refl _)]
  obtain ⟨j1, j2⟩ := js_sg (r.take (min 3 r.length)) hgb (by rw [hg]; omega)
  have hbi : bi n = (r.take (min 3 r.length)).length := by rw [hg, ← hsn]; unfold bi sf; omega
  rw [ht]
  refine ⟨j1, ?_⟩
  rw [j2, hbi, fl_jb _ hgb (by rw [hg]; omega)]
theorem dec_fails {D s S : List Nat} {n : Nat} (h3 : D.length % 3 = 0) (hD : ∀ x ∈ D, x < 256) (hS : enc D ++ s = S) (h0 : 0 < s.length) (hn : n = min 4 s.length)
    (h : ¬ (okS (s.take n) ∧ jb (fl (bi n) (jsum (s.take n))) = jsum (s.take n))) : IsDec S none := by
  intro q hq e
  rw [← hS] at e
  exact h (group_ok h3 hD hq e h0 hn)
end Go.Proofs.Ytejjjhehfpeilaa.B64
