/-
  The messages of a bind, plain: what is written, and what it is that was written.
-/
import Derived.Test.YtkjofadabaecfaaTPNum
namespace Go.Proofs.Ytkjofadabaecfaa.Bq

/-- A kind of message: the tag behind the number, and those of the three parts. -/
structure K where
  g : Nat
  a : Nat
  b : Nat
  c : Nat
def bindK : K := ⟨96, 2, 4, 128⟩
def boundK : K := ⟨97, 10, 4, 4⟩
def Two (k : K) : Prop := k = bindK ∨ k = boundK
def msg (k : K) (n : Int) (p q r : List Nat) : T := .mk 48 [] [.mk 2 (whole n) [], .mk k.g [] [.mk k.a p [], .mk k.b q [], .mk k.c r []]]
/-- A message's bytes, or none. -/
def put (k : K) (n : Int) (p q r : List Nat) : Option (List Nat) :=
  if whole n = [] then none else match encode (msg k n p q r) with
    | .ok w => some w
    | .error _ => none
def part (t : Nat) (l : List Nat) : List Nat := t :: (size l.length ++ l)
def three (k : K) (p q r : List Nat) : List Nat := part k.a p ++ part k.b q ++ part k.c r
def inside (k : K) (n : Int) (p q r : List Nat) : List Nat := part 2 (whole n) ++ part k.g (three k p q r)
theorem part_len (t : Nat) (l : List Nat) : l.length + 2 ≤ (part t l).length ∧ (part t l).length ≤ l.length + 4 := by
  have := size_len l.length
  simp only [part, List.length_cons, List.length_append]
  omega
theorem amiss_scalar {lv a : Nat} {l : List Nat} (h1 : a % 32 ≠ 31) (h2 : a / 32 % 2 = 0) : amiss lv (.mk a l []) = 0 :=
  amiss_none h1 (fun _ => rfl) fun h => absurd h2 h
theorem amiss_msg {k : K} (h : Two k) (n : Int) (p q r : List Nat) : amiss 16 (msg k n p q r) = 0 := by
  have hk : (k.g % 32 ≠ 31 ∧ k.g / 32 % 2 ≠ 0) ∧ (k.a % 32 ≠ 31 ∧ k.a / 32 % 2 = 0) ∧ (k.b % 32 ≠ 31 ∧ k.b / 32 % 2 = 0) ∧ (k.c % 32 ≠ 31 ∧ k.c / 32 % 2 = 0) := by
    rcases h with rfl | rfl <;> decide
  obtain ⟨⟨g1, g2⟩, ⟨a1, a2⟩, ⟨b1, b2⟩, c1, c2⟩ := hk
  refine amiss_none (t := msg k n p q r) (show 48 % 32 ≠ 31 by decide) (fun h => absurd h (show ¬ 48 / 32 % 2 = 0 by decide)) fun _ => ⟨rfl, 15, rfl, fun x hx => ?_⟩
  rcases List.mem_cons.1 hx with rfl | hx
  · exact amiss_scalar (by decide) (by decide)
  rcases List.mem_cons.1 hx with rfl | hx
  rotate_left
  · exact absurd hx (by simp)
  refine amiss_none g1 (fun h => absurd h g2) fun _ => ⟨rfl, 14, rfl, fun x hx => ?_⟩
  simp only [T.list, List.mem_cons, List.not_mem_nil, or_false] at hx
  rcases hx with rfl | rfl | rfl
  · exact amiss_scalar a1 a2
  · exact amiss_scalar b1 b2
  · exact amiss_scalar c1 c2
theorem enc_one (lv t : Nat) (l : List Nat) : enc lv (.mk t l []) = part t l := by
  rw [enc_cont, cont_scalar rfl]
  rfl
theorem cont_msg (k : K) (n : Int) (p q r : List Nat) : cont 16 (msg k n p q r) = inside k n p q r := by
  have h1 : cont 16 (msg k n p q r) = (msg k n p q r).list.flatMap (enc 15) := cont_list (lv := 15) rfl
  have h2 : enc 15 (.mk k.g [] [.mk k.a p [], .mk k.b q [], .mk k.c r []]) = part k.g (three k p q r) := by
    rw [enc_cont, cont_list (lv := 14) rfl]
    simp [T.list, T.tag, enc_one, three, part]
  rw [h1]
  simp only [msg, T.list, List.flatMap_cons, List.flatMap_nil, enc_one, h2, List.append_nil]
  rfl
theorem enc_msg (k : K) (n : Int) (p q r : List Nat) : enc 16 (msg k n p q r) = part 48 (inside k n p q r) := by
  rw [enc_cont, cont_msg]
  rfl
theorem put_eq {k : K} (h : Two k) (n : Int) (p q r : List Nat) : put k n p q r = if whole n = [] ∨ 65535 < (inside k n p q r).length then none else some (part 48 (inside k n p q r)) := by
  have ha := amiss_msg h n p q r
  unfold put
  by_cases h1 : whole n = []
  · rw [if_pos h1, if_pos (.inl h1)]
  rw [if_neg h1]
  by_cases h2 : 65535 < (inside k n p q r).length
  · have hw : write 16 (msg k n p q r) = none := by rw [write_enc 16 _ ha, cont_msg, if_neg (by omega)]
    have he : encode (msg k n p q r) = .error 60 := by
      unfold encode
      rw [if_neg (by omega), hw]
    rw [he, if_pos (.inr h2)]
  · have he := encode_yes ha (by rw [cont_msg]; omega)
    rw [he, if_neg (by simp [h1, h2]), enc_msg]
theorem put_ok {k : K} {n : Int} {p q r S : List Nat} (h : put k n p q r = some S) : whole n ≠ [] ∧ encode (msg k n p q r) = .ok S := by
  unfold put at h
  by_cases h1 : whole n = []
  · rw [if_pos h1] at h; cases h
  rw [if_neg h1] at h
  refine ⟨h1, ?_⟩
  cases he : encode (msg k n p q r) with
  | ok w => rw [he] at h; injection h with h; rw [h]
  | error e => rw [he] at h; cases h
theorem put_back {k : K} {n : Int} {p q r S : List Nat} (h : put k n p q r = some S) : decode S = .ok (msg k n p q r) := encode_back (put_ok h).2
theorem put_of {k : K} {n : Int} {p q r S : List Nat} (hS : ∀ x ∈ S, x < 256) (hn : whole n ≠ []) (h : decode S = .ok (msg k n p q r)) : put k n p q r = some S := by
  unfold put
  rw [if_neg hn, decode_back hS h]
theorem whole_in {n : Int} (h : whole n ≠ []) : 0 ≤ n ∧ n ≤ 2147483647 := by
  refine Classical.byContradiction fun hc => h ?_
  unfold whole
  rw [if_pos (by omega)]
theorem whole_inj {n m : Int} (hn : whole n ≠ []) (h : whole n = whole m) : n = m := by
  have h1 := whole_in hn
  have h2 := whole_in (h ▸ hn : whole m ≠ [])
  have e1 := whole_val (n := n.toNat) (by omega)
  have e2 := whole_val (n := m.toNat) (by omega)
  rw [show ((n.toNat : Nat) : Int) = n by omega] at e1
  rw [show ((m.toNat : Nat) : Int) = m by omega] at e2
  rw [h, e2] at e1
  omega
theorem msg_inj {k k' : K} {n n' : Int} {p q r p' q' r' : List Nat} (hn : whole n ≠ []) (h : msg k n p q r = msg k' n' p' q' r') : k.g = k'.g ∧ n = n' ∧ p = p' ∧ q = q' ∧ r = r' := by
  unfold msg at h
  simp only [T.mk.injEq, List.cons.injEq, true_and, and_true] at h
  obtain ⟨h1, h2, ⟨_, h3⟩, ⟨_, h4⟩, _, h5⟩ := h
  exact ⟨h2, whole_inj hn h1, h3, h4, h5⟩
theorem put_inj {k k' : K} {n n' : Int} {p q r p' q' r' S : List Nat} (h : put k n p q r = some S) (h' : put k' n' p' q' r' = some S) : k.g = k'.g ∧ n = n' ∧ p = p' ∧ q = q' ∧ r = r' := by
  have e := put_back h
  rw [put_back h'] at e
  injection e with e
  exact msg_inj (put_ok h).1 e.symm

/-! What bytes say. -/
/-- An element with this tag, and inside it elements with these. -/
def Made (t : T) (tag : Nat) (others : List Nat) : Prop := t.tag = tag ∧ t.list.map T.tag = others
theorem number_whole {n : Int} (h : whole n ≠ []) : numberP (whole n) = (n.toNat, true) := by
  have h1 := whole_in h
  have h2 := whole_val (n := n.toNat) (by omega)
  rw [show ((n.toNat : Nat) : Int) = n by omega] at h2
  exact ((number_of (q := whole n) (N := n) (fun _ => by rw [h2]; omega)).1 rfl).1
theorem number_yes {q : List Nat} {m : Nat} (h : numberP q = (m, true)) : whole (m : Int) = q ∧ q ≠ [] := by
  unfold numberP at h
  split at h
  · rename_i hc
    have h1 : valB q = m := congrArg Prod.fst h
    rw [← h1]
    refine ⟨hc.2, ?_⟩
    intro e
    rw [e] at hc
    exact absurd hc.1.1 (by simp)
  · exact absurd (congrArg Prod.snd h) (by simp)
/-- What was put is made as it says. -/
theorem put_made {k : K} {n : Int} {p q r S : List Nat} (h : put k n p q r = some S) : ∃ x y u v z, decode S = .ok (.mk 48 [] [x, y]) ∧ x.tag = 2 ∧ x.bytes = whole n ∧ y.tag = k.g ∧ y.list = [u, v, z] ∧
    (u.tag = k.a ∧ v.tag = k.b ∧ z.tag = k.c) ∧ u.bytes = p ∧ v.bytes = q ∧ z.bytes = r :=
  ⟨_, _, .mk k.a p [], .mk k.b q [], .mk k.c r [], put_back h, rfl, rfl, rfl, rfl, ⟨rfl, rfl, rfl⟩, rfl, rfl, rfl⟩
theorem scalar_of {lv : Nat} {t : T} (h : amiss lv t = 0) (hs : t.tag / 32 % 2 = 0) : t = .mk t.tag t.bytes [] := by
  obtain ⟨_, h2, _⟩ := amiss_zero h
  have := h2 hs
  cases t
  simp only [T.list] at this
  rw [this]
  rfl
theorem list_of {lv : Nat} {t : T} (h : amiss lv t = 0) (hs : t.tag / 32 % 2 ≠ 0) : t = .mk t.tag [] t.list ∧ ∃ m, lv = m + 1 ∧ ∀ x ∈ t.list, amiss m x = 0 := by
  obtain ⟨_, _, h3⟩ := amiss_zero h
  obtain ⟨h4, h5⟩ := h3 hs
  refine ⟨?_, h5⟩
  cases t
  simp only [T.bytes] at h4
  rw [h4]
  rfl
/-- Bytes that are made so are those of a message. -/
theorem made_put {k : K} (hk : Two k) {S : List Nat} (hS : ∀ x ∈ S, x < 256) {t x y u v z : T} {m : Nat} (hd : decode S = .ok t) (ht : t.tag = 48) (hl : t.list = [x, y]) (hx : x.tag = 2) (hy : y.tag = k.g) (hyl : y.list = [u, v, z])
    (hu : u.tag = k.a) (hv : v.tag = k.b) (hz : z.tag = k.c) (hm : numberP x.bytes = (m, true)) : put k m u.bytes v.bytes z.bytes = some S := by
  obtain ⟨hw, hne⟩ := number_yes hm
  refine put_of hS (by rw [hw]; exact hne) ?_
  rw [hd]
  congr 1
  have ha := (encode_ok (decode_back hS hd)).1
  obtain ⟨e1, m1, _, h1⟩ := list_of ha (by rw [ht]; decide)
  rw [hl] at h1
  have hax := h1 x (by simp)
  have hay := h1 y (by simp)
  have e2 := scalar_of hax (by rw [hx])
  have hks : k.g / 32 % 2 ≠ 0 ∧ k.a / 32 % 2 = 0 ∧ k.b / 32 % 2 = 0 ∧ k.c / 32 % 2 = 0 := by
    rcases hk with rfl | rfl <;> decide
  obtain ⟨e3, m2, _, h2⟩ := list_of hay (by rw [hy]; exact hks.1)
  rw [hyl] at h2
  have e4 := scalar_of (h2 u (by simp)) (by rw [hu]; exact hks.2.1)
  have e5 := scalar_of (h2 v (by simp)) (by rw [hv]; exact hks.2.2.1)
  have e6 := scalar_of (h2 z (by simp)) (by rw [hz]; exact hks.2.2.2)
  rw [e1, ht, hl, e2, e3, hy, hyl, e4, e5, e6, hx, hu, hv, hz]
  unfold msg
  rw [hw]
  rfl

/-! The document's way: byte by byte. -/
def wholeR (n : Int) (inner : List Nat) (g : Nat) : Option (List Nat) :=
  if whole n = [] ∨ 65535 < inner.length then none
  else if 65535 < (part 2 (whole n) ++ part g inner).length then none else some (part 48 (part 2 (whole n) ++ part g inner))
def putR (k : K) (n : Int) (p q r : List Nat) : Option (List Nat) := if 65535 < q.length ∨ 65535 < r.length then none else wholeR n (three k p q r) k.g
theorem putR_eq {k : K} (hk : Two k) (n : Int) (p q r : List Nat) : putR k n p q r = put k n p q r := by
  rw [put_eq hk]
  unfold putR wholeR
  have l1 := part_len k.g (three k p q r)
  have l2 := part_len k.b q
  have l3 := part_len k.c r
  have l4 : (three k p q r).length = (part k.a p).length + (part k.b q).length + (part k.c r).length := by simp [three, Nat.add_assoc]
  have l5 : (inside k n p q r).length = (part 2 (whole n)).length + (part k.g (three k p q r)).length := by simp [inside]
  have l6 : inside k n p q r = part 2 (whole n) ++ part k.g (three k p q r) := rfl
  by_cases h0 : whole n = []
  · rw [if_pos (Or.inl h0 : whole n = [] ∨ 65535 < (three k p q r).length), if_pos (Or.inl h0 : whole n = [] ∨ 65535 < (inside k n p q r).length)]
    split <;> rfl
  by_cases hc : 65535 < (inside k n p q r).length
  · rw [if_pos (Or.inr hc : whole n = [] ∨ 65535 < (inside k n p q r).length)]
    split
    · rfl
    · split
      · rfl
      · rw [← l6, if_pos hc]
  · rw [if_neg (by omega), if_neg (by simp only [h0, false_or]; omega), if_neg (by rw [← l6]; exact hc), if_neg (by simp [h0, hc])]
    rfl

/-! The two messages. -/
def bindP (n : Int) (q r : List Nat) : Option (List Nat) := put bindK n [3] q r
def boundP (n code : Int) (q r : List Nat) : Option (List Nat) := if whole code = [] then none else put boundK n (whole code) q r
theorem bindP_inj {n n' : Int} {q r q' r' S : List Nat} (h : bindP n q r = some S) (h' : bindP n' q' r' = some S) : n = n' ∧ q = q' ∧ r = r' := by
  obtain ⟨_, h1, _, h2, h3⟩ := put_inj h h'
  exact ⟨h1, h2, h3⟩
theorem boundP_ok {n code : Int} {q r S : List Nat} (h : boundP n code q r = some S) : whole code ≠ [] ∧ put boundK n (whole code) q r = some S := by
  unfold boundP at h
  split at h
  · cases h
  · rename_i hc
    exact ⟨hc, h⟩
theorem boundP_inj {n n' c c' : Int} {q r q' r' S : List Nat} (h : boundP n c q r = some S) (h' : boundP n' c' q' r' = some S) : n = n' ∧ c = c' ∧ q = q' ∧ r = r' := by
  obtain ⟨hc, h1⟩ := boundP_ok h
  obtain ⟨hc', h2⟩ := boundP_ok h'
  obtain ⟨_, e1, e2, e3, e4⟩ := put_inj h1 h2
  exact ⟨e1, whole_inj hc e2, e3, e4⟩
/-- The bytes of a bind are those of no answer to one. -/
theorem apart {n n' c : Int} {q r q' r' S : List Nat} (h : bindP n q r = some S) (h' : boundP n' c q' r' = some S) : False := by
  have := (put_inj h (boundP_ok h').2).1
  exact absurd this (by decide)
end Go.Proofs.Ytkjofadabaecfaa.Bq
