/-
  G19: ZWy ZWz, side by side.
-/
import Derived.Test.YthhlmalpelgpeaaGreatDoorG15
import Derived.Test.YthhlmalpelgpeaaGreatDoorG10
import Derived.Test.YthhlmalpelgpeaaGreatDoorG18
import Derived.Test.YthhlmalpelgpeaaGreatDoorG14

/-
  What was read is rules in memory that can be compared.
-/
namespace Go.Proofs.YthhlmalpelgpeaaGreatDoor
open Go.RowKit

/-- All texts of a rule are bytes. -/
def RlB (r : Zq.Rl) : Prop := (∀ x ∈ r.name, x < 256) ∧ (∀ n ∈ r.expr, ∀ x ∈ n.text, x < 256) ∧ ∀ n ∈ r.cond, ∀ x ∈ n.text, x < 256
theorem name_bytes {t : List Nat} (h : Zq.NameOk t) : ∀ x ∈ t, x < 256 := by
  intro x hx
  have := h.2.1 x hx
  unfold Zq.inName Zq.low Zq.dig at this
  simp only [Bool.or_eq_true, Bool.and_eq_true, decide_eq_true_iff, beq_iff_eq] at this
  omega
theorem fitOf_some {I : Nat → Prop} {b k d : Nat} (h : Zq.FitOf I b k d) : ∃ e, I e := by
  unfold Zq.FitOf at h
  split at h
  · obtain ⟨e, _, h⟩ := h
    exact ⟨e, h⟩
  · exact ⟨d, h⟩
theorem flat_bytes : ∀ (t : Zq.T) (d o : Nat), Zq.Inner t d → ∀ n ∈ t.flat o, ∀ x ∈ n.text, x < 256
  | .leaf n, d, o, h, m, hm, x, hx => by
    simp only [Zq.T.flat, List.mem_singleton] at hm
    subst hm
    rcases h.1 with ⟨y, rfl, hy⟩ | ⟨y, rfl, _⟩ | ⟨y, rfl, hy⟩ | ⟨y, rfl, hy⟩
    · have := hy x hx
      omega
    · cases hx
    · exact name_bytes hy x hx
    · exact name_bytes hy x hx
  | .un op t, d, o, h, m, hm, x, hx => by
    simp only [Zq.T.flat, List.mem_append, List.mem_singleton] at hm
    obtain ⟨e, _, ⟨_, h⟩ | ⟨_, h⟩⟩ := h <;> obtain ⟨e', h⟩ := fitOf_some h <;> rcases hm with hm | rfl
    · exact flat_bytes t e' o h m hm x hx
    · cases hx
    · exact flat_bytes t e' o h m hm x hx
    · cases hx
  | .bin op a b, d, o, h, m, hm, x, hx => by
    simp only [Zq.T.flat, List.mem_append, List.mem_singleton] at hm
    rcases h with ⟨_, e, _, ha, hb⟩ | ⟨k, _, ha, hb⟩ <;> obtain ⟨e1, ha⟩ := fitOf_some ha <;> obtain ⟨e2, hb⟩ := fitOf_some hb <;> rcases hm with (hm | hm) | rfl
    · exact flat_bytes a e1 o ha m hm x hx
    · exact flat_bytes b e2 _ hb m hm x hx
    · cases hx
    · exact flat_bytes a e1 o ha m hm x hx
    · exact flat_bytes b e2 _ hb m hm x hx
    · cases hx
theorem isE_bytes {ns : List Zq.Nd} (h : Zq.IsE ns) : ∀ n ∈ ns, ∀ x ∈ n.text, x < 256 := by
  obtain ⟨t, h1, rfl, _⟩ := h
  exact flat_bytes t _ _ h1
theorem rule_bytes {r : Zq.Rl} (h : Zq.RuleOk r) : RlB r := by
  have hnil : ∀ {ns : List Zq.Nd}, ns = [] → ∀ n ∈ ns, ∀ x ∈ n.text, x < 256 := fun h n hn => by rw [h] at hn; cases hn
  rcases h with ⟨h1, h2, h3⟩ | ⟨h1, _, h2, h3 | h3⟩
  · exact ⟨fun x hx => (by rw [h1] at hx; cases hx), hnil h2, isE_bytes h3⟩
  · exact ⟨name_bytes h1, isE_bytes h2, hnil h3⟩
  · exact ⟨name_bytes h1, isE_bytes h2, isE_bytes h3⟩
theorem parse_ok {s : List Nat} {rs : List Zq.Rl} (h : Zq.parse s = .ok rs) : (∀ r ∈ rs, Zq.RuleOk r) ∧ rs.length ≤ 16 := by
  unfold Zq.parse at h
  split at h
  · cases h
  · exact Zq.rules_reads _ _ _ _ h (fun _ h => nomatch h) (by simp)
theorem rcells3_length (us : List (List Nat × Value × Value)) : (rcells3 us).length = us.length * 3 := by
  induction us with
  | nil => rfl
  | cons a r ih =>
    show (rcell a ++ rcells3 r).length = _
    rw [List.length_append, ih]
    simp
    omega
theorem RowR.toE {R S B : Nat} {rs : List Zq.Rl} {lv : Value} {w : World} (h : RowR R S B rs lv w) (hr : ∀ r ∈ rs, RlB r) : RsE w (B ≤ ·) lv rs := by
  have hsl := h.form
  have hlt := h.lt
  obtain ⟨h1, us, h2, h3, h4⟩ := h
  obtain ⟨A, c, rfl⟩ := hsl
  have hel : ∀ (i : Nat) u r, us[i]? = some u → rs[i]? = some r → RlE w (B ≤ ·) u r := fun i u r e1 e2 => by
    obtain ⟨k1, k2, k3, _, _⟩ := h4 i u r e1 e2
    obtain ⟨b1, b2, b3⟩ := hr r (List.mem_of_getElem? e2)
    have hns : ∀ (v : Value) (ns : List Zq.Nd), (∀ n ∈ ns, ∀ x ∈ n.text, x < 256) → NsP w R S (fun b => B ≤ b ∧ (Value.slice A rs.length c).ownBlock ≠ some b) v ns → NsE w (B ≤ ·) v ns := by
      intro v ns hb ⟨A', c', e, g1, g2, g3⟩
      refine ⟨A', c', e, g1, g2, hb, fun hp => ?_⟩
      obtain ⟨b, e', f1, f2, _, _, f3⟩ := g3 hp
      exact ⟨b, 0, e', f1.1, f2, fun j x hj => by rw [Nat.zero_add]; exact f3 j x hj⟩
    exact ⟨k1, b1, hns _ _ b2 k2, hns _ _ b3 k3⟩
  rcases h3.2 with ⟨e, h0⟩ | ⟨g, cap, cur, e, hb, hh, hc, hm, hs, ht⟩
  · have hc0 : c = 0 := by simpa using congrArg (fun v => match v with | Value.slice _ _ k => k | _ => 0) e
    exact ⟨A, c, rfl, by omega, by omega, us, h2, hel, fun hp => by omega⟩
  · have hc0 : c = cap := by simpa using congrArg (fun v => match v with | Value.slice _ _ k => k | _ => 0) e
    have hA : A = some ⟨g, 0, none⟩ := by simpa using congrArg (fun v => match v with | Value.slice a _ _ => a | _ => none) e
    subst hc0 hA
    unfold maxLen at hm
    refine ⟨_, c, rfl, by omega, by omega, us, h2, hel, fun hp => ⟨g, 0, rfl, hb, ?_, fun j x hj => ?_⟩⟩
    · rcases Nat.lt_or_ge g w.heap.size with hlt | hge
      · exact hlt
      · rw [Array.getElem?_eq_none hge] at hh; cases hh
    · have hj' : j < us.length * 3 := by have := (List.getElem?_eq_some_iff.1 hj).1; rw [rcells3_length] at this; exact this
      rw [Nat.zero_add, cell_of_row w g j cur _ _ hh]
      have e2 : cur.toList[j]? = (rcells3 us)[j]? := by rw [← ht, List.getElem?_take, if_pos (by omega)]
      rw [← Array.getElem?_toList, e2, hj]
end Go.Proofs.YthhlmalpelgpeaaGreatDoor

/-
  Right.
-/
namespace Go.Proofs.YthhlmalpelgpeaaGreatDoor
open Go.RowKit

theorem right_is (rs : List Zq.Rl) {l : List Zq.Rl} (h : Zq.parse (Zq.print rs) = .ok l) : Zq.right rs = true ↔ l = rs := by
  unfold Zq.right
  rw [h]
  simp
theorem right_no (rs : List Zq.Rl) {er : Nat} (h : Zq.parse (Zq.print rs) = .error er) : ¬ Zq.right rs = true := by
  unfold Zq.right
  rw [h]
  simp
section
variable {w : World} {ok : Nat → Prop} {rs : List Zq.Rl} {v : Value}
set_option maxHeartbeats 2000000 in
set_option maxRecDepth 100000 in
theorem rightR_any (hH : HeldZ w) (hR : RsW w ok v rs) :
    Calls Tryz.prog 12 #[v] w (TellsZ (Zq.right rs = true) w) := by
  have hP := printR_any hH hR
  have HE := Lib.hid hR.toE
  have HH := Lib.hid hH
  obtain ⟨A, c, rfl⟩ := hR.form
  obtain ⟨n, en⟩ : ∃ n, rs.length = n := ⟨_, rfl⟩
  rw [en] at hP HE ⊢
  clear hH hR en
  go_enter Tryz.func12, Tryz.ntmps12
  go_wp2_with fail
  refine hP.mono ?_
  rintro e w2 ⟨rfl, hb2, hby⟩
  have hX := parse_any (strOf (Zq.print rs)) w2 (HH.out.below hb2)
  rw [numsOf_strOf hby] at hX
  have HB2 := Lib.hid hb2
  clear hP hb2 hby
  go_wp2_with fail
  refine hX.mono ?_
  rintro e w3 ⟨hb3, ⟨l, lv, R, S, hl, rfl, hrow, _⟩ | ⟨⟨er, her⟩, f, hf, rfl⟩⟩
  · have HB3 := Lib.hid (below_onZ HB2.out hb3)
    have hS := sameR_any l rs _ _ w3 (hrow.toE (fun r hr => rule_bytes ((parse_ok hl).1 r hr))) (HE.out.more HB3.out)
    obtain ⟨A2, c2, rfl⟩ := hrow.form
    have HI := Lib.hid (right_is rs hl)
    clear hX hrow hl hb3
    go_wp2_with fail
    refine hS.mono ?_
    rintro e w4 ⟨hb4, ⟨hq, rfl⟩ | ⟨hq, rfl⟩⟩
    · have HQ := Lib.hid (TellsZ.yes (HI.out.2 hq) (below_onZ HB3.out hb4))
      clear hS hq hb4
      go_wp2
      go_ret
      exact HQ.out
    · have HQ := Lib.hid (TellsZ.no (fun h => hq (HI.out.1 h)) (below_onZ HB3.out hb4))
      clear hS hq hb4
      go_wp2
      go_ret
      exact HQ.out
  · have HQ := Lib.hid (TellsZ.no (right_no rs her) (below_onZ HB2.out hb3))
    have hd : ((f : Int) == 0) = false := by rw [beq_eq_false_iff_ne]; exact hf
    clear hX hb3 her
    go_wp2
    go_ret
    exact HQ.out
end
end Go.Proofs.YthhlmalpelgpeaaGreatDoor
