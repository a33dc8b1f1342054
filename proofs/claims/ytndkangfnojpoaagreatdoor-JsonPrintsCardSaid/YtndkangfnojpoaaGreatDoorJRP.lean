/-
  The document's writing, plain: text by text, against what is right and its writing.
-/
import Derived.Test.YtndkangfnojpoaaGreatDoorQA
namespace Go.Proofs.YtndkangfnojpoaaGreatDoor.Jq

/-- The items behind each other, with commas between them: what stands ahead of each, and the items. -/
def lp (el : J → Option (List Nat)) : Nat → List Nat → List (List Nat × J) → Option (List Nat)
  | _, s, [] => some s
  | i, s, p :: r => match el p.2 with
    | none => none
    | some y => if 4096 < s.length then none else lp el (i + 1) (s ++ ((if i = 0 then [] else [44]) ++ (p.1 ++ y))) r
def parts (v : J) : List (List Nat × J) := if v.kind = 5 then List.zipWith (fun t x => (quoted t ++ [58], x)) v.names v.list else v.list.map fun x => ([], x)
noncomputable def rp : Nat → J → Option (List Nat)
  | n, v =>
    open Classical in
    if Form n v then
      (if v.kind = 0 then some wNull
       else if v.kind = 1 then some (if v.bool then wTrue else wFalse)
       else if v.kind = 2 then some (decimal v.int)
       else if v.kind = 3 then some (quoted v.text)
       else match n with
         | 0 => none
         | m + 1 => (lp (rp m) 0 [] (parts v)).bind fun s => if s.length ≤ 4096 then some (if v.kind = 5 then 123 :: (s ++ [125]) else 91 :: (s ++ [93])) else none)
    else none
theorem lp_some {el : J → Option (List Nat)} {w : J → List Nat} {G : J → Prop} : ∀ (ps : List (List Nat × J)) (i : Nat) (s s' : List Nat), (∀ p ∈ ps, ∀ y, el p.2 = some y → G p.2 ∧ y = w p.2) → lp el i s ps = some s' → (∀ p ∈ ps, G p.2) ∧ s' = s ++ jn i (ps.map fun p => p.1 ++ w p.2)
  | [], i, s, s', _, h => by
    rw [lp] at h
    injection h with h
    exact ⟨fun p hp => (nomatch hp), by simp [jn, h]⟩
  | p :: r, i, s, s', he, h => by
    rw [lp] at h
    cases hp : el p.2 with
    | none => rw [hp] at h; cases h
    | some y =>
      rw [hp] at h
      simp only at h
      split at h
      · cases h
      obtain ⟨g, ey⟩ := he p (by simp) y hp
      obtain ⟨g2, e2⟩ := lp_some r (i + 1) _ s' (fun q hq => he q (by simp [hq])) h
      refine ⟨fun q hq => ?_, ?_⟩
      · rcases List.mem_cons.1 hq with rfl | hq
        · exact g
        · exact g2 q hq
      · rw [e2, ey, List.map_cons, jn]
        simp [List.append_assoc]
theorem lp_yes {el : J → Option (List Nat)} {w : J → List Nat} : ∀ (ps : List (List Nat × J)) (i : Nat) (s : List Nat), (∀ p ∈ ps, (w p.2).length ≤ 4096 → el p.2 = some (w p.2)) → (s ++ jn i (ps.map fun p => p.1 ++ w p.2)).length ≤ 4096 → lp el i s ps = some (s ++ jn i (ps.map fun p => p.1 ++ w p.2))
  | [], i, s, _, _ => by rw [lp]; simp [jn]
  | p :: r, i, s, he, h => by
    rw [List.map_cons, jn] at h ⊢
    have e : s ++ ((if i = 0 then [] else [44]) ++ (p.1 ++ w p.2 ++ jn (i + 1) (r.map fun p => p.1 ++ w p.2))) = (s ++ ((if i = 0 then [] else [44]) ++ (p.1 ++ w p.2))) ++ jn (i + 1) (r.map fun p => p.1 ++ w p.2) := by simp [List.append_assoc]
    have hl : (w p.2).length ≤ 4096 ∧ s.length ≤ 4096 := by
      simp only [List.length_append] at h
      omega
    rw [lp, he p (by simp) hl.1]
    simp only
    rw [if_neg (by omega)]
    rw [e] at h ⊢
    exact lp_yes r (i + 1) _ (fun q hq => he q (by simp [hq])) h
theorem parts_mem {v : J} {p : List Nat × J} (h : p ∈ parts v) : p.2 ∈ v.list := by
  unfold parts at h
  split at h
  · rw [List.mem_iff_getElem?] at h
    obtain ⟨i, hi⟩ := h
    rw [List.getElem?_zipWith] at hi
    cases h1 : v.names[i]? with
    | none => rw [h1] at hi; cases hi
    | some t =>
      cases h2 : v.list[i]? with
      | none => rw [h1, h2] at hi; cases hi
      | some x =>
        rw [h1, h2] at hi
        have e := Option.some.inj hi
        rw [← e]
        exact List.mem_of_getElem? h2
  · obtain ⟨x, hx, rfl⟩ := List.mem_map.1 h
    exact hx
theorem list_parts {v : J} (h : v.kind = 5 → v.names.length = v.list.length) {x : J} (hx : x ∈ v.list) : ∃ p ∈ parts v, p.2 = x := by
  unfold parts
  split
  · rename_i h5
    obtain ⟨i, hi⟩ := List.mem_iff_getElem?.1 hx
    have hl := h h5
    have hi2 : i < v.list.length := (List.getElem?_eq_some_iff.1 hi).1
    refine ⟨(quoted (v.names[i]'(by omega)) ++ [58], x), List.mem_iff_getElem?.2 ⟨i, ?_⟩, rfl⟩
    rw [List.getElem?_zipWith, List.getElem?_eq_getElem (show i < v.names.length by omega), hi]
  · exact ⟨([], x), List.mem_map.2 ⟨x, hx, rfl⟩, rfl⟩
theorem parts_write {v : J} {m : Nat} (h4 : v.kind = 4 ∨ v.kind = 5) : write (m + 1) v = if v.kind = 5 then 123 :: (jn 0 ((parts v).map fun p => p.1 ++ write m p.2) ++ [125]) else 91 :: (jn 0 ((parts v).map fun p => p.1 ++ write m p.2) ++ [93]) := by
  rw [jn_joined, write.eq_def]
  simp only
  rcases h4 with h | h
  · simp only [h]
    unfold parts
    simp only [h]
    simp [List.map_map]
    rfl
  · simp only [h]
    unfold parts
    simp only [h]
    have e : ∀ (ns : List (List Nat)) (l : List J), (List.zipWith (fun t x => (quoted t ++ [58], x)) ns l).map (fun p : List Nat × J => p.1 ++ write m p.2) = List.zipWith (fun t x => quoted t ++ 58 :: write m x) ns l := by
      intro ns
      induction ns with
      | nil => intro l; rfl
      | cons t ns ih =>
        intro l
        cases l with
        | nil => rfl
        | cons x l => simp only [List.zipWith_cons_cons, List.map_cons, ih]; simp
    simp [e]
theorem rp_some : ∀ (n : Nat) (v : J) (y : List Nat), rp n v = some y → Good n v ∧ y = write n v := by
  intro n
  induction n with
  | zero =>
    intro v y h
    rw [rp] at h
    split at h
    · rename_i hf
      refine ⟨hf, ?_⟩
      rw [write.eq_def]
      split at h
      · rename_i h0; injection h with h; simp only [h0]; rw [← h]; rfl
      split at h
      · rename_i h0; injection h with h; simp only [h0]; rw [← h]; rfl
      split at h
      · rename_i h0; injection h with h; simp only [h0]; rw [← h]; rfl
      split at h
      · rename_i h0; injection h with h; simp only [h0]; rw [← h]; rfl
      · cases h
    · cases h
  | succ m ih =>
    intro v y h
    rw [rp] at h
    split at h
    · rename_i hf
      have plain : v.kind < 4 → Good (m + 1) v := fun hk => by
        refine ⟨hf, fun x hx => ?_⟩
        obtain ⟨_, _, _, _, _, _, _, _, _, hp, _⟩ := hf
        rw [(hp hk).2] at hx
        cases hx
      split at h
      · rename_i h0; injection h with h; refine ⟨plain (by omega), ?_⟩; rw [write.eq_def]; simp only [h0]; rw [← h]; rfl
      split at h
      · rename_i h0; injection h with h; refine ⟨plain (by omega), ?_⟩; rw [write.eq_def]; simp only [h0]; rw [← h]; rfl
      split at h
      · rename_i h0; injection h with h; refine ⟨plain (by omega), ?_⟩; rw [write.eq_def]; simp only [h0]; rw [← h]; rfl
      split at h
      · rename_i h0; injection h with h; refine ⟨plain (by omega), ?_⟩; rw [write.eq_def]; simp only [h0]; rw [← h]; rfl
      · rename_i k0 k1 k2 k3
        have h45 : v.kind = 4 ∨ v.kind = 5 := by
          obtain ⟨f0, f5, _⟩ := hf
          omega
        rw [Option.bind_eq_some_iff] at h
        obtain ⟨s, hs, h⟩ := h
        split at h
        · injection h with h
          obtain ⟨g, es⟩ := lp_some (w := write m) (G := Good m) (parts v) 0 [] s (fun p _ y hy => ih p.2 y hy) hs
          have hlen : v.kind = 5 → v.names.length = v.list.length := fun h5 => by
            obtain ⟨_, _, _, _, _, _, _, _, _, _, _, _, ho⟩ := hf
            exact (ho h5).1
          refine ⟨⟨hf, fun x hx => ?_⟩, ?_⟩
          · obtain ⟨p, hp, rfl⟩ := list_parts hlen hx
            exact g p hp
          · rw [parts_write h45, ← h, es, List.nil_append]
        · cases h
    · cases h
theorem rp_yes : ∀ (n : Nat) (v : J), Good n v → (write n v).length ≤ 4096 → rp n v = some (write n v) := by
  intro n
  induction n with
  | zero =>
    intro v hg hl
    have hf : Form 0 v := hg
    rw [rp, if_pos hf, write.eq_def]
    have hk : v.kind = 0 ∨ v.kind = 1 ∨ v.kind = 2 ∨ v.kind = 3 := by
      obtain ⟨f0, f5, _, _, _, _, _, _, _, _, fl, _⟩ := hf
      by_cases h : 4 ≤ v.kind
      · have := (fl h).1; omega
      · omega
    rcases hk with h | h | h | h <;> simp [h]
  | succ m ih =>
    intro v hg hl
    have hf : Form (m + 1) v := hg.1
    have hlen : v.kind = 5 → v.names.length = v.list.length := fun h5 => by
      obtain ⟨_, _, _, _, _, _, _, _, _, _, _, _, ho⟩ := hf
      exact (ho h5).1
    rw [rp, if_pos hf]
    have hk : (v.kind = 0 ∨ v.kind = 1 ∨ v.kind = 2 ∨ v.kind = 3) ∨ (v.kind = 4 ∨ v.kind = 5) := by
      obtain ⟨f0, f5, _⟩ := hf
      omega
    rcases hk with hk | hk
    · rw [write.eq_def]
      rcases hk with h | h | h | h <;> simp [h]
    · rw [if_neg (by omega), if_neg (by omega), if_neg (by omega), if_neg (by omega)]
      rw [parts_write hk] at hl ⊢
      have hj : (jn 0 ((parts v).map fun p => p.1 ++ write m p.2)).length ≤ 4096 := by
        split at hl <;> (simp only [List.length_cons, List.length_append] at hl; omega)
      rw [lp_yes (w := write m) (parts v) 0 [] (fun p hp h => ih p.2 (hg.2 _ (parts_mem hp)) h) (by simpa using hj)]
      rw [List.nil_append]
      show (if _ then _ else _) = _
      rw [if_pos hj]
/-- The two writings, told of one text. -/
theorem rp_valueP (v : J) : (match rp 16 v with | some y => if y.length ≤ 4096 then some y else none | none => none) = valueP 16 [] v := by
  cases hv : valueP 16 [] v with
  | some B =>
    obtain ⟨hg, e, hl⟩ := valueP_some hv
    rw [rp_yes 16 v hg (by rw [← e]; exact hl)]
    simp only
    rw [if_pos (by rw [← e]; exact hl), e]
  | none =>
    cases hr : rp 16 v with
    | none => rfl
    | some y =>
      obtain ⟨hg, e⟩ := rp_some 16 v y hr
      simp only
      split
      · rename_i hl
        have := valueP_yes hg (by rw [← e]; exact hl)
        rw [hv] at this
        cases this
      · rfl
end Go.Proofs.YtndkangfnojpoaaGreatDoor.Jq
