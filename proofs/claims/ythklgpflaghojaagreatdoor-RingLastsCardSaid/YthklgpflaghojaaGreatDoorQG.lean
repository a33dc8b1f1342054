/-
  QG: JItems JListR JObjectR, side by side.
-/
import Derived.Test.YthklgpflaghojaaGreatDoorQD
import Derived.Test.YthklgpflaghojaaGreatDoorQF

/-
  The reader's items, for the closure of a list and for that of an object.
-/
namespace Go.Proofs.YthklgpflaghojaaGreatDoor
open Go.RowKit

/-- What follows an item. -/
def tailG {σ : Type} (fin : Nat) (item : σ → List Nat → Jq.R σ) (f : Nat) (s : σ) (r : List Nat) : Jq.R σ :=
  if (Jq.skip r).head? = some 44 then Jq.itemsG fin item f s ((Jq.skip r).drop 1)
  else if (Jq.skip r).head? = some fin then .ok (s, (Jq.skip r).drop 1)
  else .error 51
theorem itemsG_tail {σ : Type} (fin : Nat) (item : σ → List Nat → Jq.R σ) (f : Nat) (s : σ) (l : List Nat) : Jq.itemsG fin item (f + 1) s l = match item s l with
    | .error e => .error e
    | .ok (s', r) => tailG fin item f s' r := rfl
theorem tail_must {σ : Type} {fin : Nat} {item : σ → List Nat → Jq.R σ} {f : Nat} {s : σ} {r : List Nat} (h : (Jq.skip r).head? ≠ some 44) :
    tailG fin item f s r = match mustP fin (Jq.skip r) with | .error e => .error e | .ok (_, q) => .ok (s, q) := by
  rw [tailG, if_neg h, mustP, Jq.skip_skip]
  split <;> rfl
theorem ItemEnd.cases {σ : Type} {W : World} {R d B0 : Nat} {w w' : World} {St : σ → World → Prop} {res : Jq.R σ} {e : Ending} (h : ItemEnd W R d B0 w St res e w') :
    (∃ x r s', res = .ok (x, r) ∧ e = .returned (.tuple #[]) ∧ St x w' ∧ numsOf s' = r ∧ Rd W R s' d w' ∧ Far B0 R w w') ∨ (∃ n, res = .error n ∧ e = errEnd n ∧ Far B0 R w w') := by
  unfold ItemEnd at h
  split at h
  · obtain ⟨s', h1, h2, h3, h4, h5⟩ := h
    exact .inl ⟨_, _, s', rfl, h1, h2, h3, h4, h5⟩
  · exact .inr ⟨_, rfl, h.1, h.2⟩
/-- What holds ahead of each further item. -/
def ItRel {σ : Type} (W : World) (R d B0 : Nat) (w : World) (fin : Nat) (item : σ → List Nat → Jq.R σ) (cnt : σ → Nat) (St : σ → World → Prop) (RES : Jq.R σ) (wr : World) : Prop :=
  ∃ s2 x f, Rd W R s2 d wr ∧ St x wr ∧ Far B0 R w wr ∧ cnt x + s2.size ≤ 4096 ∧ s2.size ≤ f ∧ Hid (RES = tailG fin item f x (numsOf s2))
theorem head_len {l : List Nat} {c : Nat} (h : l.head? = some c) : 1 ≤ l.length := by
  cases l with
  | nil => cases h
  | cons a l => simp
/-- Behind the last sign: the depth is again what it was. -/
theorem items_out {σ : Type} {W : World} {R d B0 : Nat} {w w1 : World} {St : σ → World → Prop} {RES : Jq.R σ} {x : σ} {r : List Nat} {s' : ByteArray} (hd : d + 1 ≤ 16) (h : RES = .ok (x, r)) (hs : St x w1) (hr : numsOf s' = r) (hR : Rd W R s' (d + 1) w1) (hf : Far B0 R w w1)
    (hSt : ∀ x w w', St x w → w.grownBy w' (some R) → St x w') : ItemEnd W R d B0 w St RES (.returned (.tuple #[])) (w1.setCell ⟨R, 1, none⟩ (.int .i64 (d : Int))) :=
  ItemEnd.ok h (hSt _ _ _ hs (gb_set _ _ _ _)) hr (hR.set1 (d' := d) (by omega))
    (hf.trans ⟨rfl, rfl, rfl, by simp [World.setCell], fun k _ hk => Below.heap_setCell _ _ _ _ hk⟩)

set_option maxHeartbeats 4000000 in
set_option maxRecDepth 100000 in
theorem itemsL_any {σ : Type} (n : Nat) (hn : n + 1 ≤ 16) (W : World) (R B0 V Rb fin : Nat) (hf0 : fin ≠ 0) (item : σ → List Nat → Jq.R σ) (cnt : σ → Nat) (St : σ → World → Prop)
    (hItem : ∀ x s w, Rd W R s (16 - n) w → St x w → cnt x + s.size ≤ 4096 → Calls Tryz.prog 139 #[.pointer (some ⟨V, 0, none⟩), .pointer (some ⟨Rb, 0, none⟩)] w fun e w' => ItemEnd W R (16 - n) B0 w St (item x (numsOf s)) e w')
    (hcnt : ∀ x l y r, l.length ≤ 4096 → item x l = .ok (y, r) → cnt y + r.length ≤ cnt x + l.length ∧ r.length ≤ l.length)
    (hSt : ∀ x w w', St x w → w.grownBy w' (some R) → St x w') (x0 : σ) (s : ByteArray) (hc0 : cnt x0 + s.size ≤ 4096) (hs0 : 0 < s.size) (w : World) (h : Rd W R s (16 - (n + 1)) w) (hst : St x0 w) (hB0 : B0 ≤ w.heap.size) :
    Calls Tryz.prog 138 #[.pointer (some ⟨R, 0, none⟩), .int .u8 (fin : Int), .func (.func 139) #[] #[.pointer (some ⟨V, 0, none⟩), .pointer (some ⟨Rb, 0, none⟩)]] w fun e w' => ItemEnd W R (16 - (n + 1)) B0 w St (Jq.allG fin item x0 ((numsOf s).drop 1)) e w' := by
  obtain ⟨c0, c1, f0, f1⟩ := h.cells
  obtain ⟨d, ed⟩ : ∃ d, 16 - (n + 1) = d := ⟨_, rfl⟩
  have ed1 : 16 - n = d + 1 := by omega
  have hd16 : d + 1 ≤ 16 := by omega
  rw [ed] at h c1 ⊢
  rw [ed1] at hItem
  have hdn : ((d : Int) == 16) = false := by simp; omega
  have hset := Rd.set1 h (d' := d + 1) hd16
  have hP := pass_any W R (d + 1) s _ hset hs0
  have e1 : ((d + 1 : Nat) : Int) = (d : Int) + 1 := by omega
  rw [e1] at hP hset
  obtain ⟨RES, eRES⟩ : ∃ RES, Jq.allG fin item x0 ((numsOf s).drop 1) = RES := ⟨_, rfl⟩
  have HRES := Lib.hid eRES
  rw [eRES]
  have hst1 := hSt _ _ _ hst (gb_set w R 1 (.int .i64 ((d : Int) + 1)))
  have hg0 := gb_set w R 1 (.int .i64 ((d : Int) + 1))
  have HI := Lib.hid hItem
  have HCN := Lib.hid hcnt
  clear eRES ed ed1 hItem hcnt h hset
  go_enter Tryz.func138, Tryz.ntmps138
  go_wp2_with fail
  refine hP.mono ?_
  rintro e w1 ⟨rfl, s1, hs1, h1, hg1⟩
  have hst2 := hSt _ _ _ hst1 hg1
  have hgA := gb_trans hg0 hg1
  have hFA : Far B0 R w w1 := Far.of_gb hgA hB0
  have hl1 : s1.size + 1 = s.size := by
    have := congrArg List.length hs1
    rw [List.length_drop, numsOf_length, numsOf_length] at this
    omega
  have hT := takes_any W R (d + 1) s1 w1 fin hf0 h1
  rw [← hs1] at HRES
  have HST := Lib.hid hSt
  clear hP c0 c1 f0 f1 hdn hs1 hst1 hg0 hg1 hgA hSt
  have hB1 : B0 ≤ w1.heap.size := Nat.le_trans hB0 hFA.size
  go_wp2_with fail
  refine hT.mono ?_
  rintro e w2 ⟨s2, h2, hg2, ⟨hh, rfl, hs2⟩ | ⟨hh, rfl, hs2⟩⟩
  · have HP : Hid (RES = .ok (x0, (Jq.skip (numsOf s1)).drop 1)) := by
      unfold Hid
      rw [← HRES.out, Jq.allG, if_pos hh]
    have HE := Lib.hid (items_out hd16 HP.out (HST.out _ _ _ hst2 hg2) hs2 h2 (hFA.trans (Far.of_gb hg2 hB1)) HST.out)
    obtain ⟨_, c1, _, f1⟩ := h2.cells
    rw [e1] at c1
    clear hT hh hs2 HP hst2 hst h1 h2
    go_wp2
    go_end0
    exact HE.out
  · have hst3 := HST.out _ _ _ hst2 hg2
    have hF2 : Far B0 R w w2 := hFA.trans (Far.of_gb hg2 hB1)
    have hl2 : s2.size ≤ s1.size := by
      have := Jq.skip_len (numsOf s1)
      rw [← hs2, numsOf_length, numsOf_length] at this
      exact this
    have HP : Hid (RES = Jq.itemsG fin item (s2.size + 1) x0 (numsOf s2)) := by
      unfold Hid
      rw [← HRES.out, Jq.allG, if_neg hh, ← hs2, numsOf_length]
    have hI := HI.out x0 s2 w2 h2 hst3 (by omega)
    clear hT hh hs2 hst2 hst h1
    go_wp2_with fail
    refine hI.mono ?_
    intro e w3 hh3
    clear hI
    rcases ItemEnd.cases hh3 with ⟨y, r, s4, hres, rfl, hst4, hs4, h4, hF4⟩ | ⟨m, hres, rfl, hF4⟩
    rotate_left
    · exact ⟨rfl, ItemEnd.err (by rw [HP.out, itemsG_tail, hres]) (hF2.trans hF4)⟩
    have hcn := HCN.out _ _ _ _ (by rw [numsOf_length]; omega) hres
    rw [numsOf_length, ← hs4, numsOf_length] at hcn
    have HR0 : Hid (ItRel W R (d + 1) B0 w fin item cnt St RES w3) := ⟨s4, y, s2.size, h4, hst4, hF2.trans hF4, by omega, by omega, Lib.hid (by rw [HP.out, itemsG_tail, hres, hs4])⟩
    clear hh3 hres hst4 hs4 h4 hF4 hF2 hst3 h2 HP hcn
    go_wp2_with fail
    go_loopw [] (fun wr => ItRel W R (d + 1) B0 w fin item cnt St RES wr) (fun wr => restLen R wr)
    case atStart => exact HR0.out
    case round =>
      obtain ⟨s5, x, f, h5, hst5, hF5, hc5, hsf, hrel⟩ := hrel
      have hB5 : B0 ≤ wr.heap.size := Nat.le_trans hB0 hF5.size
      have hT := takes_any W R (d + 1) s5 _ 44 (by decide) h5
      clear HR0
      go_wp2_with fail
      refine hT.mono ?_
      rintro e w4 ⟨s6, h6, hg6, ⟨hh, rfl, hs6⟩ | ⟨hh, rfl, hs6⟩⟩
      · have hl6 : s6.size + 1 ≤ s5.size := by
          have h1 := Jq.skip_len (numsOf s5)
          have h2 := head_len hh
          have h3 := congrArg List.length hs6
          rw [List.length_drop, numsOf_length] at h3
          rw [numsOf_length] at h1
          omega
        obtain ⟨f, rfl⟩ : ∃ f', f = f' + 1 := ⟨f - 1, by omega⟩
        have HP : Hid (RES = Jq.itemsG fin item (f + 1) x (numsOf s6)) := by
          unfold Hid
          rw [hrel.out, tailG, if_pos hh, ← hs6]
        have hst6 := HST.out _ _ _ hst5 hg6
        have hF6 : Far B0 R w w4 := hF5.trans (Far.of_gb hg6 hB5)
        have hI := HI.out x s6 w4 h6 hst6 (by omega)
        have hr5 := rest_of h5
        clear hT hh hs6 hst5 hrel
        go_wp2_with fail
        refine hI.mono ?_
        intro e w5 hh5
        clear hI
        rcases ItemEnd.cases hh5 with ⟨y, r, s7, hres, rfl, hst7, hs7, h7, hF7⟩ | ⟨m, hres, rfl, hF7⟩
        rotate_left
        · exact ⟨rfl, ItemEnd.err (by rw [HP.out, itemsG_tail, hres]) (hF6.trans hF7)⟩
        have hcn := HCN.out _ _ _ _ (by rw [numsOf_length]; omega) hres
        rw [numsOf_length, ← hs7, numsOf_length] at hcn
        have HR1 : Hid (ItRel W R (d + 1) B0 w fin item cnt St RES w5) := ⟨s7, y, f, h7, hst7, hF6.trans hF7, by omega, by omega, Lib.hid (by rw [HP.out, itemsG_tail, hres, hs7])⟩
        have HM := Lib.hid (show restLen R w5 < restLen R wr by rw [hr5, rest_of h7]; omega)
        clear hh5 hres hst7 hs7 h7 hF7 hF6 hst6 h6 HP hcn hr5 h5
        go_wp2_with fail
        go_roundw
        case rel => exact HR1.out
        case measure => exact HM.out
      · have hrel2 := hrel.out.trans (tail_must hh)
        rw [← hs6] at hrel2
        have hst6 := HST.out _ _ _ hst5 hg6
        have hF6 : Far B0 R w w4 := hF5.trans (Far.of_gb hg6 hB5)
        have hM := must_any W R (d + 1) s6 w4 fin hf0 h6
        have HQ := Lib.hid hrel2
        clear hT hh hs6 hst5 hrel hrel2 h5
        go_wp2_with fail
        refine hM.mono ?_
        intro e w5 hh5
        clear hM
        rcases Ends.cases hh5 with ⟨y, r, v, s7, hres, rfl, hv, hs7, h7, hg7⟩ | ⟨m, hres, rfl, hg7⟩
        rotate_left
        · exact ⟨rfl, ItemEnd.err (by rw [HQ.out, hres]) (hF6.trans (Far.of_gb hg7 (Nat.le_trans hB5 hg6.size)))⟩
        obtain rfl : v = .tuple #[] := hv
        have hOK : RES = .ok (x, r) := by rw [HQ.out, hres]
        have HE := Lib.hid (items_out hd16 hOK (HST.out _ _ _ hst6 hg7) hs7 h7 (hF6.trans (Far.of_gb hg7 (Nat.le_trans hB5 hg6.size))) HST.out)
        obtain ⟨_, c1, _, f1⟩ := h7.cells
        rw [e1] at c1
        clear hOK hh5 hres hs7 h7 hg7 hF6 hst6 h6 HQ
        go_wp2
        go_end0
        exact HE.out

set_option maxHeartbeats 4000000 in
set_option maxRecDepth 100000 in
theorem itemsO_any {σ : Type} (n : Nat) (hn : n + 1 ≤ 16) (W : World) (R B0 V Rb fin : Nat) (hf0 : fin ≠ 0) (item : σ → List Nat → Jq.R σ) (cnt : σ → Nat) (St : σ → World → Prop)
    (hItem : ∀ x s w, Rd W R s (16 - n) w → St x w → cnt x + s.size ≤ 4096 → Calls Tryz.prog 140 #[.pointer (some ⟨V, 0, none⟩), .pointer (some ⟨Rb, 0, none⟩)] w fun e w' => ItemEnd W R (16 - n) B0 w St (item x (numsOf s)) e w')
    (hcnt : ∀ x l y r, l.length ≤ 4096 → item x l = .ok (y, r) → cnt y + r.length ≤ cnt x + l.length ∧ r.length ≤ l.length)
    (hSt : ∀ x w w', St x w → w.grownBy w' (some R) → St x w') (x0 : σ) (s : ByteArray) (hc0 : cnt x0 + s.size ≤ 4096) (hs0 : 0 < s.size) (w : World) (h : Rd W R s (16 - (n + 1)) w) (hst : St x0 w) (hB0 : B0 ≤ w.heap.size) :
    Calls Tryz.prog 138 #[.pointer (some ⟨R, 0, none⟩), .int .u8 (fin : Int), .func (.func 140) #[] #[.pointer (some ⟨V, 0, none⟩), .pointer (some ⟨Rb, 0, none⟩)]] w fun e w' => ItemEnd W R (16 - (n + 1)) B0 w St (Jq.allG fin item x0 ((numsOf s).drop 1)) e w' := by
  obtain ⟨c0, c1, f0, f1⟩ := h.cells
  obtain ⟨d, ed⟩ : ∃ d, 16 - (n + 1) = d := ⟨_, rfl⟩
  have ed1 : 16 - n = d + 1 := by omega
  have hd16 : d + 1 ≤ 16 := by omega
  rw [ed] at h c1 ⊢
  rw [ed1] at hItem
  have hdn : ((d : Int) == 16) = false := by simp; omega
  have hset := Rd.set1 h (d' := d + 1) hd16
  have hP := pass_any W R (d + 1) s _ hset hs0
  have e1 : ((d + 1 : Nat) : Int) = (d : Int) + 1 := by omega
  rw [e1] at hP hset
  obtain ⟨RES, eRES⟩ : ∃ RES, Jq.allG fin item x0 ((numsOf s).drop 1) = RES := ⟨_, rfl⟩
  have HRES := Lib.hid eRES
  rw [eRES]
  have hst1 := hSt _ _ _ hst (gb_set w R 1 (.int .i64 ((d : Int) + 1)))
  have hg0 := gb_set w R 1 (.int .i64 ((d : Int) + 1))
  have HI := Lib.hid hItem
  have HCN := Lib.hid hcnt
  clear eRES ed ed1 hItem hcnt h hset
  go_enter Tryz.func138, Tryz.ntmps138
  go_wp2_with fail
  refine hP.mono ?_
  rintro e w1 ⟨rfl, s1, hs1, h1, hg1⟩
  have hst2 := hSt _ _ _ hst1 hg1
  have hgA := gb_trans hg0 hg1
  have hFA : Far B0 R w w1 := Far.of_gb hgA hB0
  have hl1 : s1.size + 1 = s.size := by
    have := congrArg List.length hs1
    rw [List.length_drop, numsOf_length, numsOf_length] at this
    omega
  have hT := takes_any W R (d + 1) s1 w1 fin hf0 h1
  rw [← hs1] at HRES
  have HST := Lib.hid hSt
  clear hP c0 c1 f0 f1 hdn hs1 hst1 hg0 hg1 hgA hSt
  have hB1 : B0 ≤ w1.heap.size := Nat.le_trans hB0 hFA.size
  go_wp2_with fail
  refine hT.mono ?_
  rintro e w2 ⟨s2, h2, hg2, ⟨hh, rfl, hs2⟩ | ⟨hh, rfl, hs2⟩⟩
  · have HP : Hid (RES = .ok (x0, (Jq.skip (numsOf s1)).drop 1)) := by
      unfold Hid
      rw [← HRES.out, Jq.allG, if_pos hh]
    have HE := Lib.hid (items_out hd16 HP.out (HST.out _ _ _ hst2 hg2) hs2 h2 (hFA.trans (Far.of_gb hg2 hB1)) HST.out)
    obtain ⟨_, c1, _, f1⟩ := h2.cells
    rw [e1] at c1
    clear hT hh hs2 HP hst2 hst h1 h2
    go_wp2
    go_end0
    exact HE.out
  · have hst3 := HST.out _ _ _ hst2 hg2
    have hF2 : Far B0 R w w2 := hFA.trans (Far.of_gb hg2 hB1)
    have hl2 : s2.size ≤ s1.size := by
      have := Jq.skip_len (numsOf s1)
      rw [← hs2, numsOf_length, numsOf_length] at this
      exact this
    have HP : Hid (RES = Jq.itemsG fin item (s2.size + 1) x0 (numsOf s2)) := by
      unfold Hid
      rw [← HRES.out, Jq.allG, if_neg hh, ← hs2, numsOf_length]
    have hI := HI.out x0 s2 w2 h2 hst3 (by omega)
    clear hT hh hs2 hst2 hst h1
    go_wp2_with fail
    refine hI.mono ?_
    intro e w3 hh3
    clear hI
    rcases ItemEnd.cases hh3 with ⟨y, r, s4, hres, rfl, hst4, hs4, h4, hF4⟩ | ⟨m, hres, rfl, hF4⟩
    rotate_left
    · exact ⟨rfl, ItemEnd.err (by rw [HP.out, itemsG_tail, hres]) (hF2.trans hF4)⟩
    have hcn := HCN.out _ _ _ _ (by rw [numsOf_length]; omega) hres
    rw [numsOf_length, ← hs4, numsOf_length] at hcn
    have HR0 : Hid (ItRel W R (d + 1) B0 w fin item cnt St RES w3) := ⟨s4, y, s2.size, h4, hst4, hF2.trans hF4, by omega, by omega, Lib.hid (by rw [HP.out, itemsG_tail, hres, hs4])⟩
    clear hh3 hres hst4 hs4 h4 hF4 hF2 hst3 h2 HP hcn
    go_wp2_with fail
    go_loopw [] (fun wr => ItRel W R (d + 1) B0 w fin item cnt St RES wr) (fun wr => restLen R wr)
    case atStart => exact HR0.out
    case round =>
      obtain ⟨s5, x, f, h5, hst5, hF5, hc5, hsf, hrel⟩ := hrel
      have hB5 : B0 ≤ wr.heap.size := Nat.le_trans hB0 hF5.size
      have hT := takes_any W R (d + 1) s5 _ 44 (by decide) h5
      clear HR0
      go_wp2_with fail
      refine hT.mono ?_
      rintro e w4 ⟨s6, h6, hg6, ⟨hh, rfl, hs6⟩ | ⟨hh, rfl, hs6⟩⟩
      · have hl6 : s6.size + 1 ≤ s5.size := by
          have h1 := Jq.skip_len (numsOf s5)
          have h2 := head_len hh
          have h3 := congrArg List.length hs6
          rw [List.length_drop, numsOf_length] at h3
          rw [numsOf_length] at h1
          omega
        obtain ⟨f, rfl⟩ : ∃ f', f = f' + 1 := ⟨f - 1, by omega⟩
        have HP : Hid (RES = Jq.itemsG fin item (f + 1) x (numsOf s6)) := by
          unfold Hid
          rw [hrel.out, tailG, if_pos hh, ← hs6]
        have hst6 := HST.out _ _ _ hst5 hg6
        have hF6 : Far B0 R w w4 := hF5.trans (Far.of_gb hg6 hB5)
        have hI := HI.out x s6 w4 h6 hst6 (by omega)
        have hr5 := rest_of h5
        clear hT hh hs6 hst5 hrel
        go_wp2_with fail
        refine hI.mono ?_
        intro e w5 hh5
        clear hI
        rcases ItemEnd.cases hh5 with ⟨y, r, s7, hres, rfl, hst7, hs7, h7, hF7⟩ | ⟨m, hres, rfl, hF7⟩
        rotate_left
        · exact ⟨rfl, ItemEnd.err (by rw [HP.out, itemsG_tail, hres]) (hF6.trans hF7)⟩
        have hcn := HCN.out _ _ _ _ (by rw [numsOf_length]; omega) hres
        rw [numsOf_length, ← hs7, numsOf_length] at hcn
        have HR1 : Hid (ItRel W R (d + 1) B0 w fin item cnt St RES w5) := ⟨s7, y, f, h7, hst7, hF6.trans hF7, by omega, by omega, Lib.hid (by rw [HP.out, itemsG_tail, hres, hs7])⟩
        have HM := Lib.hid (show restLen R w5 < restLen R wr by rw [hr5, rest_of h7]; omega)
        clear hh5 hres hst7 hs7 h7 hF7 hF6 hst6 h6 HP hcn hr5 h5
        go_wp2_with fail
        go_roundw
        case rel => exact HR1.out
        case measure => exact HM.out
      · have hrel2 := hrel.out.trans (tail_must hh)
        rw [← hs6] at hrel2
        have hst6 := HST.out _ _ _ hst5 hg6
        have hF6 : Far B0 R w w4 := hF5.trans (Far.of_gb hg6 hB5)
        have hM := must_any W R (d + 1) s6 w4 fin hf0 h6
        have HQ := Lib.hid hrel2
        clear hT hh hs6 hst5 hrel hrel2 h5
        go_wp2_with fail
        refine hM.mono ?_
        intro e w5 hh5
        clear hM
        rcases Ends.cases hh5 with ⟨y, r, v, s7, hres, rfl, hv, hs7, h7, hg7⟩ | ⟨m, hres, rfl, hg7⟩
        rotate_left
        · exact ⟨rfl, ItemEnd.err (by rw [HQ.out, hres]) (hF6.trans (Far.of_gb hg7 (Nat.le_trans hB5 hg6.size)))⟩
        obtain rfl : v = .tuple #[] := hv
        have hOK : RES = .ok (x, r) := by rw [HQ.out, hres]
        have HE := Lib.hid (items_out hd16 hOK (HST.out _ _ _ hst6 hg7) hs7 h7 (hF6.trans (Far.of_gb hg7 (Nat.le_trans hB5 hg6.size))) HST.out)
        obtain ⟨_, c1, _, f1⟩ := h7.cells
        rw [e1] at c1
        clear hOK hh5 hres hs7 h7 hg7 hF6 hst6 h6 HQ
        go_wp2
        go_end0
        exact HE.out
end Go.Proofs.YthklgpflaghojaaGreatDoor

/-
  A list read.
-/
namespace Go.Proofs.YthklgpflaghojaaGreatDoor
open Go.RowKit

/-- The world behind the variables of a list or an object. -/
def begun (kind : Int) (R : Nat) (w : World) : World :=
  ((w.alloc (.cells #[.pointer (some ⟨R, 0, none⟩)] 125)).alloc (.cells #[.int .i64 0, .bool false, .int .i64 0, .string { data := #[] }, .slice none 0 0, .slice none 0 0] 26)).alloc (.cells #[.int .i64 kind, .bool false, .int .i64 0, .string { data := #[] }, .slice none 0 0, .slice none 0 0] 26)
theorem begun_below (kind : Int) (R : Nat) (w : World) : Below w.heap.size w (begun kind R w) :=
  (((Below.refl _ _).alloc (Nat.le_refl _) _).alloc (by simp) _).alloc (by simp; omega) _
theorem begun_size (kind : Int) (R : Nat) (w : World) : (begun kind R w).heap.size = w.heap.size + 3 := by simp [begun]
theorem begun_box (kind : Int) {R : Nat} {w : World} (hR : R < w.heap.size) : Box kind (w.heap.size + 3) w.heap.size (w.heap.size + 1 + 1) R [] [] nilS nilS (begun kind R w) where
  box := Lies.new_ (cs := [.int .i64 kind, .bool false, .int .i64 0, .string ByteArray.empty, nilS, nilS]) (by simp)
  ptr := ((Lies.new_ (cs := [.pointer (some ⟨R, 0, none⟩)]) rfl).alloc _).alloc _
  names := World.ownsRow_nil _ _ _ _
  nlt := fun _ h => nomatch h
  rows := ⟨[], rfl, World.ownsRow_nil _ _ _ _, fun i v x h => by simp at h⟩
  apart := fun _ h => nomatch h
  size := Nat.le_of_eq (begun_size kind R w).symm
  hRV := by omega
  hRRb := by omega
  hVRb := by omega
  hV := by omega
  hRb := by omega
  hR := by omega
theorem begun_cell (kind : Int) (R : Nat) (w : World) : Lies (begun kind R w) (w.heap.size + 1) 26 zero6 :=
  (Lies.new_ (cs := zero6) (by simp)).alloc _
/-- What the variable holds is a value. -/
theorem Box.isJ {kind : Int} {B Rb V R C : Nat} {ns : List (List Nat)} {l : List Jq.J} {nv lv : Value} {w : World} (h : Box kind B Rb V R ns l nv lv w) (hk : 0 ≤ kind ∧ kind ≤ 9) (hl : l.length ≤ 4096) (hn : ns.length ≤ 4096) (hC : C ≤ B) :
    IsJ w (C ≤ ·) (jv kind false 0 ByteArray.empty nv lv) (.mk kind false 0 [] ns l) := by
  obtain ⟨vs, hvs, ho, hel⟩ := h.rows
  have e : strOf [] = ByteArray.empty := rfl
  rw [← e]
  exact .mk (by omega) (by omega) ⟨Nat.zero_le _, fun _ h => nomatch h⟩ ((own_slIs h.names).keep (fun b hb _ => ⟨Nat.le_trans hC hb, rfl⟩) (Nat.le_refl _)) (fun p hp => ⟨Nat.le_trans (h.nlt p hp).1 (by decide), (h.nlt p hp).2⟩) (by omega)
    ((own_slIs ho).keep (fun b hb _ => ⟨Nat.le_trans hC hb, rfl⟩) (Nat.le_refl _)) hvs (by omega)
    (fun i v x e1 e2 => (hel i v x e1 e2).keep (fun b hb _ => ⟨Nat.le_trans hC hb.1, rfl⟩) (Nat.le_refl _))

theorem begun_grown {kind : Int} {R : Nat} {w w1 : World} (h : Far (w.heap.size + 2) R (begun kind R w) w1) : w.grownBy w1 (some R) :=
  ((Far.of_below (begun_below kind R w)).trans (Far.mk h.os h.tape h.output h.size fun k hk hr => h.block k (by omega) hr)).gb

set_option maxHeartbeats 4000000 in
set_option maxRecDepth 100000 in
theorem listR_any (n : Nat) (hn : n + 1 ≤ 16) (hV : ∀ W R B0 B Rb V l s w, Rd W R s (16 - n) w → ListSt B0 B Rb V R l w → W.heap.size ≤ B0 → l.length + s.size ≤ 4096 → Calls Tryz.prog 139 #[.pointer (some ⟨V, 0, none⟩), .pointer (some ⟨Rb, 0, none⟩)] w fun e w' => ItemEnd W R (16 - n) B0 w (ListSt B0 B Rb V R) (Jq.itemL (Jq.value n) l (numsOf s)) e w')
    (W : World) (R : Nat) (s : ByteArray) (hs0 : 0 < s.size) (w : World) (h : Rd W R s (16 - (n + 1)) w) :
    Calls Tryz.prog 119 #[.pointer (some ⟨R, 0, none⟩)] w fun e w' => Ends W R (16 - (n + 1)) w (fun x v w' => IsJ w' (w.heap.size ≤ ·) v x) (Jq.listOf (Jq.value n) ((numsOf s).drop 1)) e w' := by
  have hmf : ∀ (fn : Fn) (first cap : Array Value) (w : World), (Instr.makeFunc fn first cap).run Tryz.prog w = .ok (.func fn first cap) w := fun _ _ _ _ => rfl
  have hsm := h.small
  have hWle := h.below.size
  have hI := itemsL_any n hn W R (w.heap.size + 2) (w.heap.size + 1 + 1) w.heap.size 93 (by decide) (Jq.itemL (Jq.value n)) List.length
    (fun l w' => ListSt (w.heap.size + 2) (w.heap.size + 3) w.heap.size (w.heap.size + 1 + 1) R l w' ∧ Lies w' (w.heap.size + 1) 26 zero6)
    (fun x s w1 h1 hst hc => (hV W R (w.heap.size + 2) _ _ _ x s w1 h1 hst.1 (by omega) hc).mono fun e w2 hh => by
      rcases ItemEnd.cases hh with ⟨y, r, s', hres, rfl, hy, hs', h2, hF⟩ | ⟨m, hres, rfl, hF⟩
      · exact ItemEnd.ok hres ⟨hy, (hF.block _ (by omega) (by have := h.lt; omega)).trans hst.2⟩ hs' h2 hF
      · exact ItemEnd.err hres hF)
    (fun x l y r hl hh => by
      rw [Jq.itemL] at hh
      cases hv : Jq.value n l with
      | error e => rw [hv] at hh; cases hh
      | ok p =>
        rw [hv] at hh
        have := (Jq.value_good n l p.1 p.2 hl hv).2
        obtain ⟨rfl, rfl⟩ : x ++ [p.1] = y ∧ p.2 = r := by simpa [Except.map] using hh
        simp
        omega)
    (fun x w1 w2 hst hg => ⟨by obtain ⟨lv, hb, h1, h2⟩ := hst.1; exact ⟨lv, hb.gb hg, h1, h2⟩, hst.2.gb hg (by have := h.lt; omega)⟩)
    [] s (by simpa using hsm) hs0 (begun 4 R w) (h.more (begun_below 4 R w)) ⟨⟨nilS, begun_box 4 h.lt, by omega, by omega⟩, begun_cell 4 R w⟩ (by rw [begun_size]; omega)
  obtain ⟨RES, eRES⟩ : ∃ RES, Jq.listOf (Jq.value n) ((numsOf s).drop 1) = RES := ⟨_, rfl⟩
  have hG := Jq.list_G (elem := Jq.value n) (Jq.value_skip n) ((numsOf s).drop 1)
  rw [eRES] at hG ⊢
  have hlen : ∀ x r, RES = .ok (Jq.listJ x, r) → x.length ≤ 4096 := fun x r e => by
    have := (Jq.listOf_ok (Jq.value_good n) (l := (numsOf s).drop 1) (by rw [List.length_drop, numsOf_length]; omega) (eRES.trans e)).1
    exact (this.1.2.2.2.2.2.2.2.2.2.2.1 (by show (4 : Int) ≤ 4; omega)).2
  obtain ⟨ALL, eALL⟩ : ∃ ALL, Jq.allG 93 (Jq.itemL (Jq.value n)) [] ((numsOf s).drop 1) = ALL := ⟨_, rfl⟩
  rw [eALL] at hI hG
  have HG := Lib.hid hG
  have HLEN := Lib.hid hlen
  have hRlt := h.lt
  have hbw := begun_below 4 R w
  unfold begun at hI
  clear eRES eALL hG hlen hV
  go_enter Tryz.func119, Tryz.ntmps119
  go_wp2_with fail
  refine hI.mono ?_
  intro e w1 hh
  clear hI
  rcases ItemEnd.cases hh with ⟨x, r, s', hres, rfl, ⟨⟨lv, hb, _, _⟩, hc⟩, hs', h2, hF⟩ | ⟨m, hres, rfl, hF⟩
  rotate_left
  · exact ⟨rfl, Ends.err (by rw [HG.out, hres]; rfl) (begun_grown hF)⟩
  have hRes : RES = .ok (Jq.listJ x, r) := by rw [HG.out, hres]; rfl
  have hg1 := begun_grown hF
  obtain ⟨A1, cap1, rfl⟩ : ∃ A1 cap1, lv = .slice A1 x.length cap1 := by
    obtain ⟨_, _, ho, _⟩ := hb.rows
    exact own_slice ho
  have hJ := hb.isJ (C := w.heap.size + 2) (by omega) (HLEN.out _ _ hRes) (Nat.zero_le _) (by omega)
  have HE : Hid (Ends W R (16 - (n + 1)) w (fun x v w' => IsJ w' (w.heap.size ≤ ·) v x) RES (.returned (jv 4 false 0 ByteArray.empty nilS (.slice A1 x.length cap1))) (put6 w1 (w.heap.size + 1) (.int .i64 4) (.bool false) (.int .i64 0) (.string ByteArray.empty) nilS (.slice A1 x.length cap1))) :=
    Ends.ok hRes ((hJ.put6 (by omega)).from (by omega)) hs' (h2.gb gb_put6 (by omega) (by omega)) (gb_new hg1 gb_put6 (by omega))
  obtain ⟨⟨a0, a1, a2, a3, a4, a5⟩, _⟩ := hb.box.six
  obtain ⟨⟨b0, b1, b2, b3, b4, b5⟩, g0, g1, g2, g3, g4, g5⟩ := hc.six
  have hz := hc.put6 (a := .int .i64 4) (b := .bool false) (c := .int .i64 0) (d := .string ByteArray.empty) (e := nilS) (f := .slice A1 x.length cap1)
  have HZ := Lib.hid hz
  clear hz hh hres hRes hJ hg1 hb hc hs' h2 hF h hbw
  go_wp2
  refine bodyPost_ret (v := jv 4 false 0 ByteArray.empty nilS (.slice A1 x.length cap1)) ?_ rfl ?_
  · have hz := HZ.out
    unfold put6 at hz
    generalize World.setCell (World.setCell (World.setCell (World.setCell (World.setCell (World.setCell w1 _ _) _ _) _ _) _ _) _ _) _ _ = w3 at hz ⊢
    obtain ⟨⟨z0, z1, z2, z3, z4, z5⟩, _⟩ := hz.six
    simp [results, Tryz.results119, go_sem, z0, z1, z2, z3, z4, z5]
  · exact HE.out
end Go.Proofs.YthklgpflaghojaaGreatDoor

/-
  An object read; and a list or an object that is too deep.
-/
namespace Go.Proofs.YthklgpflaghojaaGreatDoor
open Go.RowKit

theorem itemO_count {n : Nat} {x y : List (List Nat) × List Jq.J} {l r : List Nat} (hl : l.length ≤ 4096) (hh : Jq.itemO (Jq.value n) x l = .ok (y, r)) : y.2.length + r.length ≤ x.2.length + l.length ∧ r.length ≤ l.length := by
  rw [Jq.itemO_if] at hh
  have h0 := Jq.skip_len l
  split at hh
  · cases ht : Jq.text ((Jq.skip l).drop 1) with
    | error e => rw [ht] at hh; cases hh
    | ok p =>
      obtain ⟨t, r1⟩ := p
      rw [ht] at hh
      have h1 := (Jq.text_ok ht).2.2
      rw [List.length_drop] at h1
      simp only at hh
      split at hh
      · cases hh
      · split at hh
        · have h2 := Jq.skip_len r1
          cases hv : Jq.value n ((Jq.skip r1).drop 1) with
          | error e => rw [hv] at hh; cases hh
          | ok p =>
            rw [hv] at hh
            have h3 := (Jq.value_good n _ p.1 p.2 (by rw [List.length_drop]; omega) hv).2
            rw [List.length_drop] at h3
            obtain ⟨rfl, rfl⟩ : (x.1 ++ [t], x.2 ++ [p.1]) = y ∧ p.2 = r := by simpa [Except.map] using hh
            simp
            omega
        · cases hh
  · cases hh
set_option maxRecDepth 100000 in
set_option maxHeartbeats 1000000 in
theorem items_deep (W : World) (R : Nat) (s : ByteArray) (w : World) (h : Rd W R s 16 w) (b v : Value) :
    Calls Tryz.prog 138 #[.pointer (some ⟨R, 0, none⟩), b, v] w fun e w' => e = errEnd 55 ∧ w.grownBy w' (some R) := by
  obtain ⟨c0, c1, f0, f1⟩ := h.cells
  clear h
  go_enter Tryz.func138, Tryz.ntmps138
  go_wp2
  exact ⟨rfl, rfl, World.grownBy.refl _ _⟩
set_option maxRecDepth 100000 in
set_option maxHeartbeats 1000000 in
theorem list_deep (W : World) (R : Nat) (s : ByteArray) (w : World) (h : Rd W R s 16 w) :
    Calls Tryz.prog 119 #[.pointer (some ⟨R, 0, none⟩)] w fun e w' => e = errEnd 55 ∧ w.grownBy w' (some R) := by
  have hmf : ∀ (fn : Fn) (first cap : Array Value) (w : World), (Instr.makeFunc fn first cap).run Tryz.prog w = .ok (.func fn first cap) w := fun _ _ _ _ => rfl
  have hI := fun b v => items_deep W R s (begun 4 R w) (h.more (begun_below 4 R w)) b v
  have hg := begun_below 4 R w
  unfold begun at hI
  go_enter Tryz.func119, Tryz.ntmps119
  go_wp2_with fail
  refine (hI _ _).mono ?_
  rintro e w1 ⟨rfl, hg1⟩
  exact ⟨rfl, rfl, gb_trans (((Far.of_below (R := R) hg)).gb) hg1⟩
set_option maxRecDepth 100000 in
set_option maxHeartbeats 1000000 in
theorem object_deep (W : World) (R : Nat) (s : ByteArray) (w : World) (h : Rd W R s 16 w) :
    Calls Tryz.prog 120 #[.pointer (some ⟨R, 0, none⟩)] w fun e w' => e = errEnd 55 ∧ w.grownBy w' (some R) := by
  have hmf : ∀ (fn : Fn) (first cap : Array Value) (w : World), (Instr.makeFunc fn first cap).run Tryz.prog w = .ok (.func fn first cap) w := fun _ _ _ _ => rfl
  have hI := fun b v => items_deep W R s (begun 5 R w) (h.more (begun_below 5 R w)) b v
  have hg := begun_below 5 R w
  unfold begun at hI
  go_enter Tryz.func120, Tryz.ntmps120
  go_wp2_with fail
  refine (hI _ _).mono ?_
  rintro e w1 ⟨rfl, hg1⟩
  exact ⟨rfl, rfl, gb_trans (((Far.of_below (R := R) hg)).gb) hg1⟩

set_option maxHeartbeats 4000000 in
set_option maxRecDepth 100000 in
theorem objectR_any (n : Nat) (hn : n + 1 ≤ 16) (hV : ∀ W R B0 B Rb V p s w, Rd W R s (16 - n) w → ObjSt B0 B Rb V R p w → W.heap.size ≤ B0 → p.2.length + s.size ≤ 4096 → Calls Tryz.prog 140 #[.pointer (some ⟨V, 0, none⟩), .pointer (some ⟨Rb, 0, none⟩)] w fun e w' => ItemEnd W R (16 - n) B0 w (ObjSt B0 B Rb V R) (Jq.itemO (Jq.value n) p (numsOf s)) e w')
    (W : World) (R : Nat) (s : ByteArray) (hs0 : 0 < s.size) (w : World) (h : Rd W R s (16 - (n + 1)) w) :
    Calls Tryz.prog 120 #[.pointer (some ⟨R, 0, none⟩)] w fun e w' => Ends W R (16 - (n + 1)) w (fun x v w' => IsJ w' (w.heap.size ≤ ·) v x) (Jq.objectOf (Jq.value n) ((numsOf s).drop 1)) e w' := by
  have hmf : ∀ (fn : Fn) (first cap : Array Value) (w : World), (Instr.makeFunc fn first cap).run Tryz.prog w = .ok (.func fn first cap) w := fun _ _ _ _ => rfl
  have hsm := h.small
  have hWle := h.below.size
  have hI := itemsO_any n hn W R (w.heap.size + 2) (w.heap.size + 1 + 1) w.heap.size 125 (by decide) (Jq.itemO (Jq.value n)) (fun p => p.2.length)
    (fun l w' => ObjSt (w.heap.size + 2) (w.heap.size + 3) w.heap.size (w.heap.size + 1 + 1) R l w' ∧ Lies w' (w.heap.size + 1) 26 zero6)
    (fun x s w1 h1 hst hc => (hV W R (w.heap.size + 2) _ _ _ x s w1 h1 hst.1 (by omega) hc).mono fun e w2 hh => by
      rcases ItemEnd.cases hh with ⟨y, r, s', hres, rfl, hy, hs', h2, hF⟩ | ⟨m, hres, rfl, hF⟩
      · exact ItemEnd.ok hres ⟨hy, (hF.block _ (by omega) (by have := h.lt; omega)).trans hst.2⟩ hs' h2 hF
      · exact ItemEnd.err hres hF)
    (fun x l y r hl hh => itemO_count hl hh)
    (fun x w1 w2 hst hg => ⟨by obtain ⟨nv, lv, hb, h0, h1, h2⟩ := hst.1; exact ⟨nv, lv, hb.gb hg, h0, h1, h2⟩, hst.2.gb hg (by have := h.lt; omega)⟩)
    ([], []) s (by simpa using hsm) hs0 (begun 5 R w) (h.more (begun_below 5 R w)) ⟨⟨nilS, nilS, begun_box 5 h.lt, rfl, by omega, by omega⟩, begun_cell 5 R w⟩ (by rw [begun_size]; omega)
  obtain ⟨RES, eRES⟩ : ∃ RES, Jq.objectOf (Jq.value n) ((numsOf s).drop 1) = RES := ⟨_, rfl⟩
  have hG := Jq.object_G (elem := Jq.value n) ((numsOf s).drop 1)
  rw [eRES] at hG ⊢
  have hlen : ∀ ns x r, RES = .ok (Jq.objJ ns x, r) → x.length ≤ 4096 := fun ns x r e => by
    have := (Jq.objectOf_ok (Jq.value_good n) (l := (numsOf s).drop 1) (by rw [List.length_drop, numsOf_length]; omega) (eRES.trans e)).1
    exact (this.1.2.2.2.2.2.2.2.2.2.2.1 (by show (4 : Int) ≤ 5; omega)).2
  obtain ⟨ALL, eALL⟩ : ∃ ALL, Jq.allG 125 (Jq.itemO (Jq.value n)) ([], []) ((numsOf s).drop 1) = ALL := ⟨_, rfl⟩
  rw [eALL] at hI hG
  have HG := Lib.hid hG
  have HLEN := Lib.hid hlen
  have hRlt := h.lt
  have hbw := begun_below 5 R w
  unfold begun at hI
  clear eRES eALL hG hlen hV
  go_enter Tryz.func120, Tryz.ntmps120
  go_wp2_with fail
  refine hI.mono ?_
  intro e w1 hh
  clear hI
  rcases ItemEnd.cases hh with ⟨⟨ns, x⟩, r, s', hres, rfl, ⟨⟨nv, lv, hb, hnl, _, _⟩, hc⟩, hs', h2, hF⟩ | ⟨m, hres, rfl, hF⟩
  rotate_left
  · exact ⟨rfl, Ends.err (by rw [HG.out, hres]; rfl) (begun_grown hF)⟩
  have hRes : RES = .ok (Jq.objJ ns x, r) := by rw [HG.out, hres]; rfl
  have hg1 := begun_grown hF
  obtain ⟨A1, cap1, rfl⟩ : ∃ A1 cap1, lv = .slice A1 x.length cap1 := by
    obtain ⟨_, _, ho, _⟩ := hb.rows
    exact own_slice ho
  obtain ⟨A9, cap9, rfl⟩ : ∃ A9 cap9, nv = .slice A9 ns.length cap9 := own_slice hb.names
  have hx4 := HLEN.out _ _ _ hRes
  have hn4 : ns.length ≤ 4096 := by rw [show ns.length = x.length from hnl]; exact hx4
  have hJ := hb.isJ (C := w.heap.size + 2) (by omega) hx4 hn4 (by omega)
  have HE : Hid (Ends W R (16 - (n + 1)) w (fun x v w' => IsJ w' (w.heap.size ≤ ·) v x) RES (.returned (jv 5 false 0 ByteArray.empty (.slice A9 ns.length cap9) (.slice A1 x.length cap1))) (put6 w1 (w.heap.size + 1) (.int .i64 5) (.bool false) (.int .i64 0) (.string ByteArray.empty) (.slice A9 ns.length cap9) (.slice A1 x.length cap1))) :=
    Ends.ok hRes ((hJ.put6 (by omega)).from (by omega)) hs' (h2.gb gb_put6 (by omega) (by omega)) (gb_new hg1 gb_put6 (by omega))
  obtain ⟨⟨a0, a1, a2, a3, a4, a5⟩, _⟩ := hb.box.six
  obtain ⟨⟨b0, b1, b2, b3, b4, b5⟩, g0, g1, g2, g3, g4, g5⟩ := hc.six
  have hz := hc.put6 (a := .int .i64 5) (b := .bool false) (c := .int .i64 0) (d := .string ByteArray.empty) (e := .slice A9 ns.length cap9) (f := .slice A1 x.length cap1)
  have HZ := Lib.hid hz
  clear hz hx4 hn4 hnl hh hres hRes hJ hg1 hb hc hs' h2 hF h hbw
  go_wp2
  refine bodyPost_ret (v := jv 5 false 0 ByteArray.empty (.slice A9 ns.length cap9) (.slice A1 x.length cap1)) ?_ rfl ?_
  · have hz := HZ.out
    unfold put6 at hz
    generalize World.setCell (World.setCell (World.setCell (World.setCell (World.setCell (World.setCell w1 _ _) _ _) _ _) _ _) _ _) _ _ = w3 at hz ⊢
    obtain ⟨⟨z0, z1, z2, z3, z4, z5⟩, _⟩ := hz.six
    simp [results, Tryz.results120, go_sem, z0, z1, z2, z3, z4, z5]
  · exact HE.out
end Go.Proofs.YthklgpflaghojaaGreatDoor
