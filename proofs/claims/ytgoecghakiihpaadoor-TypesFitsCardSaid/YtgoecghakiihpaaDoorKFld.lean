/-
  Where a field stands, and of which type it is: the document's field, and the program's place, ofClaim and ofHas.
-/
import Derived.Test.YtgoecghakiihpaaDoorKVal
namespace Go.Proofs.YtgoecghakiihpaaDoor
open Go.RowKit

/-- What the document's field answers. -/
def fieldR (fs : List Tq.Fd) (s : List Nat) : Int :=
  match Tq.find fs s with
  | none => -1
  | some t => if t < 1 ∨ 4 < t then 0 else t
set_option maxHeartbeats 1000000 in
set_option maxRecDepth 100000 in
theorem refField_any {ok : Nat → Prop} (fs : List Tq.Fd) (s : List Nat) (A : Option Addr) (n c : Nat) (w : World) (hF : FsE w ok (.slice A n c) fs) (hn : fs.length = n) (hs : ∀ x ∈ s, x < 256) :
    Calls Tryd.prog 17 #[.slice A n c, .string (strOf s)] w fun e w' => w = w' ∧ e = .returned (.int .i64 (fieldR fs s)) := by
  have hns : n ≤ 9223372036854775807 := by rw [← hn]; exact hF.len
  have HF := Lib.hid hF
  have HN := Lib.hid hn
  have HS := Lib.hid hs
  obtain ⟨R, eR⟩ : ∃ R, fieldR fs s = R := ⟨_, rfl⟩
  have HR := Lib.hid eR
  rw [eR]
  clear hF hn hs eR
  go_enter Tryd.func17, Tryd.ntmps17
  go_wp2_with fail
  go_loop [5] (fun i => ∃ k : Nat, i = .int .i64 k ∧ k ≤ n ∧ Hid (NoneHas fs s k)) (fun i => n - (intOf i).toNat)
  case atStart => exact ⟨0, rfl, Nat.zero_le _, Lib.hid (NoneHas.zero _ _)⟩
  case round =>
    obtain ⟨k, rfl, hk, HNO⟩ := hrel
    by_cases hlt : k < n
    · obtain ⟨b, off, x, rfl, _, _, hx, hxn, c0, c1⟩ := HF.out.elem (i := k) (by rw [HN.out]; exact hlt)
      have hq := str_beq hxn HS.out
      by_cases he : x.name = s
      · have hd : ((strOf x.name).toList == (strOf s).toList) = true := by rw [hq]; exact decide_eq_true he
        have HE : Hid (Tq.find fs s = some x.type) := Tq.find_here HNO.out hx he
        by_cases hty : x.type < 1 ∨ 4 < x.type
        · have HQ : Hid ((.int .i64 0 : Value) = .int .i64 R) := by unfold Hid; rw [← HR.out]; unfold fieldR; rw [HE.out]; simp only; rw [if_pos hty]
          have hdd : decide (x.type < 1) = true ∨ (decide (x.type < 1) = false ∧ decide (4 < x.type) = true) := by
            by_cases h : x.type < 1
            · exact .inl (decide_eq_true h)
            · exact .inr ⟨decide_eq_false h, decide_eq_true (by omega)⟩
          clear hq he hx hxn hty HE
          rcases hdd with d1 | ⟨d1, d2⟩
          all_goals
            go_wp2
            go_ret
            exact ⟨rfl, congrArg Ending.returned HQ.out⟩
        · have HQ : Hid ((.int .i64 x.type : Value) = .int .i64 R) := by unfold Hid; rw [← HR.out]; unfold fieldR; rw [HE.out]; simp only; rw [if_neg hty]
          have d1 : decide (x.type < 1) = false := decide_eq_false (by omega)
          have d2 : decide (4 < x.type) = false := decide_eq_false (by omega)
          clear hq he hx hxn hty HE
          go_wp2
          go_ret
          exact ⟨rfl, congrArg Ending.returned HQ.out⟩
      · have hd : ((strOf x.name).toList == (strOf s).toList) = false := by rw [hq]; exact decide_eq_false he
        have HQ := Lib.hid (HNO.out.succ hx he)
        clear hq he hx hxn
        go_wp2
        go_round
        case rel => exact ⟨k + 1, by go_num, by omega, Lib.hid HQ.out⟩
        case measure => simp [intOf]; omega
    · obtain rfl : k = n := by omega
      have hd2 : decide ((k : Int) < (k : Int)) = false := by simp
      have HQ : Hid ((.int .i64 (-1) : Value) = .int .i64 R) := by unfold Hid; rw [← HR.out]; unfold fieldR; rw [NoneHas.all HN.out HNO.out]
      go_wp2
      go_ret
      exact ⟨rfl, congrArg Ending.returned HQ.out⟩

/-- Where the first field of a name stands, or -1. -/
def PlaceEnd (fs : List Tq.Fd) (s : List Nat) (w : World) (e : Ending) (w' : World) : Prop :=
  Below w.heap.size w w' ∧ ((∃ (k : Nat) (f : Tq.Fd), e = .returned (.int .i64 (k : Int)) ∧ fs[k]? = some f ∧ Tq.find fs s = some f.type) ∨ (e = .returned (.int .i64 (-1)) ∧ Tq.find fs s = none))
set_option maxHeartbeats 1000000 in
set_option maxRecDepth 100000 in
theorem isName_any (f : Tq.Fd) (s : List Nat) (N : Nat) (w : World) (hf : ∀ x ∈ f.name, x < 256) (hs : ∀ x ∈ s, x < 256) (hN : w.cell? ⟨N, 0, none⟩ = some (.string (strOf s))) :
    Calls Tryd.prog 31 #[fdv f, .pointer (some ⟨N, 0, none⟩)] w fun e w' => Below w.heap.size w w' ∧ e = .returned (.bool (decide (f.name = s))) := by
  have hq := str_beq hf hs
  have hb := below_new w (.cells #[.string (strOf f.name), .int .i64 f.type] 46)
  have hN2 : (w.alloc (.cells #[.string (strOf f.name), .int .i64 f.type] 46)).cell? ⟨N, 0, none⟩ = some (.string (strOf s)) := (hb.cell (World.block_lt_of_cell? _ _ hN)).trans hN
  have HB := Lib.hid hb
  clear hN hb hf hs
  go_enter Tryd.func31, Tryd.ntmps31
  go_wp2
  go_ret
  exact ⟨HB.out, rfl⟩
set_option maxHeartbeats 2000000 in
set_option maxRecDepth 100000 in
theorem indexF_any {ok : Nat → Prop} (fs : List Tq.Fd) (s : List Nat) (A : Option Addr) (n c N : Nat) (w : World) (hF : FsE w ok (.slice A n c) fs) (hn : fs.length = n) (hs : ∀ x ∈ s, x < 256) (hN : w.cell? ⟨N, 0, none⟩ = some (.string (strOf s))) :
    Calls Tryd.prog 30 #[.slice A n c, .func (.func 31) #[] #[.pointer (some ⟨N, 0, none⟩)]] w (PlaceEnd fs s w) := by
  have hns : n ≤ 9223372036854775807 := by rw [← hn]; exact hF.len
  have HF := Lib.hid hF
  have HN := Lib.hid hn
  have HS := Lib.hid hs
  have HC := Lib.hid hN
  clear hF hn hs hN
  go_enter Tryd.func30, Tryd.ntmps30
  go_wp2_with fail
  go_loopw [8] (fun i wr => ∃ k : Nat, i = .int .i64 k ∧ k ≤ n ∧ Hid (NoneHas fs s k) ∧ Below w.heap.size w wr) (fun i _ => n - (intOf i).toNat)
  case atStart => exact ⟨0, rfl, Nat.zero_le _, Lib.hid (NoneHas.zero _ _), Below.refl _ _⟩
  case round =>
    obtain ⟨k, rfl, hk, HNO, hb⟩ := hrel
    by_cases hlt : k < n
    · obtain ⟨b, off, x, rfl, _, _, hx, hxn, c0, c1⟩ := (HF.out.more hb).elem (i := k) (by rw [HN.out]; exact hlt)
      have hC := isName_any x s N wr hxn HS.out ((hb.cell (World.block_lt_of_cell? _ _ HC.out)).trans HC.out)
      have HX := Lib.hid hx
      have HB := Lib.hid hb
      clear hx hxn hb
      by_cases he : x.name = s
      · have hd : decide (x.name = s) = true := decide_eq_true he
        rw [hd] at hC
        have HE : Hid (Tq.find fs s = some x.type) := Tq.find_here HNO.out HX.out he
        clear hd he
        go_wp2_with fail
        refine hC.mono ?_
        rintro e w2 ⟨hb2, rfl⟩
        have HQ : Hid (PlaceEnd fs s w (.returned (.int .i64 (k : Int))) w2) := ⟨below_onZ HB.out hb2, .inl ⟨k, x, rfl, HX.out, HE.out⟩⟩
        clear hC hb2 c0 c1
        go_wp2
        go_ret
        exact HQ.out
      · have hd : decide (x.name = s) = false := decide_eq_false he
        rw [hd] at hC
        have HNE := Lib.hid (HNO.out.succ HX.out he)
        clear hd he
        go_wp2_with fail
        refine hC.mono ?_
        rintro e w2 ⟨hb2, rfl⟩
        have HQ : Hid (∃ k' : Nat, Value.int .i64 ((k + 1 : Nat) : Int) = .int .i64 k' ∧ k' ≤ n ∧ Hid (NoneHas fs s k') ∧ Below w.heap.size w w2) := ⟨k + 1, rfl, hlt, HNE, below_onZ HB.out hb2⟩
        clear hC hb2 c0 c1
        go_wp2
        go_roundw
        case rel => exact HQ.out
        case measure => simp [intOf]; omega
    · obtain rfl : k = n := by omega
      have hd2 : decide ((k : Int) < (k : Int)) = false := by simp
      have HQ : Hid (PlaceEnd fs s w (.returned (.int .i64 (-1))) wr) := ⟨hb, .inr ⟨rfl, NoneHas.all HN.out HNO.out⟩⟩
      clear hb
      go_wp2
      go_ret
      exact HQ.out
set_option maxHeartbeats 1000000 in
set_option maxRecDepth 100000 in
theorem place_any {ok : Nat → Prop} (fs : List Tq.Fd) (s : List Nat) (A : Option Addr) (n c : Nat) (w : World) (hF : FsE w ok (.slice A n c) fs) (hn : fs.length = n) (hs : ∀ x ∈ s, x < 256) :
    Calls Tryd.prog 29 #[.string (strOf s), .slice A n c] w (PlaceEnd fs s w) := by
  obtain ⟨W1, eW1⟩ : ∃ W1, W1 = w.alloc (.cells #[.string (strOf s)] 9) := ⟨_, rfl⟩
  have hb1 : Below w.heap.size w W1 := by rw [eW1]; exact below_new _ _
  have hl1 : Lies W1 w.heap.size 9 [.string (strOf s)] := by rw [eW1]; exact Lies.new_ rfl
  have hC := indexF_any fs s A n c w.heap.size W1 (hF.more hb1) hn hs (hl1.cell 0)
  have HE : Hid (∀ e w', PlaceEnd fs s W1 e w' → PlaceEnd fs s w e w') := fun e w' ⟨h1, h2⟩ => ⟨below_onZ hb1 h1, h2⟩
  have HC := Lib.hid (hC.mono HE.out)
  have hC' := HC.out
  rw [eW1] at hC'
  have hmf : ∀ (fn : Fn) (first cap : Array Value) (w : World), (Instr.makeFunc fn first cap).run Tryd.prog w = .ok (.func fn first cap) w := fun _ _ _ _ => rfl
  clear hF hn hs hb1 hl1 eW1 hC HC HE
  go_enter Tryd.func29, Tryd.ntmps29
  go_wp2_with fail
  refine hC'.mono ?_
  rintro e w2 hh
  obtain ⟨i, rfl⟩ : ∃ i : Int, e = .returned (.int .i64 i) := by
    rcases hh.2 with ⟨k, f, h, _⟩ | ⟨h, _⟩
    · exact ⟨_, h⟩
    · exact ⟨_, h⟩
  have HE := Lib.hid hh
  clear hh hC'
  go_wp2
  go_ret
  exact HE.out
/-- A type and an error. -/
abbrev typeV (p : Int × Int) : Value := .tuple #[.int .i64 p.1, .int .i64 p.2]
set_option maxHeartbeats 1000000 in
set_option maxRecDepth 100000 in
theorem ofClaim_any {ok : Nat → Prop} (fs : List Tq.Fd) (s : List Nat) (A : Option Addr) (n c : Nat) (w : World) (hF : FsE w ok (.slice A n c) fs) (hn : fs.length = n) (hs : ∀ x ∈ s, x < 256) :
    Calls Tryd.prog 23 #[.string (strOf s), .slice A n c] w fun e w' => Below w.heap.size w w' ∧ e = .returned (typeV (Tq.claimT fs s)) := by
  have hC := place_any fs s A n c w hF hn hs
  have hns : n ≤ 9223372036854775807 := by rw [← hn]; exact hF.len
  have HF := Lib.hid hF
  have HN := Lib.hid hn
  obtain ⟨P, eP⟩ : ∃ P, Tq.claimT fs s = P := ⟨_, rfl⟩
  have HP := Lib.hid eP
  rw [eP]
  clear hF hn hs eP
  go_enter Tryd.func23, Tryd.ntmps23
  go_wp2_with fail
  refine hC.mono ?_
  rintro e w2 ⟨hb, ⟨k, f, rfl, hf, he⟩ | ⟨rfl, he⟩⟩
  · have hk : k < n := by rw [← HN.out]; exact (List.getElem?_eq_some_iff.1 hf).1
    obtain ⟨b, off, x, rfl, _, _, hx, _, c0, c1⟩ := (HF.out.more hb).elem (i := k) (by rw [HN.out]; exact hk)
    rw [hf] at hx
    injection hx with hx
    subst hx
    have hd0 : decide ((k : Int) < 0) = false := decide_eq_false (by omega)
    by_cases hty : 1 ≤ f.type ∧ f.type ≤ 4
    · have HQ : Hid (P = (f.type, 0)) := by unfold Hid; rw [← HP.out]; unfold Tq.claimT; rw [he]; simp only; rw [if_pos hty]
      have HB := Lib.hid hb
      have d1 : decide (f.type < 1) = false := decide_eq_false (by omega)
      have d2 : decide (4 < f.type) = false := decide_eq_false (by omega)
      clear hC hf he hty hb
      go_wp2
      go_ret2
      exact ⟨HB.out, congrArg (fun p => Ending.returned (typeV p)) HQ.out.symm⟩
    · have HQ : Hid (P = (0, 121)) := by unfold Hid; rw [← HP.out]; unfold Tq.claimT; rw [he]; simp only; rw [if_neg hty]
      have HB := Lib.hid hb
      have hdd : decide (f.type < 1) = true ∨ (decide (f.type < 1) = false ∧ decide (4 < f.type) = true) := by
        by_cases h : f.type < 1
        · exact .inl (decide_eq_true h)
        · exact .inr ⟨decide_eq_false h, decide_eq_true (by omega)⟩
      clear hC hf he hty hb
      rcases hdd with d1 | ⟨d1, d2⟩
      all_goals
        go_wp2
        go_ret2
        exact ⟨HB.out, congrArg (fun p => Ending.returned (typeV p)) HQ.out.symm⟩
  · have HQ : Hid (P = (0, 120)) := by unfold Hid; rw [← HP.out]; unfold Tq.claimT; rw [he]
    have HB := Lib.hid hb
    clear hC he hb
    go_wp2
    go_ret2
    exact ⟨HB.out, congrArg (fun p => Ending.returned (typeV p)) HQ.out.symm⟩
set_option maxHeartbeats 1000000 in
set_option maxRecDepth 100000 in
theorem ofHas_any {ok : Nat → Prop} (fs : List Tq.Fd) (s : List Nat) (A : Option Addr) (n c : Nat) (w : World) (hF : FsE w ok (.slice A n c) fs) (hn : fs.length = n) (hs : ∀ x ∈ s, x < 256) :
    Calls Tryd.prog 24 #[.string (strOf s), .slice A n c] w fun e w' => Below w.heap.size w w' ∧ e = .returned (typeV (Tq.hasT fs s)) := by
  have hC := place_any fs s A n c w hF hn hs
  obtain ⟨P, eP⟩ : ∃ P, Tq.hasT fs s = P := ⟨_, rfl⟩
  have HP := Lib.hid eP
  rw [eP]
  clear hF hn hs eP
  go_enter Tryd.func24, Tryd.ntmps24
  go_wp2_with fail
  refine hC.mono ?_
  rintro e w2 ⟨hb, ⟨k, f, rfl, hf, he⟩ | ⟨rfl, he⟩⟩
  · have HQ : Hid (P = (3, 0)) := by unfold Hid; rw [← HP.out]; unfold Tq.hasT; rw [he]
    have hd0 : decide ((k : Int) < 0) = false := decide_eq_false (by omega)
    have HB := Lib.hid hb
    clear hC he hb hf
    go_wp2
    go_ret2
    exact ⟨HB.out, congrArg (fun p => Ending.returned (typeV p)) HQ.out.symm⟩
  · have HQ : Hid (P = (0, 120)) := by unfold Hid; rw [← HP.out]; unfold Tq.hasT; rw [he]
    have HB := Lib.hid hb
    clear hC he hb
    go_wp2
    go_ret2
    exact ⟨HB.out, congrArg (fun p => Ending.returned (typeV p)) HQ.out.symm⟩
end Go.Proofs.YtgoecghakiihpaaDoor
