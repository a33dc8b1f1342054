/-
  The contracts of With and of the document's With.
-/
import Derived.Test.YtejmkijnngkoaaaDoorUConcat
import Derived.Test.YtejmkijnngkoaaaDoorURefParse2
namespace Go.Proofs.YtejmkijnngkoaaaDoor
open Go.RowKit

/-- What With answers. -/
def WithEnd (H P : ByteArray) (n : Nat) (L : List (List Nat × List Nat)) (w : World) (e : Ending) (w' : World) : Prop :=
  ∃ (A : Option Addr) (c : Nat), e = .returned (uval H P A n c) ∧ Row w' A (pcells L) ∧ Below w.heap.size w w' ∧ Fresh w A

set_option maxHeartbeats 1000000 in
set_option maxRecDepth 100000 in
theorem with_any (H P : ByteArray) (L M : List (List Nat × List Nat)) (A B : Option Addr) (n m c d : Nat) (w : World) (hn : L.length = n) (hm : M.length = m) (hA : Row w A (pcells L)) (hB : Row w B (pcells M)) (hnm : n + m ≤ 4194304) :
    Calls Tryd.prog 15 #[uval H P A n c, .slice B m d] w fun e w' => WithEnd H P (n + m) (L ++ M) w e w' := by
  have hL0 := Lies.made w 24 [.string H, .string P, .slice A n c]
  have hs1 : (w.alloc (.cells #[.string H, .string P, .slice A n c] 24)).heap.size = w.heap.size + 1 := by simp
  have hL1 := Lies.new_ (w := w.alloc (.cells #[.string H, .string P, .slice A n c] 24)) (g := w.heap.size + 1) (t := 24) (cs := [.string ByteArray.empty, .string ByteArray.empty, .slice none 0 0]) hs1.symm
  have hL2 := Lies.new_ (w := (w.alloc (.cells #[.string H, .string P, .slice A n c] 24)).alloc (.cells #[.string ByteArray.empty, .string ByteArray.empty, .slice none 0 0] 24)) (g := w.heap.size + 2) (t := 22) (cs := [.slice A n c, .slice B m d]) (by simp)
  have hC := concat_any L M A B n m c d _ _ _ hn hm (((hA.alloc _).alloc _).alloc _) (((hB.alloc _).alloc _).alloc _) hnm hL2
  clear hn hm hA hB hs1
  go_enter Tryd.func15, Tryd.ntmps15
  go_wp2_with fail
  refine hC.mono ?_
  rintro e w3 ⟨A', c', rfl, hrow, hb3, hfr⟩
  clear hC
  have hl0 := ((hL0.alloc (.cells #[.string ByteArray.empty, .string ByteArray.empty, .slice none 0 0] 24)).alloc (.cells #[.slice A n c, .slice B m d] 22)).below hb3 (by simp; omega)
  have hl1 := (hL1.alloc (.cells #[.slice A n c, .slice B m d] 22)).below hb3 (by simp)
  have hbw : Below w.heap.size w w3 := ((((Below.refl _ _).alloc (Nat.le_refl _) (.cells #[.string H, .string P, .slice A n c] 24)).alloc (by simp) (.cells #[.string ByteArray.empty, .string ByteArray.empty, .slice none 0 0] 24)).alloc (by simp; omega) (.cells #[.slice A n c, .slice B m d] 22)).trans (hb3.mono (by simp; omega))
  have hf : ∀ b off, A' = some ⟨b, off, none⟩ → w.heap.size + 3 ≤ b := fun b off e => by
    have h1 := hfr b off e
    simp at h1
    omega
  obtain ⟨j0, j1, j2, _, _, g2⟩ := keep3 hl0 (Below.refl _ _)
  obtain ⟨k0, k1, k2, f0, f1, f2⟩ := keep3 hl1 (Below.refl _ _)
  have hne1 : ¬ w.heap.size + 1 = w.heap.size := by omega
  have hne2 : ¬ w.heap.size = w.heap.size + 1 := by omega
  obtain ⟨q0, q1, q2⟩ := three_put (hl1.far (p := ⟨w.heap.size, 2, none⟩) hne1 (.slice A' (n + m) c')) (.string H) (.string P) (.slice A' (n + m) c')
  have hrow8 := row_three (row_put hrow (p := ⟨w.heap.size, 2, none⟩) (fun b off e _ => by have := hf b off e; show b ≠ w.heap.size; omega) (.slice A' (n + m) c')) (g := w.heap.size + 1) (fun b off e _ => by have := hf b off e; omega) (.string H) (.string P) (.slice A' (n + m) c')
  have hbf := (((hbw.setCell (p := ⟨w.heap.size, 2, none⟩) (Nat.le_refl _) (.slice A' (n + m) c')).setCell (p := ⟨w.heap.size + 1, 0, none⟩) (Nat.le_succ _) (.string H)).setCell (p := ⟨w.heap.size + 1, 1, none⟩) (Nat.le_succ _) (.string P)).setCell (p := ⟨w.heap.size + 1, 2, none⟩) (Nat.le_succ _) (.slice A' (n + m) c')
  have HR := Lib.hid hrow8
  have HB := Lib.hid hbf
  have HF : Hid (Fresh w A') := fun b off e => by have := hf b off e; omega
  clear hrow hb3 hfr hl0 hl1 hbw hf hrow8 hbf hL0 hL1 hL2
  go_wp2
  exact bodyPost_ret (v := uval H P A' (n + m) c') (by simp [results, Tryd.results15, go_sem, q0, q1, q2]) rfl ⟨A', c', rfl, HR.out, HB.out, HF.out⟩
/-- An empty row that was just made. -/
theorem own_empty {W : World} {g base : Nat} {e : TypeId} (hg : g = W.heap.size) (hb : base ≤ g) : (W.alloc (.cells #[] e)).ownsRow base e 2 (.slice (some ⟨g, 0, none⟩) 0 0) 0 [] := by
  subst hg
  exact ⟨rfl, .inr ⟨W.heap.size, 0, #[], rfl, hb, heap_alloc_new W _, Nat.le_refl _, Nat.zero_le _, rfl, rfl⟩⟩

set_option maxHeartbeats 1000000 in
set_option maxRecDepth 100000 in
theorem refWith_any (H P : ByteArray) (L M : List (List Nat × List Nat)) (A B : Option Addr) (n m c d : Nat) (w : World) (hn : L.length = n) (hm : M.length = m) (hA : Row w A (pcells L)) (hB : Row w B (pcells M)) (hnm : n + m ≤ 4194304) :
    Calls Tryd.prog 16 #[uval H P A n c, .slice B m d] w fun e w' => WithEnd H P (n + m) (L ++ M) w e w' := by
  have hL0 := Lies.made w 24 [.string H, .string P, .slice A n c]
  have hs1 : (w.alloc (.cells #[.string H, .string P, .slice A n c] 24)).heap.size = w.heap.size + 1 := by simp
  have hL1 := Lies.new_ (w := w.alloc (.cells #[.string H, .string P, .slice A n c] 24)) (g := w.heap.size + 1) (t := 24) (cs := [.string ByteArray.empty, .string ByteArray.empty, .slice none 0 0]) hs1.symm
  have Hn := Lib.hid hn
  have Hm := Lib.hid hm
  clear hn hm hs1
  go_enter Tryd.func16, Tryd.ntmps16
  repeat ((fail_if_success (with_reducible show wpList _ _ _ (⟨some 9, _, _, _, _, _⟩ :: _) _ _)); first | go_values | go_skip | go_guarded | go_step | go_upon | go_back | go_simp)
  have hO := own_empty (W := (w.alloc (.cells #[.string H, .string P, .slice A n c] 24)).alloc (.cells #[.string { data := #[] }, .string { data := #[] }, .slice none 0 0] 24)) (g := w.heap.size + 1 + 1) (base := w.heap.size + 2) (e := 34) (by simp) (Nat.le_refl _)
  with_reducible refine append_pairs rfl (.tmp 6) (.tmp 8) rfl (w.heap.size + 2) _ 0 n [] A c L ?s0 hO (((hA.alloc _).alloc _).alloc _) ?s1 ?s2 ?s3 ?s4 ?_
  case s0 => exact Hn.out
  case s1 => rfl
  case s2 => rfl
  case s3 => omega
  case s4 => simp
  intro v2 w2 hown2 hgr2
  rw [Nat.zero_add, List.nil_append] at hown2
  have hbm : Below w.heap.size w (((w.alloc (.cells #[.string H, .string P, .slice A n c] 24)).alloc (.cells #[.string { data := #[] }, .string { data := #[] }, .slice none 0 0] 24)).alloc (.cells #[] 34)) := (((Below.refl _ _).alloc (Nat.le_refl _) _).alloc (by simp) _).alloc (by simp; omega) _
  have hbx : Below (w.heap.size + 2) (((w.alloc (.cells #[.string H, .string P, .slice A n c] 24)).alloc (.cells #[.string { data := #[] }, .string { data := #[] }, .slice none 0 0] 24)).alloc (.cells #[] 34)) w2 := (Below.refl _ _).grown hgr2 (by simp) (own_ge hO)
  have hl0 := ((hL0.alloc (.cells #[.string { data := #[] }, .string { data := #[] }, .slice none 0 0] 24)).alloc (.cells #[] 34)).below hbx (by omega)
  have hl1 := (hL1.alloc (.cells #[] 34)).below hbx (by omega)
  have hb2 := hbm.trans (hbx.mono (by omega))
  have hB2 := hB.below hb2 (Nat.le_refl _)
  have hs2 : w.heap.size + 2 ≤ w2.heap.size := by have := hbx.size; simp at this; omega
  obtain ⟨k0, k1, k2, f0, f1, f2⟩ := keep3 hl0 (Below.refl _ _)
  clear hO hgr2 hbm hbx hL0 hL1 hA hB
  go_frame
  repeat ((fail_if_success (with_reducible show wpList _ _ _ (⟨some 12, _, _, _, _, _⟩ :: _) _ _)); first | go_values | go_skip | go_guarded | go_step | go_upon | go_back | go_simp)
  with_reducible refine append_pairs rfl (.tmp 10) (.tmp 11) rfl (w.heap.size + 2) _ n m _ B d M ?t0 hown2 hB2 ?t1 ?t2 ?t3 ?t4 ?_
  case t0 => exact Hm.out
  case t1 => rfl
  case t2 => rfl
  case t3 => omega
  case t4 => exact hs2
  intro v3 w3 hown3 hgr3
  have hbx : Below (w.heap.size + 2) w2 w3 := (Below.refl _ _).grown hgr3 hs2 (own_ge hown2)
  have hbw := hb2.trans (hbx.mono (by omega))
  have hl0' := hl0.below hbx (by omega)
  have hl1' := hl1.below hbx (by omega)
  have hge := own_ge hown3
  obtain ⟨A', c', rfl⟩ := own_slice hown3
  have hrow := Row.own hown3
  rw [← pcells_append] at hrow
  have hf : ∀ b off, A' = some ⟨b, off, none⟩ → w.heap.size + 2 ≤ b := fun b off e => hge b (by rw [e]; rfl)
  clear hge hown3 hgr3 hbx hown2 hb2 hB2 hl0 hl1 k0 k1 k2 f0 f1 f2
  obtain ⟨j0, j1, j2, _, _, g2⟩ := keep3 hl0' (Below.refl _ _)
  obtain ⟨k0, k1, k2, f0, f1, f2⟩ := keep3 hl1' (Below.refl _ _)
  have hne1 : ¬ w.heap.size + 1 = w.heap.size := by omega
  have hne2 : ¬ w.heap.size = w.heap.size + 1 := by omega
  obtain ⟨q0, q1, q2⟩ := three_put (hl1'.far (p := ⟨w.heap.size, 2, none⟩) hne1 (.slice A' (n + m) c')) (.string H) (.string P) (.slice A' (n + m) c')
  have hrow8 := row_three (row_put hrow (p := ⟨w.heap.size, 2, none⟩) (fun b off e _ => by have := hf b off e; show b ≠ w.heap.size; omega) (.slice A' (n + m) c')) (g := w.heap.size + 1) (fun b off e _ => by have := hf b off e; omega) (.string H) (.string P) (.slice A' (n + m) c')
  have hbf := (((hbw.setCell (p := ⟨w.heap.size, 2, none⟩) (Nat.le_refl _) (.slice A' (n + m) c')).setCell (p := ⟨w.heap.size + 1, 0, none⟩) (Nat.le_succ _) (.string H)).setCell (p := ⟨w.heap.size + 1, 1, none⟩) (Nat.le_succ _) (.string P)).setCell (p := ⟨w.heap.size + 1, 2, none⟩) (Nat.le_succ _) (.slice A' (n + m) c')
  have HR := Lib.hid hrow8
  have HB := Lib.hid hbf
  have HF : Hid (Fresh w A') := fun b off e => by have := hf b off e; omega
  clear hrow hl0' hl1' hbw hf hrow8 hbf
  go_frame
  go_wp2
  exact bodyPost_ret (v := uval H P A' (n + m) c') (by simp [results, Tryd.results16, go_sem, q0, q1, q2]) rfl ⟨A', c', rfl, HR.out, HB.out, HF.out⟩
end Go.Proofs.YtejmkijnngkoaaaDoor
