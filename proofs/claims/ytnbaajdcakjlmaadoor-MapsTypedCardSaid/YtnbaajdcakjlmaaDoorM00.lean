/-
  M00: JRGet, side by side.
-/
import Derived.Test.YtnbaajdcakjlmaaDoorQJ
import Derived.Test.YtnbaajdcakjlmaaDoorQI

/-
  The document's Get.
-/
namespace Go.Proofs.YtnbaajdcakjlmaaDoor
open Go.RowKit

theorem firstAt_hit {t : List Nat} {ns : List (List Nat)} {k : Nat} (hk : ns[k]? = some t) (hj : ∀ j, j < k → ns[j]? ≠ some t) : firstAt t ns = some k := by
  have h := firstAt_iff t ns
  cases hf : firstAt t ns with
  | none =>
    rw [hf] at h
    exact absurd (List.mem_of_getElem? hk) h
  | some i =>
    rw [hf] at h
    obtain ⟨h1, h2, h3⟩ := h
    rcases Nat.lt_trichotomy i k with hlt | heq | hgt
    · exact absurd h2 (hj i hlt)
    · rw [heq]
    · exact absurd hk (h3 k hgt)
theorem firstAt_miss {t : List Nat} {ns : List (List Nat)} (hj : ∀ j, j < ns.length → ns[j]? ≠ some t) : firstAt t ns = none := by
  have h := firstAt_iff t ns
  cases hf : firstAt t ns with
  | none => rfl
  | some i =>
    rw [hf] at h
    exact absurd h.2.1 (hj i h.1)
/-- How the document's Get ends. -/
def RGetEnd (ok : Nat → Prop) (res : Option Jq.J) (w : World) (e : Ending) (w' : World) : Prop := Below w.heap.size w w' ∧ match res with
  | some y => ∃ u, e = .returned (.tuple #[u, .bool true]) ∧ IsJ w' ok u y
  | none => e = .returned (.tuple #[jv 0 false 0 ByteArray.empty nilS nilS, .bool false])
theorem RGetEnd.no {ok : Nat → Prop} {res : Option Jq.J} {w w' : World} (h : res = none) (hb : Below w.heap.size w w') : RGetEnd ok res w (.returned (.tuple #[jv 0 false 0 ByteArray.empty nilS nilS, .bool false])) w' := by
  rw [h]; exact ⟨hb, rfl⟩
theorem RGetEnd.yes {ok : Nat → Prop} {res : Option Jq.J} {y : Jq.J} {u : Value} {w w' : World} (h : res = some y) (hb : Below w.heap.size w w') (hJ : IsJ w' ok u y) : RGetEnd ok res w (.returned (.tuple #[u, .bool true])) w' := by
  rw [h]; exact ⟨hb, u, rfl, hJ⟩

set_option maxHeartbeats 4000000 in
set_option maxRecDepth 100000 in
theorem refGet_any {ok : Nat → Prop} (x : Jq.J) (v : Value) (t : List Nat) (ht : ∀ y ∈ t, y < 256) (w : World) (hJ : IsJ w ok v x) :
    Calls Tryd.prog 9 #[v, .string (strOf t)] w (RGetEnd ok (getP x t) w) := by
  obtain ⟨nv, lv, rfl, _, _, _, hS, hns, hnl, hL⟩ := hJ.parts
  obtain ⟨A0, c0, rfl⟩ := hL.form
  obtain ⟨A9, c9, rfl⟩ := hS.form
  have hb0 : ∀ o o', Below w.heap.size w ((w.alloc o).alloc o') := fun o o' => ((Below.refl _ _).alloc (Nat.le_refl _) o).alloc (by simp) o'
  obtain ⟨N, eN⟩ : ∃ N, x.names.length = N := ⟨_, rfl⟩
  obtain ⟨M, eM⟩ : ∃ M, x.list.length = M := ⟨_, rfl⟩
  obtain ⟨RES, eRES⟩ : ∃ RES, getP x t = RES := ⟨_, rfl⟩
  rw [eRES]
  unfold getP at eRES
  have HE : Hid (RES = none → ∀ o o', RGetEnd ok RES w (.returned (.tuple #[jv 0 false 0 ByteArray.empty nilS nilS, .bool false])) ((w.alloc o).alloc o')) := fun e o o' => RGetEnd.no e (hb0 o o')
  have HB0 := Lib.hid hb0
  have HN := Lib.hid eN
  have HM := Lib.hid eM
  have HL := Lib.hid hL
  have HNS := Lib.hid hns
  rw [eN] at hS hnl
  have HS := Lib.hid hS
  rw [eN, eM]
  rw [eM] at HL
  rw [eN, eM] at eRES
  have hNs : N ≤ 140737488355328 := by omega
  clear hb0 hL hS hns hnl eN eM hJ
  by_cases h5 : x.kind = 5
  rotate_left
  · have d5 : (x.kind != 5) = true := by rw [bne_iff_ne]; exact h5
    have HQ := Lib.hid (HE.out (by rw [← eRES]; exact if_neg (fun e => h5 e.1)))
    clear h5 eRES
    go_enter Tryd.func9, Tryd.ntmps9
    go_wp2
    exact bodyPost_ret (by simp [results, Tryd.results9, go_sem]; rfl) rfl (HQ.out _ _)
  have d5 : (x.kind != 5) = false := by rw [h5]; rfl
  by_cases h6 : N = M
  rotate_left
  · have d6 : ((N : Int) != (M : Int)) = true := by rw [bne_iff_ne]; omega
    have HQ := Lib.hid (HE.out (by rw [← eRES]; exact if_neg (fun e => h6 e.2)))
    clear h5 h6 eRES
    go_enter Tryd.func9, Tryd.ntmps9
    go_wp2
    exact bodyPost_ret (by simp [results, Tryd.results9, go_sem]; rfl) rfl (HQ.out _ _)
  subst h6
  have d6 : ((N : Int) != (N : Int)) = false := by simp
  rw [if_pos ⟨h5, rfl⟩] at eRES
  have HR := Lib.hid eRES
  clear h5 eRES
  go_enter Tryd.func9, Tryd.ntmps9
  go_wp2_with fail
  go_loopw [6] (fun i wr => ∃ k : Nat, i = .int .i64 k ∧ k ≤ N ∧ Hid (∀ j, j < k → x.names[j]? ≠ some t) ∧ wr = (w.alloc (.cells #[.int .i64 x.kind, .bool x.bool, .int .i64 x.int, .string (strOf x.text), .slice A9 N c9, .slice A0 N c0] 27)).alloc (.cells #[.int .i64 0, .bool false, .int .i64 0, .string { data := #[] }, .slice none 0 0, .slice none 0 0] 27)) (fun i _ => N - (intOf i).toNat)
  case atStart => exact ⟨0, rfl, Nat.zero_le _, Lib.hid (fun j hj => absurd hj (Nat.not_lt_zero _)), rfl⟩
  case round =>
    obtain ⟨k, rfl, hk, hne, rfl⟩ := hrel
    by_cases hlt : k < N
    · obtain ⟨b, off, p, rfl, _, hblt, hc, hp, p0⟩ := slIs_text HS.out HN.out hlt
      have p0 := (World.cell?_of_block (a := ⟨b, off + k, none⟩) ((HB0.out (.cells #[.int .i64 x.kind, .bool x.bool, .int .i64 x.int, .string (strOf x.text), .slice (some ⟨b, off, none⟩) N c9, .slice A0 N c0] 27) (.cells #[.int .i64 0, .bool false, .int .i64 0, .string { data := #[] }, .slice none 0 0, .slice none 0 0] 27)).block b hblt)).trans p0
      have hTT := str_beq (HNS.out p (List.mem_of_getElem? hp)).2 ht
      have HP := Lib.hid hp
      clear hp hc
      by_cases heq : p = t
      · rw [decide_eq_true heq] at hTT
        obtain ⟨bl, offl, y, B1, e1, B2, e2, rfl, hbl, hbllt, hy, hJy, s0, s1, s2, s3, s4, s5⟩ := HL.out.elem (i := k) (by rw [HM.out]; exact hlt)
        have HBK : Hid (∀ o o', ((w.alloc o).alloc o').heap[bl]? = w.heap[bl]?) := fun o o' => (HB0.out o o').block bl hbllt
        have mv : ∀ (i : Nat) (v : Value) o o', w.cell? ⟨bl, i, none⟩ = some v → ((w.alloc o).alloc o').cell? ⟨bl, i, none⟩ = some v := fun i v o o' h => (World.cell?_of_block (a := ⟨bl, i, none⟩) (HBK.out o o')).trans h
        have s0 := mv _ _ (.cells #[.int .i64 x.kind, .bool x.bool, .int .i64 x.int, .string (strOf x.text), .slice (some ⟨b, off, none⟩) N c9, .slice (some ⟨bl, offl, none⟩) N c0] 27) (.cells #[.int .i64 0, .bool false, .int .i64 0, .string { data := #[] }, .slice none 0 0, .slice none 0 0] 27) s0
        have s1 := mv _ _ (.cells #[.int .i64 x.kind, .bool x.bool, .int .i64 x.int, .string (strOf x.text), .slice (some ⟨b, off, none⟩) N c9, .slice (some ⟨bl, offl, none⟩) N c0] 27) (.cells #[.int .i64 0, .bool false, .int .i64 0, .string { data := #[] }, .slice none 0 0, .slice none 0 0] 27) s1
        have s2 := mv _ _ (.cells #[.int .i64 x.kind, .bool x.bool, .int .i64 x.int, .string (strOf x.text), .slice (some ⟨b, off, none⟩) N c9, .slice (some ⟨bl, offl, none⟩) N c0] 27) (.cells #[.int .i64 0, .bool false, .int .i64 0, .string { data := #[] }, .slice none 0 0, .slice none 0 0] 27) s2
        have s3 := mv _ _ (.cells #[.int .i64 x.kind, .bool x.bool, .int .i64 x.int, .string (strOf x.text), .slice (some ⟨b, off, none⟩) N c9, .slice (some ⟨bl, offl, none⟩) N c0] 27) (.cells #[.int .i64 0, .bool false, .int .i64 0, .string { data := #[] }, .slice none 0 0, .slice none 0 0] 27) s3
        have s4 := mv _ _ (.cells #[.int .i64 x.kind, .bool x.bool, .int .i64 x.int, .string (strOf x.text), .slice (some ⟨b, off, none⟩) N c9, .slice (some ⟨bl, offl, none⟩) N c0] 27) (.cells #[.int .i64 0, .bool false, .int .i64 0, .string { data := #[] }, .slice none 0 0, .slice none 0 0] 27) s4
        have s5 := mv _ _ (.cells #[.int .i64 x.kind, .bool x.bool, .int .i64 x.int, .string (strOf x.text), .slice (some ⟨b, off, none⟩) N c9, .slice (some ⟨bl, offl, none⟩) N c0] 27) (.cells #[.int .i64 0, .bool false, .int .i64 0, .string { data := #[] }, .slice none 0 0, .slice none 0 0] 27) s5
        have HRY : Hid (RES = some y) := by
          unfold Hid
          rw [← HR.out, firstAt_hit (by rw [HP.out, heq]) hne.out]
          exact hy
        have HQ : Hid (∀ o o', RGetEnd ok RES w (.returned (.tuple #[jv y.kind y.bool y.int (strOf y.text) (.slice B1 y.names.length e1) (.slice B2 y.list.length e2), .bool true])) ((w.alloc o).alloc o')) := fun o o' => RGetEnd.yes HRY.out (HB0.out o o') (hJy.on (HB0.out o o'))
        clear heq hy hJy mv
        go_wp2
        exact bodyPost_ret (by simp [results, Tryd.results9, go_sem]) rfl (HQ.out _ _)
      · rw [decide_eq_false heq] at hTT
        have HQ : Hid (∀ j, j < k + 1 → x.names[j]? ≠ some t) := fun j hj => by
          rcases Nat.lt_or_eq_of_le (Nat.le_of_lt_succ hj) with h | h
          · exact hne.out j h
          · rw [h, HP.out]
            exact fun e => heq (Option.some.inj e)
        clear heq
        go_wp2
        go_roundw
        case rel => exact ⟨k + 1, by go_num, hlt, Lib.hid HQ.out, trivial⟩
        case measure => simp [intOf]; omega
    · obtain rfl : k = N := by omega
      have hd3 : decide ((k : Int) < (k : Int)) = false := by simp
      have HQ := Lib.hid (HE.out (by rw [← HR.out, firstAt_miss (fun j hj => hne.out j (by rw [HN.out] at hj; exact hj))]))
      clear hne
      go_wp2
      exact bodyPost_ret (by simp [results, Tryd.results9, go_sem]; rfl) rfl (HQ.out _ _)
end Go.Proofs.YtnbaajdcakjlmaaDoor
