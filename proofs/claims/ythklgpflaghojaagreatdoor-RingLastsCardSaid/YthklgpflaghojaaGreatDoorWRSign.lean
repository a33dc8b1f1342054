/-
  The contract of the document's Sign.
-/
import Derived.Test.YthklgpflaghojaaGreatDoorWPC
import Derived.Test.YthklgpflaghojaaGreatDoorWRSmall
import Derived.Test.YthklgpflaghojaaGreatDoorQX3
import Derived.Test.YthklgpflaghojaaGreatDoorQX2
namespace Go.Proofs.YthklgpflaghojaaGreatDoor
open Go.RowKit

theorem formOk : FormOk := fun _ lv h v x w hJ => form_any lv h v x w hJ
abbrev headB : ByteArray := { data := #[123, 34, 97, 108, 103, 34, 58, 34, 72, 83, 50, 53, 54, 34, 44, 34, 107, 105, 100, 34, 58] }
theorem head_text (k : List Nat) : headB ++ strOf (Jq.quoted k) ++ { data := #[125] } = strOf (Wq.headT k) := by
  rw [show headB = strOf [123, 34, 97, 108, 103, 34, 58, 34, 72, 83, 50, 53, 54, 34, 44, 34, 107, 105, 100, 34, 58] from rfl, show ({ data := #[125] } : ByteArray) = strOf [125] from rfl, strOf_append, strOf_append, List.append_assoc]
  rfl

set_option maxHeartbeats 2000000 in
set_option maxRecDepth 100000 in
theorem refSign_any {ok : Nat → Prop} (s : ByteArray) (x : Jq.J) (v : Value) (key : List Nat) (A : Option Addr) (c : Nat) (w : World) (hJ : IsJ w ok v x) (hk : ArgIs w A c key) (hn : key.length ≤ 140737488353000) :
    Calls Tryz.prog 10 #[.string s, v, .slice A key.length c] w (SignEnd (Wq.signP (numsOf s) x key) w) := by
  obtain ⟨A1, c1, A2, c2, rfl⟩ := hJ.form
  obtain ⟨W0, eW0⟩ : ∃ W0, W0 = w.alloc (.cells #[.int .i64 x.kind, .bool x.bool, .int .i64 x.int, .string (strOf x.text), .slice A1 x.names.length c1, .slice A2 x.list.length c2] 26) := ⟨_, rfl⟩
  have hb0 : Below w.heap.size w W0 := by rw [eW0]; exact (Below.refl _ _).alloc (Nat.le_refl _) _
  have hl0 : Lies W0 w.heap.size 26 [.int .i64 x.kind, .bool x.bool, .int .i64 x.int, .string (strOf x.text), .slice A1 x.names.length c1, .slice A2 x.list.length c2] := by rw [eW0]; exact Lies.new_ rfl
  have hP := refPrint_any formOk _ x W0 (hJ.on hb0)
  rw [eW0] at hP
  have hSg : Wq.signP (numsOf s) x key = if Wq.KidOk (numsOf s) ∧ x.kind = 5 then (Jq.valueP 16 [] x).map fun T => Wq.token (numsOf s) T key else none := rfl
  obtain ⟨RES, eRES⟩ : ∃ RES, Wq.signP (numsOf s) x key = RES := ⟨_, rfl⟩
  rw [eRES] at hSg ⊢
  have HSg := Lib.hid hSg
  have HW0 := Lib.hid eW0
  have HB0 := Lib.hid hb0
  have HK := Lib.hid hk
  have HNk := Lib.hid hn
  have HL0 := Lib.hid hl0
  have Hlen := Lib.hid (numsOf_length s)
  have HI := Lib.hid (fun W => named8_any s W)
  clear hJ hk hb0 hl0 eW0 eRES hSg hn
  go_enter Tryz.func10, Tryz.ntmps10
  go_wp2_with fail
  refine hP.mono ?_
  intro e w1 hh
  clear hP
  rw [← HW0.out] at hh
  have hres : ∃ (T : List Nat) (r : Bool), e = .returned (.tuple #[.string (strOf T), .bool r]) ∧ Below W0.heap.size W0 w1 ∧ (r = true → Jq.valueP 16 [] x = some T ∧ (∀ y ∈ T, y < 256) ∧ T.length ≤ 4096) ∧ (r = false → Jq.valueP 16 [] x = none) := by
    rcases PrintEnd.cases hh with ⟨T, hr, he, h1, h2, hb⟩ | ⟨hr, he, hb⟩
    · exact ⟨T, true, he, hb, fun _ => ⟨hr, h1, h2⟩, fun h => by cases h⟩
    · exact ⟨[], false, he, hb, fun h => (by cases h), fun _ => hr⟩
  clear hh
  obtain ⟨T, r, rfl, hb1, hyes, hno⟩ := hres
  have hbw1 := below_more HB0.out hb1
  have hl1 := HL0.out.below hb1 HL0.out.lt
  obtain ⟨⟨z0, z1, z2, z3, z4, z5⟩, _⟩ := hl1.six
  have HY := Lib.hid hyes
  have HN := Lib.hid hno
  clear hb1 hl1 hyes hno
  go_wp2_with fail
  refine (HI.out _).mono ?_
  intro e w2 hh
  obtain ⟨hw, ⟨hkid, rfl⟩ | ⟨hkid, rfl⟩⟩ := hh
  rotate_left
  · subst hw
    have HE : Hid (SignEnd RES w (.returned (.tuple #[.string ByteArray.empty, .int .i64 80])) w1) := ⟨hbw1, by rw [HSg.out, if_neg fun h => hkid h.1]⟩
    clear hkid
    go_wp2
    all_goals
      go_ret2
      exact HE.out
  subst hw
  have HKid := Lib.hid hkid
  clear hkid
  cases r with
  | false =>
    have HE : Hid (SignEnd RES w (.returned (.tuple #[.string ByteArray.empty, .int .i64 80])) w1) := ⟨hbw1, by
      rw [HSg.out]
      by_cases h5 : x.kind = 5
      · rw [if_pos ⟨HKid.out, h5⟩, HN.out rfl]; rfl
      · rw [if_neg fun h => h5 h.2]⟩
    go_wp2
    go_ret2
    exact HE.out
  | true =>
    by_cases hk5 : x.kind = 5
    rotate_left
    · have hd : (x.kind != 5) = true := by rw [bne_iff_ne]; exact hk5
      have HE : Hid (SignEnd RES w (.returned (.tuple #[.string ByteArray.empty, .int .i64 80])) w1) := ⟨hbw1, by rw [HSg.out, if_neg fun h => hk5 h.2]⟩
      clear hk5
      go_wp2
      go_ret2
      exact HE.out
    have hd : (x.kind != 5) = false := by rw [hk5]; rfl
    obtain ⟨hr, hTl, hTn⟩ := HY.out rfl
    have HR : Hid (RES = some (Wq.token (numsOf s) T key)) := by unfold Hid; rw [HSg.out, if_pos ⟨HKid.out, hk5⟩, hr]; rfl
    have hQ := refQuoted_any s (by have := HKid.out.2.1; rw [Hlen.out] at this; omega) w1
    clear hk5 hr
    have hqlen : (strOf (Jq.quoted (numsOf s))).size ≤ 152 := by
      have := Wq.headT_len HKid.out
      unfold Wq.headT at this
      rw [List.length_append, List.length_append] at this
      rw [strOf_size]
      omega
    have HHd := Lib.hid (head_text (numsOf s))
    obtain ⟨X, eX⟩ : ∃ X, strOf (Jq.quoted (numsOf s)) = X := ⟨_, rfl⟩
    rw [eX] at hQ hqlen HHd
    clear eX
    go_wp2_with fail
    refine hQ.mono ?_
    rintro e w2 ⟨rfl, hb2⟩
    clear hQ
    have hbw2 := below_more hbw1 hb2
    have hLe := letters_any (headB ++ X ++ { data := #[125] }) w2 (by
      rw [HHd.out, strOf_size]
      have := Wq.headT_len HKid.out
      omega)
    rw [HHd.out, numsOf_strOf (Wq.headT_lt HKid.out)] at hLe
    rw [← HHd.out] at hLe
    clear hb2 hbw1
    go_wp2_with fail
    refine hLe.mono ?_
    rintro e w3 ⟨rfl, hb3⟩
    clear hLe
    have hbw3 := below_more hbw2 hb3
    have hLt := letters_any (strOf T) w3 (by rw [strOf_size]; omega)
    rw [numsOf_strOf hTl] at hLt
    have hsl := Wq.signedT_len (T := T) HKid.out hTn
    have HSD := Lib.hid (strOf_dot (B64.enc (Wq.headT (numsOf s))) (B64.enc T))
    have hs1 := strOf_size (B64.enc (Wq.headT (numsOf s)))
    have hs2 := strOf_size (B64.enc T)
    have hs3 : (B64.enc (Wq.headT (numsOf s))).length + (B64.enc T).length ≤ 5666 := by
      unfold Wq.signedT at hsl
      rw [List.length_append, List.length_cons] at hsl
      omega
    rw [show B64.enc (Wq.headT (numsOf s)) ++ 46 :: B64.enc T = Wq.signedT (numsOf s) T from rfl] at HSD
    obtain ⟨Y, eY⟩ : ∃ Y, strOf (B64.enc (Wq.headT (numsOf s))) = Y := ⟨_, rfl⟩
    obtain ⟨Z, eZ⟩ : ∃ Z, strOf (B64.enc T) = Z := ⟨_, rfl⟩
    rw [eY] at hs1 HSD
    rw [eZ] at hs2 HSD hLt
    rw [eY]
    clear eY eZ hb3 hbw2
    go_wp2_with fail
    refine hLt.mono ?_
    rintro e w4 ⟨rfl, hb4⟩
    clear hLt
    have hbw4 := below_more hbw3 hb4
    have hTk : Wq.token (numsOf s) T key = Wq.signedT (numsOf s) T ++ 46 :: B64.enc (Sha.mac key (Wq.signedT (numsOf s) T)) := rfl
    rw [hTk] at HR
    have hM := refMac8_any key A c (strOf (Wq.signedT (numsOf s) T)) w4 (HK.out.below hbw4 (Nat.le_refl _)) HNk.out (by rw [strOf_size]; omega)
    rw [numsOf_strOf (Wq.signedT_lt _ _), ← HSD.out] at hM
    clear hb4 hbw3 hTk
    go_wp2_with fail
    refine hM.mono ?_
    rintro e w5 ⟨⟨A', c', rfl, hA'⟩, hb5⟩
    clear hM
    have hbw5 := below_more hbw4 hb5
    have Hl32 : Hid ((Sha.mac key (Wq.signedT (numsOf s) T)).length = 32) := Wq.mac_length _ _
    have hE := refEncode_any _ A' c' w5 hA' (by rw [Hl32.out]; decide)
    rw [Hl32.out] at hE
    have hs4 := strOf_size (B64.enc (Sha.mac key (Wq.signedT (numsOf s) T)))
    rw [B64.enc_length, Hl32.out] at hs4
    have hs4 : (strOf (B64.enc (Sha.mac key (Wq.signedT (numsOf s) T)))).size = 43 := hs4
    have HFin : Hid (Y ++ { data := #[46] } ++ Z ++ { data := #[46] } ++ strOf (B64.enc (Sha.mac key (Wq.signedT (numsOf s) T))) = strOf (Wq.signedT (numsOf s) T ++ 46 :: B64.enc (Sha.mac key (Wq.signedT (numsOf s) T)))) := by
      unfold Hid
      rw [HSD.out, strOf_dot]
    obtain ⟨V, eV⟩ : ∃ V, strOf (B64.enc (Sha.mac key (Wq.signedT (numsOf s) T))) = V := ⟨_, rfl⟩
    rw [eV] at hE hs4 HFin
    clear eV hb5 hbw4 hA'
    go_wp2_with fail
    refine hE.mono ?_
    rintro e w6 ⟨rfl, hb6⟩
    clear hE
    have hbw6 := below_more hbw5 hb6
    have HE : Hid (SignEnd RES w (.returned (.tuple #[.string (Y ++ { data := #[46] } ++ Z ++ { data := #[46] } ++ V), .int .i64 0])) w6) := ⟨hbw6, by rw [HR.out, HFin.out]⟩
    clear hb6 hbw5 hbw6
    go_wp2
    go_ret2
    exact HE.out
end Go.Proofs.YthklgpflaghojaaGreatDoor
