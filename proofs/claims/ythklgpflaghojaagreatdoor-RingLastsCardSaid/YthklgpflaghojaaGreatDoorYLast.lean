/-
  The law RingLasts.
-/
import Derived.Test.YthklgpflaghojaaGreatDoorYOpn
import Derived.Test.YthklgpflaghojaaGreatDoorWRSign
import Derived.Test.YthklgpflaghojaaGreatDoorWWr
import Derived.BigQuiet
import Derived.Lib.QuietBelow
import Derived.Deep.Cut
namespace Go.Proofs.YthklgpflaghojaaGreatDoor
open Go.RowKit Go.Sort

/-- The token that a key signs. -/
theorem signs_some (id : ByteArray) (key : List Nat) (h : Kq.IdOk id) : ∃ S, Wq.signP (numsOf id) (Jq.objJ [] []) key = some S := by
  unfold Wq.signP
  rw [if_pos ⟨h, rfl⟩]
  have e : Jq.valueP 16 [] (Jq.objJ [] []) = some [123, 125] := by kernel_rfl
  rw [e]
  exact ⟨_, rfl⟩
/-- Whether some rotation has the key's name. -/
def Again (ts : List (Kq.K × Int)) (id : ByteArray) : Prop := ∃ t ∈ ts, t.1.id = id
theorem again_none (ts : List (Kq.K × Int)) (id : ByteArray) : ¬ Again (ts.take 0) id := by
  rintro ⟨x, hx, _⟩
  simp at hx
theorem again_yes {ts : List (Kq.K × Int)} {id : ByteArray} {k : Nat} {t : Kq.K × Int} (hi : ts[k]? = some t) (h : Again (ts.take k) id ∨ t.1.id = id) : Again (ts.take (k + 1)) id := by
  obtain ⟨h1, h2⟩ := List.getElem?_eq_some_iff.1 hi
  rw [List.take_succ_eq_append_getElem h1, h2]
  rcases h with ⟨x, hx, e⟩ | h
  · exact ⟨x, by simp [hx], e⟩
  · exact ⟨t, by simp, h⟩
theorem again_no {ts : List (Kq.K × Int)} {id : ByteArray} {k : Nat} {t : Kq.K × Int} (hi : ts[k]? = some t) (h : ¬ Again (ts.take k) id) (h' : t.1.id ≠ id) : ¬ Again (ts.take (k + 1)) id := by
  obtain ⟨h1, h2⟩ := List.getElem?_eq_some_iff.1 hi
  rw [List.take_succ_eq_append_getElem h1, h2]
  rintro ⟨x, hx, e⟩
  rw [List.mem_append] at hx
  rcases hx with hx | hx
  · exact h ⟨x, hx, e⟩
  · simp at hx
    subst hx
    exact h' e
theorem again_mono {ts : List (Kq.K × Int)} {id : ByteArray} {k : Nat} (h : Again (ts.take k) id) : Again (ts.take (k + 1)) id := by
  obtain ⟨x, hx, e⟩ := h
  exact ⟨x, List.take_subset_take_left ts (Nat.le_succ k) hx, e⟩
theorem again_at {ts : List (Kq.K × Int)} {id : ByteArray} {k : Nat} {t : Kq.K × Int} (hi : ts[k]? = some t) (h : ¬ Again (ts.take (k + 1)) id) : ¬ Again (ts.take k) id ∧ t.1.id ≠ id :=
  ⟨fun h' => h (again_mono h'), fun e => h (again_yes hi (.inr e))⟩
/-- The ring under way: it keeps the key, as long as no rotation has its name. -/
def LastAt (now : Int) (K0 : Kq.K) (ts : List (Kq.K × Int)) (k : Nat) (lv : Value) (w : World) : Prop :=
  ∃ m : List Kq.K, ∃ A c, lv = .slice A m.length c ∧ KsIs w (fun _ => True) lv m ∧ (¬ Again (ts.take k) K0.id → Kq.Lasts now K0 m)
theorem LastAt.on {now : Int} {K0 : Kq.K} {ts : List (Kq.K × Int)} {k : Nat} {lv : Value} {w w' : World} (h : LastAt now K0 ts k lv w) (hb : Below w.heap.size w w') : LastAt now K0 ts k lv w' := by
  obtain ⟨m, A, c, h1, h2, h3⟩ := h
  exact ⟨m, A, c, h1, h2.on hb, h3⟩
/-- What Open answers of the token, whose key the ring keeps. -/
theorem open_lasts {now : Int} {K0 : Kq.K} {m : List Kq.K} {S G : List Nat} {J : Jq.J} (h : Kq.Lasts now K0 m) (hO : Wq.openP S = .ok ⟨numsOf K0.id, J, G, Sha.mac K0.secret G⟩) : (shown (openR m S now)).2.2.2.2 = 0 ↔ Kq.Good now K0 := by
  have e : strOf (numsOf K0.id) = K0.id := strOf_numsOf _
  rcases Kq.lasts_find h with ⟨hg, hf⟩ | ⟨hg, hf⟩
  · rw [openR_ok (k := K0) hO (by simp only; rw [e]; exact hf) rfl]
    exact ⟨fun _ => hg, fun _ => rfl⟩
  · rw [openR_none hO (by simp only; rw [e]; exact hf)]
    exact ⟨fun h => by simp [shown] at h, fun h => absurd h hg⟩

set_option maxHeartbeats 1000000 in
set_option maxRecDepth 100000 in
theorem lawLasts_any {ok ok' : Nat → Prop} (x : Kq.K) (v : Value) (ts : List (Kq.K × Int)) (A : Option Addr) (c n : Nat) (now : Int) (w : World) (hH : Held w) (hT : Tab w) (h : IsK w ok v x) (hs : x.secret.length ≤ 140737488353000) (hTs : TsIs w ok' (.slice A n c) ts) (hn : ts.length = n) (hi : I64 now) :
    Calls Tryz.prog 4 #[v, .slice A n c, .int .i64 now] w (IsTrue w) := by
  obtain ⟨B, d, rfl, hS, hlt, hm1, hm2⟩ := h
  have hA0 := slIs_argIs hS hlt.2
  have hcN := hTs.len
  rw [hn] at hcN
  obtain ⟨hi1, hi2⟩ := hi
  obtain ⟨id, sec, made, ends⟩ := x
  simp only at *
  obtain ⟨W1, eW1⟩ : ∃ W1, W1 = w.alloc (.cells #[.string id, .slice B sec.length d, .int .i64 made, .int .i64 ends] 37) := ⟨_, rfl⟩
  have hb1 : Below w.heap.size w W1 := by rw [eW1]; exact below_new _ _
  have hl1 : Lies W1 w.heap.size 37 [.string id, .slice B sec.length d, .int .i64 made, .int .i64 ends] := by rw [eW1]; exact Lies.new_ rfl
  have hK1 : IsK W1 ok (kv id (.slice B sec.length d) made ends) ⟨id, sec, made, ends⟩ := IsK.on ⟨B, d, rfl, hS, hlt, hm1, hm2⟩ hb1
  have hR := rotate_any [] none 0 0 _ _ 100 W1 (KsIs.nil W1 (fun _ => True)) rfl hK1 ⟨by decide, by decide⟩
  have HTS := Lib.hid (hTs.on hb1)
  have HN := Lib.hid hn
  have HB1 := Lib.hid hb1
  have HL1 := Lib.hid hl1
  have HA1 := Lib.hid (hA0.below hb1 (Nat.le_refl _))
  have HSL := Lib.hid hs
  have HH := Lib.hid (hH.below hb1)
  have HTT := Lib.hid (hT.below hb1 hT.lt)
  have HRK := Lib.hid (fun m => @Kq.rotate_ok [] m ⟨id, sec, made, ends⟩ 100)
  have HLA := Lib.hid (fun m => @Kq.lasts_first now ⟨id, sec, made, ends⟩ 100 m)
  obtain ⟨RES, eR⟩ : ∃ RES, Kq.rotate [] ⟨id, sec, made, ends⟩ 100 = RES := ⟨_, rfl⟩
  rw [eR] at hR HRK HLA
  rw [eW1] at hR
  have HW1 := Lib.hid eW1
  clear hb1 hl1 hK1 hS hlt hA0 hH hT hTs hn hs eR eW1 hm1 hm2
  go_enter Tryz.func4, Tryz.ntmps4
  go_wp2_with fail
  refine hR.mono ?_
  intro e w2 hh
  rw [← HW1.out] at hh
  clear hR
  cases RES with
  | error N9 =>
    obtain ⟨hb2, rfl, hN9⟩ := hh
    have hne : (N9 != 0) = true := by rw [bne_iff_ne]; omega
    have hA := alive9_any w2
    have HB2 := Lib.hid (below_more HB1.out hb2)
    clear hb2 hN9
    go_wp2_with fail
    refine hA.mono ?_
    rintro e w3 ⟨rfl, hb3⟩
    have HE : Hid (IsTrue w (.returned (.bool true)) w3) := ⟨rfl, below_more HB2.out hb3⟩
    clear hA hb3 hne
    go_wp2
    go_ret
    exact HE.out
  | ok m0 =>
    obtain ⟨hb2, A2, c2, rfl, hK2⟩ := hh
    obtain ⟨hm0, _, hmx, hfit⟩ := HRK.out m0 rfl
    clear hm0
    have h0 : 0 ≤ made := hfit.2.2.1
    have hmx : made < 1099511627776 := hmx
    obtain ⟨S, eS⟩ := signs_some id sec hfit.2.1
    obtain ⟨G, hO, hS256, _, hSl, _⟩ := Wq.open_signed eS
    obtain ⟨X, eX⟩ : ∃ X, strOf S = X := ⟨_, rfl⟩
    have hXn : numsOf X = S := by rw [← eX, numsOf_strOf hS256]
    have hXs : X.size ≤ 140737488355328 := by rw [← eX, strOf_size]; omega
    have HSI : Hid (∀ W, Below w2.heap.size w2 W → Calls Tryz.prog 10 #[.string id, jv 5 false 0 ByteArray.empty (.slice none 0 0) (.slice none 0 0), .slice B sec.length d] W fun e W' => e = .returned (.tuple #[.string X, .int .i64 0]) ∧ Below W.heap.size W W') := fun W hW => by
      have := refSign_any (ok := fun _ => True) id (Jq.objJ [] []) (jv 5 false 0 ByteArray.empty (.slice none 0 0) (.slice none 0 0)) sec B d W (isJ_obj (SlIs.nil _ _) (fun _ h => nomatch h) (by decide) ⟨[], SlIs.nil _ _, rfl, by decide, fun i v x h => by simp at h⟩) ((HA1.out.below hb2 (Nat.le_refl _)).below hW (Nat.le_refl _)) HSL.out
      rw [eS] at this
      refine this.mono ?_
      rintro e W' ⟨hb, rfl⟩
      rw [eX]
      exact ⟨rfl, hb⟩
    have hl2 := HL1.out.below hb2 HL1.out.lt
    obtain ⟨⟨y0, y1, y2, y3⟩, _⟩ := hl2.four
    have k0 := cell_regrown y0
    have k1 := cell_regrown y1
    have cO : ∀ dd os, Calls Tryz.prog 11 #[.slice none 0 0, .slice none 0 0] (grow (redrawn w2 dd) os) fun e W' => e = .returned (jv 5 false 0 ByteArray.empty (.slice none 0 0) (.slice none 0 0)) ∧ ∃ r : Regrown, W' = grow (redrawn w2 r.d) r.os := fun dd os => Calls.regrown_of (refObject_any none none 0 0 0 0 _)
    have cS : ∀ dd os, Calls Tryz.prog 10 #[.string id, jv 5 false 0 ByteArray.empty (.slice none 0 0) (.slice none 0 0), .slice B sec.length d] (grow (redrawn w2 dd) os) fun e W' => e = .returned (.tuple #[.string X, .int .i64 0]) ∧ ∃ r : Regrown, W' = grow (redrawn w2 r.d) r.os := fun dd os => Calls.regrown_of (HSI.out _ (below_regrown w2 dd os))
    have HL2 := Lib.hid hl2
    have HB2 := Lib.hid (below_more HB1.out hb2)
    have HB12 := Lib.hid hb2
    have HK2 := Lib.hid hK2.any
    have HOS := Lib.hid hO
    have HXN := Lib.hid hXn
    have HXS := Lib.hid hXs
    have HL0 := Lib.hid (HLA.out m0 rfl)
    clear hb2 hK2 hl2 hfit eS hO hS256 hSl eX hXn hXs HRK HLA
    go_upto_region 4 with (fail)
    refine wp_region_quiet_below (by kernel_rfl) (by kernel_rfl) ?_
    repeat (go_big_quiet_step (first | with_reducible exact cO _ _ | with_reducible exact cS _ _))
    refine wpQuiet_nil ?_
    intro w' hw'
    obtain ⟨⟨dq, osq⟩, hw''⟩ := hw'
    subst hw''
    have hfin := below_regrown w2 dq osq
    generalize hWq : grow (redrawn w2 dq) osq = w3 at hfin ⊢
    clear cO cS k0 k1 y0 y1 y2 y3 hWq
    go_wp2_with fail
    have HB3 := Lib.hid (below_more HB2.out hfin)
    have HK3 := Lib.hid (HK2.out.on hfin)
    have HL3 := Lib.hid (HL2.out.below hfin HL2.out.lt)
    have HTS3 := Lib.hid ((HTS.out.on HB12.out).on hfin)
    have HB13 := Lib.hid (below_more HB12.out hfin)
    obtain ⟨K0, eK0⟩ : ∃ K0, Kq.newest ⟨id, sec, made, ends⟩ 100 = K0 := ⟨_, rfl⟩
    have eKid : K0.id = id := by rw [← eK0]; rfl
    have eKsec : K0.secret = sec := by rw [← eK0]; rfl
    have HG0 : Hid (Kq.Good now K0 ↔ made ≤ now ∧ now - made < min 100 (1099511627776 - made)) := by
      unfold Hid
      rw [← eK0]
      exact Kq.good_newest (k := ⟨id, sec, made, ends⟩) hmx
    rw [eK0] at HL0
    have HKI := Lib.hid eKid
    have HKS := Lib.hid eKsec
    clear hfin eK0 eKid eKsec
    go_loopw [7, 40] (fun lv i wr => ∃ k : Nat, i = .int .i64 k ∧ k ≤ n ∧ LastAt now K0 ts k lv wr ∧ Below w3.heap.size w3 wr) (fun _ i _ => n - (intOf i).toNat)
    case atStart => exact ⟨0, rfl, Nat.zero_le _, ⟨m0, A2, c2, rfl, HK3.out, fun _ => HL0.out⟩, Below.refl _ _⟩
    case round =>
      obtain ⟨k, rfl, hk, hrow, hb⟩ := hrel
      by_cases hlt : k < n
      · obtain ⟨m, A7, c7, rfl, hm, hla⟩ := hrow
        obtain ⟨b, off, t, life, A1, c1, rfl, _, ht, hK, hI, s0, s1, s2, s3, s4⟩ := (HTS3.out.on hb).elem (by rw [HN.out]; exact hlt)
        obtain ⟨W4, eW4⟩ : ∃ W4, W4 = wr.alloc (.cells #[.string t.id, .slice A1 t.secret.length c1, .int .i64 t.made, .int .i64 t.ends, .int .i64 life] 45) := ⟨_, rfl⟩
        have hb4 : Below wr.heap.size wr W4 := by rw [eW4]; exact below_new _ _
        have hl4 : Lies W4 wr.heap.size 45 [.string t.id, .slice A1 t.secret.length c1, .int .i64 t.made, .int .i64 t.ends, .int .i64 life] := by rw [eW4]; exact Lies.new_ rfl
        have hR := rotate_any m A7 c7 _ t _ life W4 (hm.on hb4) rfl (hK.on hb4) hI
        have HM := Lib.hid (hm.on hb4)
        have HLA := Lib.hid hla
        have HB4 := Lib.hid (below_more hb hb4)
        have HL4 := Lib.hid hl4
        have HAT : Hid (¬ Again (ts.take (k + 1)) K0.id → ¬ Again (ts.take k) K0.id ∧ t.id ≠ K0.id) := again_at ht
        have HON := Lib.hid (fun m' (h : Kq.Lasts now K0 m) (hr : Kq.rotate m t life = .ok m') (h1 : t.id ≠ K0.id) (h2 : t.made ≤ now) => Kq.lasts_on h hr h1 h2)
        obtain ⟨RES, eR⟩ : ∃ RES, Kq.rotate m t life = RES := ⟨_, rfl⟩
        rw [eR] at hR HON
        rw [eW4] at hR
        have HW4 := Lib.hid eW4
        clear hm hla ht hK hI hb hb4 hl4 eR eW4
        go_wp2_with fail
        refine hR.mono ?_
        intro e w5 hh
        clear hR
        rw [← HW4.out] at hh
        clear s0 s1 s2 s3 s4
        cases RES with
        | error N9 =>
          obtain ⟨hb5, rfl, hN9⟩ := hh
          have hne : (N9 == 0) = false := by rw [beq_eq_false_iff_ne]; omega
          have HQ : Hid (∃ k' : Nat, Value.int .i64 ((k + 1 : Nat) : Int) = .int .i64 k' ∧ k' ≤ n ∧ LastAt now K0 ts k' (.slice A7 m.length c7) w5 ∧ Below w3.heap.size w3 w5) := ⟨k + 1, rfl, hlt, ⟨m, A7, c7, rfl, HM.out.on hb5, fun h => HLA.out (HAT.out h).1⟩, below_more HB4.out hb5⟩
          clear hb5 hN9
          go_wp2
          go_roundw
          case rel => exact HQ.out
          case measure => simp [intOf]; omega
        | ok m' =>
          obtain ⟨hb5, A5, c5, rfl, hK5⟩ := hh
          have hl5 := HL4.out.below hb5 HL4.out.lt
          have s2 : w5.cell? ⟨wr.heap.size, 2, none⟩ = some (.int .i64 t.made) := hl5.cell 2
          by_cases hle : t.made ≤ now
          · have dle : decide (t.made ≤ now) = true := decide_eq_true hle
            have HQ : Hid (∃ k' : Nat, Value.int .i64 ((k + 1 : Nat) : Int) = .int .i64 k' ∧ k' ≤ n ∧ LastAt now K0 ts k' (.slice A5 m'.length c5) w5 ∧ Below w3.heap.size w3 w5) := ⟨k + 1, rfl, hlt, ⟨m', A5, c5, rfl, hK5.any, fun h => HON.out m' (HLA.out (HAT.out h).1) rfl (HAT.out h).2 hle⟩, below_more HB4.out hb5⟩
            clear hb5 hK5 hl5 hle
            go_wp2
            go_roundw
            case rel => exact HQ.out
            case measure => simp [intOf]; omega
          · have dle : decide (t.made ≤ now) = false := decide_eq_false hle
            have HQ : Hid (∃ k' : Nat, Value.int .i64 ((k + 1 : Nat) : Int) = .int .i64 k' ∧ k' ≤ n ∧ LastAt now K0 ts k' (.slice A7 m.length c7) w5 ∧ Below w3.heap.size w3 w5) := ⟨k + 1, rfl, hlt, ⟨m, A7, c7, rfl, HM.out.on hb5, fun h => HLA.out (HAT.out h).1⟩, below_more HB4.out hb5⟩
            clear hb5 hK5 hl5 hle
            go_wp2
            go_roundw
            case rel => exact HQ.out
            case measure => simp [intOf]; omega
      · obtain rfl : k = n := by omega
        have hd2 : decide ((k : Int) < (k : Int)) = false := by simp
        obtain ⟨m, A7, c7, rfl, hm, hla⟩ := hrow
        have hO := open9_any m A7 c7 _ X now wr ((HH.out.below HB13.out).below hb) ((HTT.out.below HB13.out HTT.out.lt).below hb (HTT.out.below HB13.out HTT.out.lt).lt) HXS.out hm rfl
        rw [HXN.out] at hO
        have HAG : Hid (¬ Again ts K0.id → ((shown (openR m S now)).2.2.2.2 = 0 ↔ Kq.Good now K0)) := fun h => open_lasts (hla (by rwa [List.take_of_length_le (by rw [HN.out]; exact Nat.le_refl _)])) (by rw [HKI.out, HKS.out]; exact HOS.out)
        obtain ⟨RES, eR⟩ : ∃ RES, openR m S now = RES := ⟨_, rfl⟩
        rw [eR] at hO HAG
        obtain ⟨⟨kb, xx, sb, q, E⟩, eT⟩ : ∃ T, shown RES = T := ⟨_, rfl⟩
        have HSh : Hid (∀ (W W' : World) (e : Ending), OpenEnd RES W e W' → Shows kb xx sb q E W e W') := fun W W' e h => by have := h.shows; rw [eT] at this; exact this
        rw [eT] at HAG
        simp only at HAG
        have HB5 := Lib.hid (below_more HB3.out hb)
        have HL5 := Lib.hid (HL3.out.below hb HL3.out.lt)
        have HTS5 := Lib.hid (HTS3.out.on hb)
        clear hm hla eR eT hb
        go_wp2_with fail
        refine hO.mono ?_
        intro e w5 hh
        clear hO
        obtain ⟨hb5, B1, B2, B3, d1, d2, d3, rfl, _, _⟩ := HSh.out _ _ _ hh
        clear hh
        obtain ⟨W6, eW6⟩ : ∃ W6, W6 = w5.alloc (.cells #[.string kb, .int .i64 xx.kind, .bool xx.bool, .int .i64 xx.int, .string (strOf xx.text), .slice B1 xx.names.length d1, .slice B2 xx.list.length d2, .string sb, .slice B3 q.length d3] 29) := ⟨_, rfl⟩
        have hb6 : Below w5.heap.size w5 W6 := by rw [eW6]; exact below_new _ _
        have hl6 := (HL5.out.below hb5 HL5.out.lt).below hb6 (HL5.out.below hb5 HL5.out.lt).lt
        have HB6 := Lib.hid (below_more (below_more HB5.out hb5) hb6)
        have HL6 := Lib.hid hl6
        have HTS6 := Lib.hid ((HTS5.out.on hb5).on hb6)
        obtain ⟨⟨y0, y1, y2, y3⟩, _⟩ := hl6.four
        obtain ⟨gd, egd⟩ : ∃ gd, decide (Kq.Good now K0) = gd := ⟨_, rfl⟩
        have HAB : Hid (¬ Again ts K0.id → ((E == 0) == gd) = true) := fun h => by
          have h1 := HAG.out h
          rw [← egd]
          by_cases hg : Kq.Good now K0
          · rw [decide_eq_true hg, h1.2 hg]; rfl
          · rw [decide_eq_false hg]
            have : (E == 0) = false := by rw [beq_eq_false_iff_ne]; exact fun h => hg (h1.1 h)
            rw [this]; rfl
        have hgd : gd = decide (made ≤ now ∧ now - made < min 100 (1099511627776 - made)) := by
          rw [← egd]
          by_cases hg : Kq.Good now K0
          · rw [decide_eq_true hg, decide_eq_true (HG0.out.1 hg)]
          · rw [decide_eq_false hg, decide_eq_false (fun h => hg (HG0.out.2 h))]
        have HGD := Lib.hid hgd
        rw [eW6] at y2
        have HW6 := Lib.hid eW6
        clear hb5 hb6 hl6 eW6 egd hgd y0 y1 y3 HAG
        obtain ⟨mn, emn⟩ : ∃ mn : Int, min 100 (1099511627776 - made) = mn := ⟨_, rfl⟩
        rw [emn] at HGD
        go_upto_region 13 with (fail)
        rw [← HW6.out]
        rw [← HW6.out] at y2
        go_cut [17] (fun g wx => g = .bool gd ∧ wx = W6)
        case first =>
          by_cases h1 : made ≤ now
          · have d1 : decide (made ≤ now) = true := decide_eq_true h1
            have hmn : (if 1099511627776 - made < 100 then 1099511627776 - made else 100) = mn := by rw [← emn]; split <;> omega
            by_cases h2 : now - made < mn
            · have d2 : decide (now - made < mn) = true := decide_eq_true h2
              have HE : Hid (true = gd) := by unfold Hid; rw [HGD.out, decide_eq_true ⟨h1, h2⟩]
              clear h2
              go_wp2_with fail
              go_meet
              exact ⟨by rw [← HE.out], rfl⟩
            · have d2 : decide (now - made < mn) = false := decide_eq_false h2
              have HE : Hid (false = gd) := by unfold Hid; rw [HGD.out, decide_eq_false (fun h => h2 h.2)]
              clear h2
              go_wp2_with fail
              go_meet
              exact ⟨by rw [← HE.out], rfl⟩
          · have d1 : decide (made ≤ now) = false := decide_eq_false h1
            have HE : Hid (false = gd) := by unfold Hid; rw [HGD.out, decide_eq_false (fun h => h1 h.1)]
            go_wp2_with fail
            go_meet
            exact ⟨by rw [← HE.out], rfl⟩
        case rest =>
          obtain ⟨e17, ewc⟩ := hcut
          subst e17
          rw [ewc]
          clear ewc y2 emn hi1 hi2
          obtain ⟨wo, ewo⟩ : ∃ wo, wr = wo := ⟨_, rfl⟩
          subst ewo
          go_wp2_with fail
          go_loopw [18, 88] (fun av i wq => ∃ j : Nat, i = .int .i64 j ∧ j ≤ k ∧ Hid ((av = .bool true ∧ Again (ts.take j) id) ∨ (av = .bool false ∧ ¬ Again (ts.take j) id)) ∧ Below W6.heap.size W6 wq) (fun _ i _ => k - (intOf i).toNat)
          case atStart => exact ⟨0, rfl, Nat.zero_le _, .inr ⟨rfl, again_none ts id⟩, Below.refl _ _⟩
          case round =>
            obtain ⟨j, rfl, hj, hag, hb⟩ := hrel
            by_cases hlt2 : j < k
            · obtain ⟨b, off, t, life, A1, c1, rfl, _, ht, _, _, s0, s1, s2, s3, s4⟩ := (HTS6.out.on hb).elem (by rw [HN.out]; exact hlt2)
              obtain ⟨W7, eW7⟩ : ∃ W7, W7 = wr.alloc (.cells #[.string t.id, .slice A1 t.secret.length c1, .int .i64 t.made, .int .i64 t.ends, .int .i64 life] 45) := ⟨_, rfl⟩
              have hb7 : Below wr.heap.size wr W7 := by rw [eW7]; exact below_new _ _
              have hl7 := (HL6.out.below hb HL6.out.lt).below hb7 (HL6.out.below hb HL6.out.lt).lt
              obtain ⟨⟨y0, _, _, _⟩, _⟩ := hl7.four
              have HT := Lib.hid ht
              have HB7 := Lib.hid (below_more hb hb7)
              rw [eW7] at y0 HB7
              have hid := Kq.id_beq t.id id
              clear ht hb hb7 hl7 eW7
              rcases hag.out with ⟨rfl, ha⟩ | ⟨rfl, ha⟩
              · have HQ : Hid ((Value.bool true = .bool true ∧ Again (ts.take (j + 1)) id) ∨ (Value.bool true = .bool false ∧ ¬ Again (ts.take (j + 1)) id)) := .inl ⟨rfl, again_mono ha⟩
                clear ha hid hag
                go_wp2
                go_roundw
                case rel => exact ⟨j + 1, by go_num, hlt2, HQ, HB7.out⟩
                case measure => simp [intOf]; omega
              · by_cases he : t.id = id
                · rw [decide_eq_true he] at hid
                  have HQ : Hid ((Value.bool true = .bool true ∧ Again (ts.take (j + 1)) id) ∨ (Value.bool true = .bool false ∧ ¬ Again (ts.take (j + 1)) id)) := .inl ⟨rfl, again_yes HT.out (.inr he)⟩
                  clear ha he hag
                  go_wp2
                  go_roundw
                  case rel => exact ⟨j + 1, by go_num, hlt2, HQ, HB7.out⟩
                  case measure => simp [intOf]; omega
                · rw [decide_eq_false he] at hid
                  have HQ : Hid ((Value.bool false = .bool true ∧ Again (ts.take (j + 1)) id) ∨ (Value.bool false = .bool false ∧ ¬ Again (ts.take (j + 1)) id)) := .inr ⟨rfl, again_no HT.out ha he⟩
                  clear ha he hag
                  go_wp2
                  go_roundw
                  case rel => exact ⟨j + 1, by go_num, hlt2, HQ, HB7.out⟩
                  case measure => simp [intOf]; omega
            · obtain rfl : j = k := by omega
              have hd3 : decide ((j : Int) < (j : Int)) = false := by simp
              have hA := alive9_any wr
              have HB8 := Lib.hid (below_more HB6.out hb)
              have hag' : (u18 = .bool true ∧ Again ts id) ∨ (u18 = .bool false ∧ ¬ Again ts id) := by
                have := hag.out
                rwa [List.take_of_length_le (by rw [HN.out]; exact Nat.le_refl _)] at this
              rcases hag' with ⟨rfl, ha⟩ | ⟨rfl, ha⟩
              · clear ha hag hb
                go_wp2_with fail
                refine hA.mono ?_
                rintro e w9 ⟨rfl, hb9⟩
                have HE : Hid (IsTrue w (.returned (.bool true)) w9) := ⟨rfl, below_more HB8.out hb9⟩
                clear hA hb9
                go_wp2
                go_ret
                exact HE.out
              · have hEg := HAB.out (by rw [HKI.out]; exact ha)
                clear ha hag hb
                go_wp2_with fail
                refine hA.mono ?_
                rintro e w9 ⟨rfl, hb9⟩
                have HE : Hid (IsTrue w (.returned (.bool true)) w9) := ⟨rfl, below_more HB8.out hb9⟩
                clear hA hb9
                go_wp2
                go_ret
                exact HE.out
end Go.Proofs.YthklgpflaghojaaGreatDoor
