/-
  The walk of the law DigestKeeps.
-/
import Derived.Test.YtkfhfokeoieajaaDoorLawKeysLong
import Derived.Test.YtkfhfokeoieajaaDoorLawSame
namespace Go.Proofs.YtkfhfokeoieajaaDoor
open Go.RowKit Go.Sort

theorem hash_below {w w' : World} {g : Nat} {p : List Nat} (h : HashIs w g p) (hb : Below w.heap.size w w') : HashIs w' g p := by
  obtain ⟨rest, hL, r⟩ := h
  exact ⟨rest, hL.below hb hL.lt, r⟩
theorem hash_far {w : World} {g : Nat} {p : List Nat} {a : Addr} (h : HashIs w g p) (hg : g ≠ a.block) (u : Value) : HashIs (w.setCell a u) g p := by
  obtain ⟨rest, hL, r⟩ := h
  exact ⟨rest, hL.far hg u, r⟩
theorem hash_alloc {w : World} {g : Nat} {p : List Nat} (h : HashIs w g p) (o : Obj) : HashIs (w.alloc o) g p := by
  obtain ⟨rest, hL, r⟩ := h
  exact ⟨rest, hL.alloc o, r⟩
theorem hash_farRow {w : World} {g g' : Nat} {p : List Nat} {a : Array Value} (h : HashIs w g p) (hg : g' ≠ g) : HashIs (w.setRow g' a) g p := by
  obtain ⟨rest, hL, r⟩ := h
  exact ⟨rest, hL.farRow hg, r⟩
theorem hash_drew {w : World} {g : Nat} {p : List Nat} (h : HashIs w g p) : HashIs w.drew g p := h
theorem hash_lt {w : World} {g : Nat} {p : List Nat} (h : HashIs w g p) : g < w.heap.size := by
  obtain ⟨rest, hL, _⟩ := h
  exact hL.lt
theorem own_addr {w : World} {base n c : Nat} {A : Option Addr} {e : TypeId} {size : Nat} {xs : List Value} (h : w.ownsRow base e size (.slice A n c) n xs) (hn : 0 < n) : ∃ g, A = some ⟨g, 0, none⟩ ∧ base ≤ g := by
  rcases h.2 with ⟨_, h0⟩ | ⟨g, cap, cur, e1, hg, _⟩
  · omega
  · exact ⟨g, congrArg (fun v => match v with | Value.slice a _ _ => a | _ => none) e1, hg⟩
theorem slice_of_own {w : World} {base g c : Nat} {A : Option Addr} {q : List Nat} {n : Nat} (h : w.ownsRow base 5 1 (.slice A n c) n (u8s q)) (hq : ∀ x ∈ q, x < 256) (hg : g < base) : SliceIs w g A c q := by
  obtain ⟨hl, ha⟩ := own_arg h hq
  refine ⟨ha.1, ha.2.1, ha.2.2.1, fun hp => ?_⟩
  obtain ⟨b, off, rfl, hb, hby⟩ := ha.2.2.2 hp
  obtain ⟨g', e, hg'⟩ := own_addr h (by omega)
  have : b = g' := by simpa using congrArg (fun a => match a with | some (x : Addr) => x.block | none => 0) e
  exact ⟨b, off, rfl, by omega, hb, hby⟩
theorem u8s_set (X : List Nat) (j y : Nat) : (u8s X).set j (.int .u8 (y : Int)) = u8s (X.set j y) := by simp [u8s, List.map_set]

set_option maxHeartbeats 600000 in
set_option maxRecDepth 100000 in
theorem lawKeeps (k q : List Nat) (A A' : Option Addr) (c c' : Nat) (w : World) (hT : Tab w) (hk : ArgIs w A c k) (hq : ArgIs w A' c' q) (hn : k.length ≤ 140737488351232) (hn' : q.length ≤ 140737488351232) :
    Calls Tryd.prog 8 #[.slice A k.length c, .slice A' q.length c'] w fun e w' => e = .returned (.bool true) ∧ Below w.heap.size w w' := by
  have hz := zero25
  have V1 : ∀ W, Below w.heap.size w W → (convert 22 9 (.slice A k.length c)).run Tryd.prog W = .ok (.string (strOf k)) W :=
    fun W hW => conv_any (hk.below hW (Nat.le_refl _)) _ 5 _ Tryd.underlying22 Tryd.underlying5 Tryd.underlying9
  have V2 : ∀ W, Below w.heap.size w W → (convert 22 9 (.slice A' q.length c')).run Tryd.prog W = .ok (.string (strOf q)) W :=
    fun W hW => conv_any (hq.below hW (Nat.le_refl _)) _ 5 _ Tryd.underlying22 Tryd.underlying5 Tryd.underlying9
  have cM : ∀ W, Below w.heap.size w W → Calls Tryd.prog 12 #[.slice A k.length c, .slice A' q.length c'] W fun e w' => e = .returned (.agg (u8s (Sha.mac k q)).toArray) ∧ Below W.heap.size W w' := fun W hW =>
    mac_any k q A A' c c' W (hT.below hW hT.lt) (hk.below hW (Nat.le_refl _)) (hq.below hW (Nat.le_refl _)) (by omega) (by omega)
  have cR : ∀ W, Below w.heap.size w W → Calls Tryd.prog 11 #[.slice A' q.length c'] W fun e w' => e = .returned (.agg (u8s (Sha.sum q)).toArray) ∧ Below W.heap.size W w' := fun W hW =>
    refSum_any q A' c' W (hq.below hW (Nat.le_refl _)) (by omega)
  have cH : ∀ g W, HashIs W g q → Below w.heap.size w W → Calls Tryd.prog 17 #[.pointer (some ⟨g, 0, none⟩)] W fun e w' => e = .returned (.agg (u8s (Sha.sum q)).toArray) ∧ Below W.heap.size W w' := fun g W hH hW =>
    hashSum_any g q W (hT.below hW hT.lt) hH (by omega)
  have cW : ∀ g A8 c8 W, HashIs W g [] → SliceIs W g A8 c8 q → w.heap.size ≤ g → Below w.heap.size w W → Calls Tryd.prog 16 #[.pointer (some ⟨g, 0, none⟩), .slice A8 q.length c8] W fun e w' => e = .returned (.tuple #[]) ∧ HashIs w' g q ∧ W.grownBy w' (some g) := fun g A8 c8 W hH hS hg hW =>
    write_any g [] q A8 c8 W (hT.below hW hT.lt) hH hS (by have := hT.lt; omega) (by simp; omega)
  obtain ⟨s, hs⟩ : ∃ s, strOf k = s := ⟨_, rfl⟩
  obtain ⟨t, ht⟩ : ∃ t, strOf q = t := ⟨_, rfl⟩
  obtain ⟨l, hl⟩ : ∃ l, k.length = l := ⟨_, rfl⟩
  obtain ⟨n, hn2⟩ : ∃ n, q.length = n := ⟨_, rfl⟩
  rw [hs, hl] at V1
  rw [ht, hn2] at V2
  rw [hl, hn2] at cM ⊢
  rw [hn2] at cR cW hn'
  have Hn := Lib.hid hn2
  have CM := Lib.hid cM
  have CR := Lib.hid cR
  have CH := Lib.hid cH
  have CW := Lib.hid cW
  have HV1 := Lib.hid V1
  have HV2 := Lib.hid V2
  have Hqlt := Lib.hid hq.2.2.1
  have v1 : ∀ d os, (convert 22 9 (.slice A l c)).run Tryd.prog (grow (redrawn w d) os) = .ok (.string s) (grow (redrawn w d) os) := fun d os => V1 _ (below_regrown w d os)
  have v2 : ∀ d os, (convert 22 9 (.slice A' n c')).run Tryd.prog (grow (redrawn w d) os) = .ok (.string t) (grow (redrawn w d) os) := fun d os => V2 _ (below_regrown w d os)
  clear hs ht hl hn2 cM cR cH cW V1 V2 hk hn
  go_enter Tryd.func8, Tryd.ntmps8
  go_upto_region 1 with (fail)
  refine wp_region_quiet_below (by kernel_rfl) (by kernel_rfl) ?_
  repeat (quiet_step (fail))
  refine wpQuiet_nil ?_
  intro w1 hw1
  have hb1 : Below w.heap.size w w1 := by
    obtain ⟨⟨dq, osq⟩, hw''⟩ := hw1
    rw [hw'']
    exact below_regrown w dq osq
  clear hw1 v1 v2
  go_wp2_with fail
  refine (new_any w1).mono ?_
  rintro e w2 ⟨g, rfl, hg, hL2, hb2⟩
  have hH2 := hash_new hL2
  have hbw2 : Below w.heap.size w w2 := hb1.trans (hb2.mono hb1.size)
  have hgw : w.heap.size ≤ g := by have := hb1.size; omega
  clear hL2 hb2 hg hb1
  go_wp2_with fail
  refine (CM.out w2 hbw2).mono ?_
  rintro e w3 ⟨rfl, hb3⟩
  have hH3 := hash_below hH2 hb3
  have hbw3 : Below w.heap.size w w3 := hbw2.trans (hb3.mono hbw2.size)
  have hg3 := hash_lt hH3
  clear hH2 hbw2 hb3 CM
  have hempty : (w3.alloc (.cells #[] 5)).ownsRow w3.heap.size 5 1 (.slice (some ⟨w3.heap.size, 0, none⟩) 0 0) 0 [] := ⟨rfl, .inr ⟨w3.heap.size, 0, #[], rfl, Nat.le_refl _, heap_alloc_new _ _, Nat.le_refl _, by decide, rfl, rfl⟩⟩
  go_upto_region 6 with (fail)
  repeat ((fail_if_success (with_reducible show wpList _ _ _ (⟨some 23, _, _, _, _, _⟩ :: _) _ _)); first | go_values | go_skip | go_guarded | go_step | go_upon | go_back | go_simp)
  with_reducible refine append_arg rfl (.tmp 21) (.tmp 22) rfl w3.heap.size (.slice (some ⟨w3.heap.size, 0, none⟩) 0 0) 0 [] A' c' q hempty ((hq.below hbw3 (Nat.le_refl _)).alloc _) ?s1 ?s2 ?s3 ?s4 ?_
  case s1 => rfl
  case s2 => rw [Hn.out]; rfl
  case s3 => rw [Hn.out]; omega
  case s4 => simp
  intro v8 w4 hown8 hgr4
  rw [List.nil_append, Nat.zero_add, Hn.out] at hown8
  have hb4 : Below w3.heap.size w3 w4 := ((Below.refl _ _).alloc (Nat.le_refl _) _).grown hgr4 (by simp) (own_u8_ge hempty)
  have hH4 := hash_below hH3 hb4
  have hbw4 : Below w.heap.size w w4 := hbw3.trans (hb4.mono hbw3.size)
  obtain ⟨A8, c8, rfl⟩ := own_slice hown8
  have hsl := slice_of_own hown8 Hqlt.out hg3
  clear hempty hgr4 hH3
  go_frame
  go_wp2_with fail
  refine (CW.out g A8 c8 w4 hH4 hsl hgw hbw4).mono ?_
  rintro e w5 ⟨rfl, hH5, hgr5⟩
  have hown5 := hown8.kept hgr5 (by
    rcases hv : (Value.slice A8 n c8).ownBlock with _ | b
    · exact .inl rfl
    · have := (hown8.lt b hv).1
      exact .inr (fun e => by injection e with e; omega))
  have hbw5 : Below w.heap.size w w5 := hbw4.grown hgr5 hbw4.size (fun b e => by injection e with e; omega)
  clear hH4 hgr5 hown8 hsl hbw4 hb4 CW hq
  go_wp2_with fail
  go_loopw [29] (fun i wr => ∃ (j : Nat) (X : List Nat), j ≤ n ∧ i = .int .i64 j ∧ X.length = n ∧ (∀ x ∈ X, x < 256) ∧ wr.ownsRow w3.heap.size 5 1 (.slice A8 n c8) n (u8s X) ∧ HashIs wr g q ∧ Below w.heap.size w wr) (fun i _ => n - (intOf i).toNat)
  case atStart => exact ⟨0, q, Nat.zero_le _, rfl, Hn.out, Hqlt.out, hown5, hH5, hbw5⟩
  case round =>
    clear hown5 hH5 hbw5
    obtain ⟨j, X, hj, rfl, hX, hXlt, hown, hH, hb⟩ := hrel
    by_cases hlt : j < n
    · have hd : decide ((j : Int) < (n : Int)) = true := by simp; omega
      obtain ⟨g8, rfl, hg8⟩ := own_addr hown (by omega)
      have hx := getD_lt256 X j hXlt (by omega)
      have hc := hown.cellAt j (by omega)
      have hf := hown.frozenAt j
      have Hst := fun u => hown.stored j u
      rw [u8s_at X (by omega)] at hc
      obtain ⟨x, ex⟩ : ∃ x, X.getD j 0 = x := ⟨_, rfl⟩
      rw [ex] at hx hc
      have q255 : bits .xor .u8 (x : Int) 255 = ((x ^^^ 255 : Nat) : Int) := u8_xor_nat x 255 hx (by decide)
      have l255 : x ^^^ 255 < 256 := Nat.xor_lt_two_pow (n := 8) hx (by decide)
      have HS := Lib.hid (Hst (.int .u8 ((x ^^^ 255 : Nat) : Int))).1
      rw [u8s_set] at HS
      have HX := Lib.hid hX
      have HXlt : Hid (∀ y ∈ X.set j (x ^^^ 255), y < 256) := fun y hy => (List.mem_or_eq_of_mem_set hy).elim (hXlt y) (fun e => by rw [e]; exact l255)
      have k1 : (j : Int) < (n : Int) := by omega
      clear Hst ex hX hXlt hown
      go_wp2
      go_roundw
      case rel =>
        exact ⟨j + 1, X.set j (x ^^^ 255), by omega, by go_num, by rw [List.length_set]; exact HX.out, HXlt.out, HS.out, hash_far hH (by simp; omega) _, hb.setCell (by simp; have := hbw3.size; omega) _⟩
      case measure => simp [intOf]; omega
    · have hd : decide ((j : Int) < (n : Int)) = false := by simp; omega
      clear hown hXlt hX
      go_wp2_with fail
      clear hd
      refine (CR.out wr hb).mono ?_
      rintro e w6 ⟨rfl, hb6⟩
      have hH6 := hash_below hH hb6
      have hbw6 : Below w.heap.size w w6 := hb.trans (hb6.mono hb.size)
      have hg6 := hash_lt hH6
      have HIl : Hid ((Sha.sum q).length = 32) := Sha.sum_length _
      have he := eq_digest (Sha.sum q) (Sha.sum_length _)
      obtain ⟨L, hL⟩ : ∃ L, Sha.sum q = L := ⟨_, rfl⟩
      rw [hL] at HIl CH he ⊢
      clear hL CR hb6 hH hb
      repeat ((fail_if_success (with_reducible show wpList _ _ _ (⟨none, _, _, _, _, _⟩ :: _) _ _)); first | go_values | go_skip | go_guarded | go_step | go_upon | go_back | go_simp)
      with_reducible refine store_lies rfl 25 (.tmp 10) (.tmp 40) rfl w6.heap.size (u8s L) 25 (z8 32) (Lies.new_ rfl) ?sx ?sy ?si ?sl ?s1 ?_
      case sx => rfl
      case sy => rfl
      case si => (rw [z8_length]; exact info25)
      case sl => rw [u8s_length, HIl.out, z8_length]
      case s1 => exact (List.all_eq_true.2 (u8s_one _))
      generalize hw7 : World.setRow _ _ _ = w7
      have hG7 : Lies w7 w6.heap.size 25 (u8s L) := by rw [← hw7]; exact Lies.row (cs := z8 32) (Lies.new_ rfl)
      have hH7 : HashIs w7 g q := by rw [← hw7]; exact hash_farRow (hash_alloc hH6 _) (by omega)
      have hbw7 : Below w.heap.size w w7 := by rw [← hw7]; exact below_row (hbw6.alloc hbw6.size _) hbw6.size
      clear hw7 hz hH6 hbw6
      have r1 := range_of hG7
      have hu := Tryd.underlying25
      have hi : (Tryd.prog.info? 25).map (·.size) = some (u8s L).length := by rw [u8s_length, HIl.out]; exact info25
      have hv1 := HV1.out w7 hbw7
      have hv2 := HV2.out w7 hbw7
      clear hG7
      go_frame
      go_upto_region 14 with (fail)
      go_region_held3 (fun W => W.rangeAt w6.heap.size 0 (u8s L) ∧ HashIs W g q ∧ (convert 22 9 (.slice A l c)).run Tryd.prog W = .ok (.string s) W ∧ (convert 22 9 (.slice A' n c')).run Tryd.prog W = .ok (.string t) W ∧ Below w.heap.size w W)
        (first
          | (go_split_ands; have hbz := (by assumption : Below w.heap.size w _).trans (hba.mono (by assumption : Below w.heap.size w _).size); exact ⟨range_call (by assumption) hba, hash_below (by assumption) hba, HV1.out _ hbz, HV2.out _ hbz, hbz⟩)
          | (go_split_ands; have hbz := Below.drew (by assumption : Below w.heap.size w _); exact ⟨by assumption, hash_drew (by assumption), HV1.out _ hbz, HV2.out _ hbz, hbz⟩)
          | go_keep_ranges)
        (first
          | (go_at_call 9; go_split_ands; refine (alive_any _ (hT.below (by assumption : Below w.heap.size w _) hT.lt)).mono ?_; rintro e wa ⟨rfl, hba⟩)
          | (go_at_call 17; go_split_ands; with_reducible refine (CH.out g _ (by assumption) (by assumption : Below w.heap.size w _)).mono ?_; rintro e wa ⟨rfl, hba⟩))
      go_split_ands
      have hfin : Below w.heap.size w wa := (by assumption : Below w.heap.size w _).trans (hba.mono (by assumption : Below w.heap.size w _).size)
      go_wp2
      go_ret
      exact ⟨rfl, hfin⟩
end Go.Proofs.YtkfhfokeoieajaaDoor
