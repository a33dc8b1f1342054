/-
  The card of the law UrlTwice: whatever comes in, the call returns true, and the arguments read as they did; the tables of the library's are tied to the program's text. Where what comes in is of bulk at most 1048576.
-/
import Derived.Test.YtejmkijnngkoaaaDoorURow
import Derived.Test.YtejmkijnngkoaaaDoorULaws4
namespace Go.Proofs.YtejmkijnngkoaaaDoor.urlTwice
open Go.ChangeShapes Go.WideShapes Go.ChangeAt Go.RowKit
open Go.ChangeMaps (open_string shut_string)

theorem walk (W : World) (hH : Held W) {H0 P0 : ByteArray} {a0 : Option Addr} {len0 cap0 : Nat} {L0 : List (List Nat × List Nat)} (h0 : Row W a0 (pcells L0)) (f0 : Pq.Fine L0) (l0 : L0.length = len0) (s0 : H0.size ≤ 1048576 ∧ P0.size ≤ 1048576 ∧ Short L0 ∧ L0.length ≤ 1048576) {a1 : Option Addr} {len1 cap1 : Nat} {L1 : List (List Nat × List Nat)} (h1 : Row W a1 (pcells L1)) (f1 : Pq.Fine L1) (l1 : L1.length = len1) (s1 : Short L1 ∧ L1.length ≤ 1048576) {a2 : Option Addr} {len2 cap2 : Nat} {L2 : List (List Nat × List Nat)} (h2 : Row W a2 (pcells L2)) (f2 : Pq.Fine L2) (l2 : L2.length = len2) (s2 : Short L2 ∧ L2.length ≤ 1048576) :
    Calls Tryd.prog 8 #[uval H0 P0 a0 len0 cap0, .slice a1 len1 cap1, .slice a2 len2 cap2] W fun e W' => e = .returned (.bool true) ∧ Below W.heap.size W W' := by
  subst l0
  subst l1
  subst l2
  exact lawTwice H0 P0 L0 L1 L2 a0 a1 a2 _ _ _ cap0 cap1 cap2 W rfl rfl rfl h0 h1 h2 f0 f1 f2 s0.2.2.2 s1.2 s2.2 hH

set_option maxRecDepth 100000 in
theorem contract (H : Type) (enc : TypeId × Value → H) (W : World) (base : Nat) (args : Array Value) (ds gs : List (DataW H)) (before : List MemPlace)
    (hval : ∀ (j : Nat) t v, Tryd.f8.params[j]? = some t → args[j]? = some v → Value.okWide Tryd.prog W .any base t v)
    (hW : DataW.Whole enc Tryd.prog Tryd.f8.params.toList Rows.urlTwiceSpec.vars false W args.toList ds gs before)
    (hk : Rows.uptoSmall H (ds ++ gs) = true)
    (hH : Held W) :
    Calls Tryd.prog 8 args W fun e W' => ∃ v, e = .returned v ∧ Rows.urlTwiceSpec.post enc Tryd.prog Tryd.f8 false true false false W args v W' := by
  have hW' := hW
  obtain ⟨p, q, hA0, hV, rfl, hfz, hnd⟩ := hW
  have hA : DataW.TrodAll enc Tryd.prog W 0 (fun _ => true) true Tryd.f8.params.toList args.toList ds p := hA0
  rw [Tryd.params8] at hA hval
  obtain ⟨v0, vs0, d0, ds0, p0, q0, hargs, rfl, rfl, h0, r0⟩ := trodAll_cons hA
  obtain ⟨v1, vs1, d1, ds1, p1, q1, rfl, rfl, rfl, h1, r1⟩ := trodAll_cons r0
  obtain ⟨v2, vs2, d2, ds2, p2, q2, rfl, rfl, rfl, h2, r2⟩ := trodAll_cons r1
  obtain ⟨rfl, rfl, rfl⟩ := trodAll_nil r2
  obtain rfl : args = #[v0, v1, v2] := by cases args; simp_all
  obtain ⟨rfl, rfl⟩ := trodVars_none hV
  have k0 := h0
  have lt0 : ∀ x ∈ p0, x.block < W.heap.size := by obtain ⟨m, hm⟩ := k0; exact DataW.trod_lt m _ _ _ hm
  obtain ⟨H0, P0, a0, len0, cap0, L0, rfl, hr0, hf0, hl0, hz0⟩ := url_open (hval 0 24 v0 rfl rfl) h0
  have sz0 := hz0 (bulk_of hk (d := d0) (by simp))
  obtain ⟨a1, len1, cap1, rfl⟩ := okWide_slice Tryd.underlying22 (hval 1 22 v1 rfl rfl)
  have k1 := h1
  have lt1 : ∀ x ∈ p1, x.block < W.heap.size := by obtain ⟨m, hm⟩ := k1; exact DataW.trod_lt m _ _ _ hm
  obtain ⟨L1, hr1, hf1, hl1, sz1⟩ : ∃ L, Row W a1 (pcells L) ∧ Pq.Fine L ∧ L.length = len1 ∧ (Short L ∧ L.length ≤ 1048576) := by
    obtain ⟨fuel, hf⟩ := h1
    obtain ⟨L, hr, hfn, hl, _, hbk⟩ := pairs_open hf
    exact ⟨L, hr, hfn, hl, hbk (bulk_of hk (d := d1) (by simp))⟩
  obtain ⟨a2, len2, cap2, rfl⟩ := okWide_slice Tryd.underlying22 (hval 2 22 v2 rfl rfl)
  have k2 := h2
  have lt2 : ∀ x ∈ p2, x.block < W.heap.size := by obtain ⟨m, hm⟩ := k2; exact DataW.trod_lt m _ _ _ hm
  obtain ⟨L2, hr2, hf2, hl2, sz2⟩ : ∃ L, Row W a2 (pcells L) ∧ Pq.Fine L ∧ L.length = len2 ∧ (Short L ∧ L.length ≤ 1048576) := by
    obtain ⟨fuel, hf⟩ := h2
    obtain ⟨L, hr, hfn, hl, _, hbk⟩ := pairs_open hf
    exact ⟨L, hr, hfn, hl, hbk (bulk_of hk (d := d2) (by simp))⟩
  clear hA0
  refine (walk W hH hr0 hf0 hl0 sz0 hr1 hf1 hl1 sz1 hr2 hf2 hl2 sz2).mono fun e W' ⟨he, bel⟩ => ?_
  subst he
  exact ⟨_, rfl, _, _, _, [], _, [], hW', trodAll_mk1 (shut_bool Tryd.underlying4 _), (trodAll_cons_mk (Below.trod laidOut (by kernel_rfl) (of_decide_eq_true (by kernel_rfl)) k0 bel lt0) (trodAll_cons_mk (Below.trod laidOut (by kernel_rfl) (of_decide_eq_true (by kernel_rfl)) k1 bel lt1) (trodAll_cons_mk (Below.trod laidOut (by kernel_rfl) (of_decide_eq_true (by kernel_rfl)) k2 bel lt2) trodAll_mk0))), rfl, bel.frame _, fun h => by cases h⟩

theorem reads (os : Os) {H : Type} (enc : TypeId × Value → H) : ∃ places, DataW.whole enc Tryd.prog ((laidWorldU os).forCall (fun _ _ => 0) ⟨#[], #[.agg #[.string .empty, .string .empty, .slice none 0 0], .slice none 0 0, .slice none 0 0], []⟩).memory Tryd.f8.params.toList Rows.urlTwiceSpec.vars false (#[.agg #[.string .empty, .string .empty, .slice none 0 0], .slice none 0 0, .slice none 0 0] : Array Value).toList 8 = some ([.agg [.lit (.string []), .lit (.string []), .nil], .nil, .nil], [], places) :=
  ⟨[], by kernel_rfl⟩

set_option maxRecDepth 100000 in
theorem lifted (os : Os) (started : os.Started) (H : Type) (enc : TypeId × Value → H) (F : Stop.Interp) :
    ReturnsInHanded {} Tryd.checked os 8 .any ((Rows.OpenSpec.upto Rows.urlTwiceSpec).preRow enc Tryd.prog Tryd.f8 Rows.urlTwiceUptoRow.domain false Rows.urlTwiceUptoRow.laid) (((Rows.OpenSpec.upto Rows.urlTwiceSpec).at F).post enc Tryd.prog Tryd.f8 false true false false) := by
  obtain ⟨places, hx⟩ := reads os enc
  refine returnsInHanded_of_row (C := Tryd.checked) (s := (Rows.OpenSpec.upto Rows.urlTwiceSpec)) own started (by kernel_rfl) Tryd.func8
    (witness_row_at (enc := enc) (C := Tryd.checked) false (laidWorldU os) #[.agg #[.string .empty, .string .empty, .slice none 0 0], .slice none 0 0, .slice none 0 0] rfl (by kernel_rfl) (by kernel_rfl) (by kernel_rfl)
      (OpenSpec.preRow_of_cond 8 hx (by kernel_rfl) (fun k hk => by cases hk; kernel_rfl) (by kernel_rfl) (laid_metU os _))) ?_
  intro W base args ds gs before hval hW _ hcond _ hlaid _ _
  exact contract H enc W base args ds gs before hval hW (hcond _ rfl) (held_of hlaid)

theorem said : Rows.UrlTwiceUptoSaid :=
  OpenClaim.holds_of_cond 8 Tryd.f8 rfl rfl rfl rfl rfl rfl rfl ⟨rfl, rfl, rfl, rfl, rfl⟩ rfl rfl rfl rfl rfl (by kernel_rfl) Tryd.func8 (by kernel_rfl)
    (of_decide_eq_true (by kernel_rfl)) (by unfold Func.isWrapper; first | (rw [if_pos (by decide +kernel)]; kernel_rfl) | (rw [if_neg (by decide +kernel)]; exact ⟨rfl, rfl⟩))
    (fun os started H enc _ F => by rw [OpenClaim.pre_eq_preRow]; exact lifted os started H enc F)

theorem plain (f : FuncId) (fn : Func) (hf : Tryd.pinned.checked.prog.funcNamed Rows.urlTwiceUptoRow.func = some f) (hfn : Tryd.pinned.checked.prog.funcs[f]? = some fn) :
    true = Tryd.pinned.checked.prog.looks [] ∧ ∀ (j : Nat) t, fn.params[j]? = some t → Tryd.pinned.checked.prog.wantsStandIn t = false := by
  obtain rfl : f = 8 := Option.some.inj ((show Tryd.prog.funcNamed Rows.urlTwiceUptoRow.func = some 8 by kernel_rfl).symm.trans hf) |>.symm
  obtain rfl : fn = Tryd.f8 := (Option.some.inj (Tryd.func8.symm.trans hfn)).symm
  refine ⟨by kernel_rfl, fun j t ht => ?_⟩
  rw [Tryd.params8] at ht
  have hm := Array.mem_of_getElem? ht
  simp at hm
  rcases hm with rfl | rfl
  · exact (show Tryd.prog.wantsStandIn 24 = false by kernel_rfl)
  · exact (show Tryd.prog.wantsStandIn 22 = false by kernel_rfl)

theorem card : Rows.UrlTwiceUptoCardSaid :=
  Claim7.holds_tied_plain_at .later [] _ _ _ _ said (fun _ h => by cases h) (by kernel_rfl) (fun _ h => by cases h) urlTwiceUpto_row_tie rfl ⟨rfl, rfl⟩ (by kernel_rfl) rfl plain (by kernel_rfl)
end Go.Proofs.YtejmkijnngkoaaaDoor.urlTwice
