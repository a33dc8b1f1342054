/-
  WPD: WScope WOSt WOpen WAlive, side by side.
-/
import Derived.ScopeJumps
import Derived.WalkMore
import Derived.Test.YthklgpflaghojaaGreatDoorWPB
import Derived.Test.YthklgpflaghojaaGreatDoorWPC
import Derived.Test.YthklgpflaghojaaGreatDoorWPA
import Derived.Test.YthklgpflaghojaaGreatDoorQR3
import Derived.Lib.SlBytesConst

/-
  A scope out of which the run may jump ahead, to a label behind which there is no goto: what the jump owes is the walk of what stands behind the label.
-/
namespace Go.Proofs.YthklgpflaghojaaGreatDoor

section
variable {P : Program} {a : Act} {w : World} {Q Q' : Exit → Act → World → Prop}
theorem code_mono {c : Code} (h : c.wp P Q a w) (hq : ∀ e a w, Q e a w → Q' e a w) : c.wp P Q' a w := by
  intro b k cs
  obtain ⟨e, a₁, w₁, h1, harr⟩ := h b k cs
  exact ⟨e, a₁, w₁, hq _ _ _ h1, harr⟩
theorem wp_scope_ahead {c rest : Code} (l : Nat) (hf : findLabel c l = some rest) (first : c.wp P (Exit.jump l (fun a' w' => rest.wp P (Exit.noGoto Q) a' w') Q) a w) : (Code.scope c).wp P Q a w :=
  wp_scope_jumps l (fun a' w' => rest.wp P (Exit.noGoto Q) a' w') (fun _ _ => 0) hf first fun a w hJ => code_mono hJ fun e a w h => by
    cases e with
    | goto l' => exact h.elim
    | _ => exact h
theorem jump_ret (l : Nat) (J : Act → World → Prop) : Exit.jump l J Q .ret a w = Q .ret a w := rfl
end
end Go.Proofs.YthklgpflaghojaaGreatDoor

/-
  Open under way: what lies where.
-/
namespace Go.Proofs.YthklgpflaghojaaGreatDoor
open Go.RowKit

abbrev tok0 : List Value := [.string { data := #[] }, .int .i64 0, .bool false, .int .i64 0, .string { data := #[] }, .slice none 0 0, .slice none 0 0, .string { data := #[] }, .slice none 0 0]
/-- Nine cells are written. -/
abbrev put9 (w : World) (g : Nat) (a b c d e f x y z : Value) : World := ((((((((w.setCell ⟨g, 0, none⟩ a).setCell ⟨g, 1, none⟩ b).setCell ⟨g, 2, none⟩ c).setCell ⟨g, 3, none⟩ d).setCell ⟨g, 4, none⟩ e).setCell ⟨g, 5, none⟩ f).setCell ⟨g, 6, none⟩ x).setCell ⟨g, 7, none⟩ y).setCell ⟨g, 8, none⟩ z
section
variable {w w' : World} {g : Nat} {ty : TypeId} {a b c d e f x y z x0 x1 x2 x3 x4 x5 x6 x7 x8 : Value}
theorem Lies.put9 (h : Lies w g ty [x0, x1, x2, x3, x4, x5, x6, x7, x8]) : Lies (put9 w g a b c d e f x y z) g ty [a, b, c, d, e, f, x, y, z] := by
  have := ((((((((h.put 0 a).put 1 b).put 2 c).put 3 d).put 4 e).put 5 f).put 6 x).put 7 y).put 8 z
  simpa using this
theorem Lies.nine (h : Lies w g ty [a, b, c, d, e, f, x, y, z]) : (w.cell? ⟨g, 0, none⟩ = some a ∧ w.cell? ⟨g, 1, none⟩ = some b ∧ w.cell? ⟨g, 2, none⟩ = some c ∧ w.cell? ⟨g, 3, none⟩ = some d ∧ w.cell? ⟨g, 4, none⟩ = some e ∧ w.cell? ⟨g, 5, none⟩ = some f ∧ w.cell? ⟨g, 6, none⟩ = some x ∧ w.cell? ⟨g, 7, none⟩ = some y ∧ w.cell? ⟨g, 8, none⟩ = some z) ∧
    (w.frozen? ⟨g, 0, none⟩ = false ∧ w.frozen? ⟨g, 1, none⟩ = false ∧ w.frozen? ⟨g, 2, none⟩ = false ∧ w.frozen? ⟨g, 3, none⟩ = false ∧ w.frozen? ⟨g, 4, none⟩ = false ∧ w.frozen? ⟨g, 5, none⟩ = false ∧ w.frozen? ⟨g, 6, none⟩ = false ∧ w.frozen? ⟨g, 7, none⟩ = false ∧ w.frozen? ⟨g, 8, none⟩ = false) :=
  ⟨⟨h.cell 0, h.cell 1, h.cell 2, h.cell 3, h.cell 4, h.cell 5, h.cell 6, h.cell 7, h.cell 8⟩, h.free 0, h.free 1, h.free 2, h.free 3, h.free 4, h.free 5, h.free 6, h.free 7, h.free 8⟩
theorem put9_far {k : Nat} (hk : k ≠ g) : (put9 w g a b c d e f x y z).heap[k]? = w.heap[k]? := by
  rw [Below.heap_setCell _ _ _ _ hk, Below.heap_setCell _ _ _ _ hk, Below.heap_setCell _ _ _ _ hk, Below.heap_setCell _ _ _ _ hk, Below.heap_setCell _ _ _ _ hk, Below.heap_setCell _ _ _ _ hk, Below.heap_setCell _ _ _ _ hk, Below.heap_setCell _ _ _ _ hk, Below.heap_setCell _ _ _ _ hk]
theorem put9_size : (put9 w g a b c d e f x y z).heap.size = w.heap.size := by simp [World.setCell]
theorem below_put9 {B : Nat} (h : Below B w w') (hg : B ≤ g) : Below B w (put9 w' g a b c d e f x y z) :=
  ((((((((h.setCell hg _).setCell hg _).setCell hg _).setCell hg _).setCell hg _).setCell hg _).setCell hg _).setCell hg _).setCell hg _
end
theorem IsJ.put9 {w : World} {g B : Nat} {a b c d e f x y z v : Value} {j : Jq.J} (h : IsJ w (B ≤ ·) v j) (hg : g < B) : IsJ (put9 w g a b c d e f x y z) (B ≤ ·) v j :=
  h.keep (fun k hk _ => ⟨hk, put9_far (by have : B ≤ k := hk; omega)⟩) (Nat.le_of_eq put9_size.symm)
/-- A block holds no byte. -/
def NoBytes (cs : List Value) : Prop := ∀ x ∈ cs, ∀ n : Int, x ≠ .int .u8 n
/-- What is written to a block that holds no byte is not seen in a row of bytes. -/
theorem arg_off {w w' : World} {g : Nat} {t : TypeId} {cs : List Value} {A : Option Addr} {c : Nat} {q : List Nat} (h : ArgIs w A c q) (hL : Lies w g t cs) (hN : NoBytes cs) (hs : w'.heap.size = w.heap.size) (hk : ∀ k, k ≠ g → w'.heap[k]? = w.heap[k]?) : ArgIs w' A c q :=
  ⟨h.1, h.2.1, h.2.2.1, fun hq => by
    obtain ⟨b, off, e, hb, hby⟩ := h.2.2.2 hq
    have hne : b ≠ g := by
      rintro rfl
      obtain ⟨x, hx⟩ : ∃ x, q[0]? = some x := ⟨q[0], List.getElem?_eq_getElem hq⟩
      have := (hby 0 x hx).2
      rw [hL.cell] at this
      exact hN _ (List.mem_of_getElem? this) _ rfl
    exact ⟨b, off, e, by omega, fun j x hj => ⟨(hby j x hj).1, (World.cell?_of_block (a := ⟨b, off + j, none⟩) (hk b hne)).trans (hby j x hj).2⟩⟩⟩
theorem no_json (k : Int) (b : Bool) (n : Int) (t : ByteArray) (A1 A2 : Option Addr) (n1 n2 c1 c2 : Nat) : NoBytes [.int .i64 k, .bool b, .int .i64 n, .string t, .slice A1 n1 c1, .slice A2 n2 c2] := by
  intro x hx i e
  subst e
  simp at hx
theorem no_tok0 : NoBytes tok0 := by
  intro x hx i e
  subst e
  simp at hx
/-- Six cells that a Json may be. -/
def JC (cs : List Value) : Prop := ∃ (k : Int) (b : Bool) (n : Int) (t : ByteArray) (A1 A2 : Option Addr) (n1 n2 c1 c2 : Nat), cs = [.int .i64 k, .bool b, .int .i64 n, .string t, .slice A1 n1 c1, .slice A2 n2 c2]
/-- Open under way. -/
structure OSt (w W : World) (hc cc : List Value) (P : Nat) (PA PB PC : Option Addr) (ca cb cd : Nat) (A B C : List Nat) : Prop where
  below : Below w.heap.size w W
  tok : Lies W w.heap.size 29 tok0
  hd : Lies W (w.heap.size + 1) 26 hc
  cl : Lies W (w.heap.size + 1 + 1) 26 cc
  jh : JC hc
  jc : JC cc
  parts : Lies W P 63 [.slice PA A.length ca, .slice PB B.length cb, .slice PC C.length cd]
  far : w.heap.size + 1 + 1 < P
  a : ArgIs W PA ca A
  b : ArgIs W PB cb B
  c : ArgIs W PC cd C
section
variable {w W W' : World} {hc cc : List Value} {P : Nat} {PA PB PC : Option Addr} {ca cb cd : Nat} {A B C : List Nat}
theorem OSt.on (h : OSt w W hc cc P PA PB PC ca cb cd A B C) (hb : Below W.heap.size W W') : OSt w W' hc cc P PA PB PC ca cb cd A B C :=
  ⟨below_more h.below hb, h.tok.below hb h.tok.lt, h.hd.below hb h.hd.lt, h.cl.below hb h.cl.lt, h.jh, h.jc, h.parts.below hb h.parts.lt, h.far, h.a.below hb (Nat.le_refl _), h.b.below hb (Nat.le_refl _), h.c.below hb (Nat.le_refl _)⟩
theorem JC.no {cs : List Value} (h : JC cs) : NoBytes cs := by
  obtain ⟨k, b, n, t, A1, A2, n1, n2, c1, c2, rfl⟩ := h
  exact no_json _ _ _ _ _ _ _ _ _ _
theorem OSt.putHd (h : OSt w W hc cc P PA PB PC ca cb cd A B C) (k : Int) (b : Bool) (n : Int) (t : ByteArray) (A1 A2 : Option Addr) (n1 n2 c1 c2 : Nat) :
    OSt w (put6 W (w.heap.size + 1) (.int .i64 k) (.bool b) (.int .i64 n) (.string t) (.slice A1 n1 c1) (.slice A2 n2 c2)) [.int .i64 k, .bool b, .int .i64 n, .string t, .slice A1 n1 c1, .slice A2 n2 c2] cc P PA PB PC ca cb cd A B C := by
  have hn := h.jh.no
  have hl := h.hd
  obtain ⟨k', b', n', t', A1', A2', n1', n2', c1', c2', rfl⟩ := h.jh
  have hf : ∀ j, j ≠ w.heap.size + 1 → (put6 W (w.heap.size + 1) (.int .i64 k) (.bool b) (.int .i64 n) (.string t) (.slice A1 n1 c1) (.slice A2 n2 c2)).heap[j]? = W.heap[j]? := fun j hj => put6_far hj
  exact ⟨h.below.trans (gb_down gb_put6 h.below.size (by omega)), (hf _ (by omega)).trans h.tok, hl.put6, (hf _ (by omega)).trans h.cl, ⟨k, b, n, t, A1, A2, n1, n2, c1, c2, rfl⟩, h.jc, (hf _ (by have := h.far; omega)).trans h.parts, h.far,
    arg_off h.a hl hn put6_size hf, arg_off h.b hl hn put6_size hf, arg_off h.c hl hn put6_size hf⟩
theorem OSt.putCl (h : OSt w W hc cc P PA PB PC ca cb cd A B C) (k : Int) (b : Bool) (n : Int) (t : ByteArray) (A1 A2 : Option Addr) (n1 n2 c1 c2 : Nat) :
    OSt w (put6 W (w.heap.size + 1 + 1) (.int .i64 k) (.bool b) (.int .i64 n) (.string t) (.slice A1 n1 c1) (.slice A2 n2 c2)) hc [.int .i64 k, .bool b, .int .i64 n, .string t, .slice A1 n1 c1, .slice A2 n2 c2] P PA PB PC ca cb cd A B C := by
  have hn := h.jc.no
  have hl := h.cl
  obtain ⟨k', b', n', t', A1', A2', n1', n2', c1', c2', rfl⟩ := h.jc
  have hf : ∀ j, j ≠ w.heap.size + 1 + 1 → (put6 W (w.heap.size + 1 + 1) (.int .i64 k) (.bool b) (.int .i64 n) (.string t) (.slice A1 n1 c1) (.slice A2 n2 c2)).heap[j]? = W.heap[j]? := fun j hj => put6_far hj
  exact ⟨h.below.trans (gb_down gb_put6 h.below.size (by omega)), (hf _ (by omega)).trans h.tok, (hf _ (by omega)).trans h.hd, hl.put6, h.jh, ⟨k, b, n, t, A1, A2, n1, n2, c1, c2, rfl⟩, (hf _ (by have := h.far; omega)).trans h.parts, h.far,
    arg_off h.a hl hn put6_size hf, arg_off h.b hl hn put6_size hf, arg_off h.c hl hn put6_size hf⟩
end

/-- What Open answers. -/
def OpenEnd (res : Except Nat Wq.Tok) (w : World) (e : Ending) (w' : World) : Prop := Below w.heap.size w w' ∧ match res with
  | .ok t => ∃ (A1 A2 A3 : Option Addr) (c1 c2 c3 : Nat), e = .returned (.tuple #[tokv (strOf t.kid) t.claims.kind t.claims.bool t.claims.int (strOf t.claims.text) (.slice A1 t.claims.names.length c1) (.slice A2 t.claims.list.length c2) (strOf t.signed) (.slice A3 t.mac.length c3), .int .i64 0]) ∧
      IsJ w' (w.heap.size ≤ ·) (jv t.claims.kind t.claims.bool t.claims.int (strOf t.claims.text) (.slice A1 t.claims.names.length c1) (.slice A2 t.claims.list.length c2)) t.claims ∧ ArgIs w' A3 c3 t.mac ∧ (∀ x ∈ t.kid, x < 256) ∧ (∀ x ∈ t.signed, x < 256) ∧ t.signed.length ≤ 12288
  | .error m => e = .returned (.tuple #[tokv ByteArray.empty 0 false 0 ByteArray.empty (.slice none 0 0) (.slice none 0 0) ByteArray.empty (.slice none 0 0), .int .i64 (m : Int)]) ∧ 0 < m
abbrev outBad (w W : World) : World := put9 W w.heap.size (.string { data := #[] }) (.int .i64 0) (.bool false) (.int .i64 0) (.string { data := #[] }) (.slice none 0 0) (.slice none 0 0) (.string { data := #[] }) (.slice none 0 0)
theorem open_bad {res : Except Nat Wq.Tok} {m : Nat} {w W : World} (h : res = .error m) (hm : 0 < m) (hb : Below w.heap.size w W) :
    OpenEnd res w (.returned (.tuple #[tokv ByteArray.empty 0 false 0 ByteArray.empty (.slice none 0 0) (.slice none 0 0) ByteArray.empty (.slice none 0 0), .int .i64 (m : Int)])) (outBad w W) :=
  ⟨below_put9 hb (Nat.le_refl _), by rw [h]; exact ⟨rfl, hm⟩⟩
abbrev outGood (w W : World) (kid : List Nat) (cl : Jq.J) (B1 B2 : Option Addr) (d1 d2 : Nat) (sg : List Nat) (v : Value) : World :=
  put9 W w.heap.size (.string (strOf kid)) (.int .i64 cl.kind) (.bool cl.bool) (.int .i64 cl.int) (.string (strOf cl.text)) (.slice B1 cl.names.length d1) (.slice B2 cl.list.length d2) (.string (strOf sg)) v
theorem open_good {res : Except Nat Wq.Tok} {w W : World} {kid sg C : List Nat} {cl : Jq.J} {B1 B2 PC : Option Addr} {d1 d2 cc : Nat} (h : res = .ok ⟨kid, cl, sg, C⟩) (hb : Below w.heap.size w W)
    (hT : Lies W w.heap.size 29 tok0) (hJ : IsJ W (w.heap.size + 1 ≤ ·) (jv cl.kind cl.bool cl.int (strOf cl.text) (.slice B1 cl.names.length d1) (.slice B2 cl.list.length d2)) cl) (hA : ArgIs W PC cc C)
    (hk : ∀ x ∈ kid, x < 256) (hs : (∀ x ∈ sg, x < 256) ∧ sg.length ≤ 12288) :
    OpenEnd res w (.returned (.tuple #[tokv (strOf kid) cl.kind cl.bool cl.int (strOf cl.text) (.slice B1 cl.names.length d1) (.slice B2 cl.list.length d2) (strOf sg) (.slice PC C.length cc), .int .i64 0])) (outGood w W kid cl B1 B2 d1 d2 sg (.slice PC C.length cc)).drew := by
  have h1 : Below w.heap.size w (outGood w W kid cl B1 B2 d1 d2 sg (.slice PC C.length cc)) := below_put9 hb (Nat.le_refl _)
  have h2 : IsJ (outGood w W kid cl B1 B2 d1 d2 sg (.slice PC C.length cc)) (w.heap.size + 1 ≤ ·) (jv cl.kind cl.bool cl.int (strOf cl.text) (.slice B1 cl.names.length d1) (.slice B2 cl.list.length d2)) cl := hJ.put9 (by omega)
  have h3 : ArgIs (outGood w W kid cl B1 B2 d1 d2 sg (.slice PC C.length cc)) PC cc C := arg_off hA hT no_tok0 put9_size fun k hk => put9_far hk
  subst h
  exact ⟨h1.drew, B1, B2, PC, d1, d2, cc, rfl, (h2.from (by omega)).drew, h3.drew, hk, hs.1, hs.2⟩
end Go.Proofs.YthklgpflaghojaaGreatDoor

/-
  The contract of Open.
-/
namespace Go.Proofs.YthklgpflaghojaaGreatDoor
open Go.RowKit

set_option maxHeartbeats 2000000 in
set_option maxRecDepth 100000 in
theorem open_any (s : ByteArray) (w : World) (hH : Held w) (hs : s.size ≤ 140737488355328) :
    Calls Tryz.prog 12 #[.string s] w (OpenEnd (Wq.openP (numsOf s)) w) := by
  have HOne := Lib.hid (fun A B C sg => @Wq.openP_of (numsOf s) A B C sg)
  have HNone := Lib.hid (@Wq.openP_none (numsOf s))
  obtain ⟨RES, eRES⟩ : ∃ RES, Wq.openP (numsOf s) = RES := ⟨_, rfl⟩
  rw [eRES] at HOne HNone ⊢
  clear eRES
  obtain ⟨W0, eW0⟩ : ∃ W0, W0 = ((w.alloc (.cells tok0.toArray 29)).alloc (.cells #[.int .i64 0, .bool false, .int .i64 0, .string { data := #[] }, .slice none 0 0, .slice none 0 0] 26)).alloc (.cells #[.int .i64 0, .bool false, .int .i64 0, .string { data := #[] }, .slice none 0 0, .slice none 0 0] 26) := ⟨_, rfl⟩
  have hb0 : Below w.heap.size w W0 := by rw [eW0]; exact (((Below.refl _ _).alloc (Nat.le_refl _) _).alloc (by simp) _).alloc (by simp; omega) _
  have hD := decoded_any s W0 hs
  rw [eW0] at hD
  have HW0 := Lib.hid eW0
  have HB0 := Lib.hid hb0
  have HH := Lib.hid hH
  have Hs := Lib.hid hs
  clear hH hb0 eW0 hs
  go_enter Tryz.func12, Tryz.ntmps12
  go_wp2
  refine wp_scope_ahead 0 rfl ?_
  go_wp2_with fail
  refine hD.mono ?_
  intro e w1 hh
  clear hD
  rw [← HW0.out] at hh
  have h0 : Lies W0 w.heap.size 29 tok0 := by rw [HW0.out]; exact ((Lies.made w _ tok0).alloc _).alloc _
  have h1 : Lies W0 (w.heap.size + 1) 26 [.int .i64 0, .bool false, .int .i64 0, .string { data := #[] }, .slice none 0 0, .slice none 0 0] := by rw [HW0.out]; exact (Lies.new_ (cs := [.int .i64 0, .bool false, .int .i64 0, .string { data := #[] }, .slice none 0 0, .slice none 0 0]) (by simp)).alloc _
  have h2 : Lies W0 (w.heap.size + 1 + 1) 26 [.int .i64 0, .bool false, .int .i64 0, .string { data := #[] }, .slice none 0 0, .slice none 0 0] := by rw [HW0.out]; exact Lies.new_ (cs := [.int .i64 0, .bool false, .int .i64 0, .string { data := #[] }, .slice none 0 0, .slice none 0 0]) (by simp)
  obtain ⟨hb1, ⟨A, B, C, sg, PA, PB, PC, ca, cb, cc, hTh, rfl, hA, hB, hC⟩ | ⟨hno, rfl⟩⟩ := hh
  rotate_left
  · obtain ⟨W1, eW1⟩ : ∃ W1, W1 = w1.alloc (.cells #[.slice none 0 0, .slice none 0 0, .slice none 0 0] 63) := ⟨_, rfl⟩
    have hbW : Below w1.heap.size w1 W1 := by rw [eW1]; exact (Below.refl _ _).alloc (Nat.le_refl _) _
    have hb := below_more (below_more HB0.out hb1) hbW
    have h01 := h0.below hb1 h0.lt
    have h02 := h01.below hbW h01.lt
    have HE := Lib.hid (open_bad (HNone.out hno) (by decide) hb)
    obtain ⟨⟨z0, z1, z2, z3, z4, z5, z6, z7, z8⟩, f0, f1, f2, f3, f4, f5, f6, f7, f8⟩ := h02.nine
    have hE := h02.put9 (a := .string { data := #[] }) (b := .int .i64 0) (c := .bool false) (d := .int .i64 0) (e := .string { data := #[] }) (f := .slice none 0 0) (x := .slice none 0 0) (y := .string { data := #[] }) (z := .slice none 0 0)
    obtain ⟨⟨q0, q1, q2, q3, q4, q5, q6, q7, q8⟩, _⟩ := hE.nine
    rw [eW1] at z0 z1 z2 z3 z4 z5 z6 z7 z8 f0 f1 f2 f3 f4 f5 f6 f7 f8 q0 q1 q2 q3 q4 q5 q6 q7 q8 HE
    clear hno hb1 h0 h1 h2 eW1 hbW hb h01 h02 hE
    go_wp2
    go_step3
    refine ⟨rfl, ?_⟩
    go_wp2
    rw [Exit.noGoto_ret]
    exact bodyPost_ret (v := .tuple #[tokv ByteArray.empty 0 false 0 ByteArray.empty (.slice none 0 0) (.slice none 0 0) ByteArray.empty (.slice none 0 0), .int .i64 80]) (by simp [results, Tryz.results12, go_sem, q0, q1, q2, q3, q4, q5, q6, q7, q8]; rfl) rfl HE.out
  obtain ⟨W1, eW1⟩ : ∃ W1, W1 = w1.alloc (.cells #[.slice PA A.length ca, .slice PB B.length cb, .slice PC C.length cc] 63) := ⟨_, rfl⟩
  have hbW : Below w1.heap.size w1 W1 := by rw [eW1]; exact (Below.refl _ _).alloc (Nat.le_refl _) _
  have st : OSt w W1 [.int .i64 0, .bool false, .int .i64 0, .string { data := #[] }, .slice none 0 0, .slice none 0 0] [.int .i64 0, .bool false, .int .i64 0, .string { data := #[] }, .slice none 0 0, .slice none 0 0] w1.heap.size PA PB PC ca cb cc A B C :=
    ⟨below_more (below_more HB0.out hb1) hbW, (h0.below hb1 h0.lt).below hbW (h0.below hb1 h0.lt).lt, (h1.below hb1 h1.lt).below hbW (h1.below hb1 h1.lt).lt, (h2.below hb1 h2.lt).below hbW (h2.below hb1 h2.lt).lt,
      ⟨_, _, _, _, _, _, _, _, _, _, rfl⟩, ⟨_, _, _, _, _, _, _, _, _, _, rfl⟩, by rw [eW1]; exact Lies.new_ rfl, Nat.lt_of_lt_of_le h2.lt hb1.size, hA.below hbW (Nat.le_refl _), hB.below hbW (Nat.le_refl _), hC.below hbW (Nat.le_refl _)⟩
  have HOB := Lib.hid (HOne.out A B C sg hTh)
  have HTH := Lib.hid hTh
  have hO := object8_any A PA ca W1 (HH.out.below st.below) st.a
  have p0 := st.parts.cell 0
  rw [eW1] at hO p0
  have HW1 := Lib.hid eW1
  have HST := Lib.hid st
  clear hb1 h0 h1 h2 hA hB hC hTh hbW eW1 st HOne HNone
  go_wp2_with fail
  refine hO.mono ?_
  intro e w2 hh
  clear hO p0
  rw [← HW1.out] at hh
  obtain ⟨hb2, ⟨hd, u, hob, rfl, hJh⟩ | ⟨hob, rfl⟩⟩ := hh
  rotate_left
  · have st2 := HST.out.on hb2
    have st3 := st2.putHd 0 false 0 ByteArray.empty none none 0 0 0 0
    have HE := Lib.hid (open_bad (res := RES) (m := 80) (by rw [HOB.out]; exact Wq.openBytes_no1 hob) (by decide) st3.below)
    obtain ⟨⟨z0, z1, z2, z3, z4, z5⟩, f0, f1, f2, f3, f4, f5⟩ := st2.hd.six
    obtain ⟨⟨y0, y1, y2, y3, y4, y5, y6, y7, y8⟩, g0, g1, g2, g3, g4, g5, g6, g7, g8⟩ := st3.tok.nine
    have hE := st3.tok.put9 (a := .string { data := #[] }) (b := .int .i64 0) (c := .bool false) (d := .int .i64 0) (e := .string { data := #[] }) (f := .slice none 0 0) (x := .slice none 0 0) (y := .string { data := #[] }) (z := .slice none 0 0)
    obtain ⟨⟨q0, q1, q2, q3, q4, q5, q6, q7, q8⟩, _⟩ := hE.nine
    clear hob hb2 st2 st3 hE
    go_wp2
    go_step3
    refine ⟨rfl, ?_⟩
    go_wp2
    rw [Exit.noGoto_ret]
    exact bodyPost_ret (v := .tuple #[tokv ByteArray.empty 0 false 0 ByteArray.empty (.slice none 0 0) (.slice none 0 0) ByteArray.empty (.slice none 0 0), .int .i64 80]) (by simp [results, Tryz.results12, go_sem, q0, q1, q2, q3, q4, q5, q6, q7, q8]; rfl) rfl HE.out
  have st2 := HST.out.on hb2
  have hJh := hJh.from (C := w.heap.size + 1 + 1 + 1) HST.out.cl.lt
  obtain ⟨A1, c1, A2, c2, rfl⟩ := hJh.form
  have st3 := st2.putHd hd.kind hd.bool hd.int (strOf hd.text) A1 A2 hd.names.length hd.list.length c1 c2
  have hJ3 := hJh.put6 (g := w.heap.size + 1) (a := .int .i64 hd.kind) (b := .bool hd.bool) (c := .int .i64 hd.int) (d := .string (strOf hd.text)) (e := .slice A1 hd.names.length c1) (f := .slice A2 hd.list.length c2) (by omega)
  obtain ⟨⟨z0, z1, z2, z3, z4, z5⟩, f0, f1, f2, f3, f4, f5⟩ := st2.hd.six
  have p1 := st3.parts.cell 1
  have hO := object8_any B PB cb _ (HH.out.below st3.below) st3.b
  have HJ3 := Lib.hid hJ3
  have HST3 := Lib.hid st3
  have HA1 := Lib.hid hob
  obtain ⟨W3, eW3⟩ : ∃ W3, W3 = put6 w2 (w.heap.size + 1) (.int .i64 hd.kind) (.bool hd.bool) (.int .i64 hd.int) (.string (strOf hd.text)) (.slice A1 hd.names.length c1) (.slice A2 hd.list.length c2) := ⟨_, rfl⟩
  have HW3 := Lib.hid eW3
  rw [← eW3] at HJ3 HST3
  clear hob hb2 st2 st3 hJh hJ3 HST eW3
  go_wp2_with fail
  refine hO.mono ?_
  intro e w4 hh
  clear hO p1 z0 z1 z2 z3 z4 z5 f0 f1 f2 f3 f4 f5
  rw [← HW3.out] at hh
  obtain ⟨hb4, ⟨cl, u, hob, rfl, hJc⟩ | ⟨hob, rfl⟩⟩ := hh
  rotate_left
  · have st4 := HST3.out.on hb4
    have st5 := st4.putCl 0 false 0 ByteArray.empty none none 0 0 0 0
    obtain ⟨⟨z0, z1, z2, z3, z4, z5⟩, f0, f1, f2, f3, f4, f5⟩ := st4.cl.six
    have HE := Lib.hid (open_bad (res := RES) (m := 80) (by rw [HOB.out]; exact Wq.openBytes_no2 hob) (by decide) st5.below)
    obtain ⟨⟨y0, y1, y2, y3, y4, y5, y6, y7, y8⟩, g0, g1, g2, g3, g4, g5, g6, g7, g8⟩ := st5.tok.nine
    have hE := st5.tok.put9 (a := .string { data := #[] }) (b := .int .i64 0) (c := .bool false) (d := .int .i64 0) (e := .string { data := #[] }) (f := .slice none 0 0) (x := .slice none 0 0) (y := .string { data := #[] }) (z := .slice none 0 0)
    obtain ⟨⟨q0, q1, q2, q3, q4, q5, q6, q7, q8⟩, _⟩ := hE.nine
    clear hob hb4 st4 st5 hE
    go_wp2
    go_step3
    refine ⟨rfl, ?_⟩
    go_wp2
    rw [Exit.noGoto_ret]
    exact bodyPost_ret (v := .tuple #[tokv ByteArray.empty 0 false 0 ByteArray.empty (.slice none 0 0) (.slice none 0 0) ByteArray.empty (.slice none 0 0), .int .i64 80]) (by simp [results, Tryz.results12, go_sem, q0, q1, q2, q3, q4, q5, q6, q7, q8]; rfl) rfl HE.out
  have st4 := HST3.out.on hb4
  have hJc := hJc.from (C := w.heap.size + 1 + 1 + 1) HST3.out.cl.lt
  obtain ⟨B1, d1, B2, d2, rfl⟩ := hJc.form
  have st5 := st4.putCl cl.kind cl.bool cl.int (strOf cl.text) B1 B2 cl.names.length cl.list.length d1 d2
  have hJ5 := hJc.put6 (g := w.heap.size + 1 + 1) (a := .int .i64 cl.kind) (b := .bool cl.bool) (c := .int .i64 cl.int) (d := .string (strOf cl.text)) (e := .slice B1 cl.names.length d1) (f := .slice B2 cl.list.length d2) (by omega)
  have hJ5h := (HJ3.out.on hb4).put6 (g := w.heap.size + 1 + 1) (a := .int .i64 cl.kind) (b := .bool cl.bool) (c := .int .i64 cl.int) (d := .string (strOf cl.text)) (e := .slice B1 cl.names.length d1) (f := .slice B2 cl.list.length d2) (by omega)
  obtain ⟨⟨z0, z1, z2, z3, z4, z5⟩, f0, f1, f2, f3, f4, f5⟩ := st4.cl.six
  obtain ⟨⟨y0, y1, y2, y3, y4, y5⟩, _⟩ := st5.hd.six
  have hAl := hasAlg_any hd _ _ hJ5h
  obtain ⟨W5, eW5⟩ : ∃ W5, W5 = put6 w4 (w.heap.size + 1 + 1) (.int .i64 cl.kind) (.bool cl.bool) (.int .i64 cl.int) (.string (strOf cl.text)) (.slice B1 cl.names.length d1) (.slice B2 cl.list.length d2) := ⟨_, rfl⟩
  rw [← eW5] at st5 hJ5 hJ5h
  have HST5 := Lib.hid st5
  have HJ5 := Lib.hid hJ5
  have HJ5h := Lib.hid hJ5h
  have HOY := Lib.hid (Wq.openBytes_yes (C := C) (sg := sg) HA1.out hob)
  have HW5 := Lib.hid eW5
  clear hob hb4 st4 st5 hJc hJ5 hJ5h HST3 HJ3 HA1 eW5
  go_wp2_with fail
  refine hAl.mono ?_
  intro e w6 hh
  clear hAl y0 y1 y2 y3 y4 y5 z0 z1 z2 z3 z4 z5 f0 f1 f2 f3 f4 f5
  rw [← HW5.out] at hh
  obtain ⟨hb6, ⟨hal, rfl⟩ | ⟨hal, rfl⟩⟩ := hh
  rotate_left
  · have st6 := HST5.out.on hb6
    have HE := Lib.hid (open_bad (res := RES) (m := 81) (by rw [HOB.out, HOY.out]; exact Wq.openHead_alg hal) (by decide) st6.below)
    obtain ⟨⟨y0, y1, y2, y3, y4, y5, y6, y7, y8⟩, g0, g1, g2, g3, g4, g5, g6, g7, g8⟩ := st6.tok.nine
    have hE := st6.tok.put9 (a := .string { data := #[] }) (b := .int .i64 0) (c := .bool false) (d := .int .i64 0) (e := .string { data := #[] }) (f := .slice none 0 0) (x := .slice none 0 0) (y := .string { data := #[] }) (z := .slice none 0 0)
    obtain ⟨⟨q0, q1, q2, q3, q4, q5, q6, q7, q8⟩, _⟩ := hE.nine
    clear hal hb6 st6 hE
    go_wp2
    go_step3
    refine ⟨rfl, ?_⟩
    go_wp2
    rw [Exit.noGoto_ret]
    exact bodyPost_ret (v := .tuple #[tokv ByteArray.empty 0 false 0 ByteArray.empty (.slice none 0 0) (.slice none 0 0) ByteArray.empty (.slice none 0 0), .int .i64 81]) (by simp [results, Tryz.results12, go_sem, q0, q1, q2, q3, q4, q5, q6, q7, q8]; rfl) rfl HE.out
  have st6 := HST5.out.on hb6
  have hJ6h := HJ5h.out.on hb6
  have hJ6 := HJ5.out.on hb6
  obtain ⟨⟨y0, y1, y2, y3, y4, y5⟩, _⟩ := st6.hd.six
  have hKi := kidIn_any hd _ w6 hJ6h
  have HJ6 := Lib.hid hJ6
  have HST6 := Lib.hid st6
  have HAl := Lib.hid hal
  clear hJ6 hJ6h st6 hb6 HST5 HJ5 HJ5h hal
  go_wp2_with fail
  refine hKi.mono ?_
  intro e w7 hh
  clear hKi y0 y1 y2 y3 y4 y5
  obtain ⟨hb7, hh⟩ := hh
  cases hkd : Wq.kidOf hd with
  | none =>
    rw [hkd] at hh
    obtain rfl : e = .returned (.tuple #[.string ByteArray.empty, .bool false]) := hh
    have st7 := HST6.out.on hb7
    have HE := Lib.hid (open_bad (res := RES) (m := 80) (by rw [HOB.out, HOY.out]; exact Wq.openHead_kid HAl.out hkd) (by decide) st7.below)
    obtain ⟨⟨y0, y1, y2, y3, y4, y5, y6, y7, y8⟩, g0, g1, g2, g3, g4, g5, g6, g7, g8⟩ := st7.tok.nine
    have hE := st7.tok.put9 (a := .string { data := #[] }) (b := .int .i64 0) (c := .bool false) (d := .int .i64 0) (e := .string { data := #[] }) (f := .slice none 0 0) (x := .slice none 0 0) (y := .string { data := #[] }) (z := .slice none 0 0)
    obtain ⟨⟨q0, q1, q2, q3, q4, q5, q6, q7, q8⟩, _⟩ := hE.nine
    clear hkd hb7 st7 hE
    go_wp2
    go_step3
    refine ⟨rfl, ?_⟩
    go_wp2
    rw [Exit.noGoto_ret]
    exact bodyPost_ret (v := .tuple #[tokv ByteArray.empty 0 false 0 ByteArray.empty (.slice none 0 0) (.slice none 0 0) ByteArray.empty (.slice none 0 0), .int .i64 80]) (by simp [results, Tryz.results12, go_sem, q0, q1, q2, q3, q4, q5, q6, q7, q8]; rfl) rfl HE.out
  | some kid =>
    rw [hkd] at hh
    obtain rfl : e = .returned (.tuple #[.string (strOf kid), .bool true]) := hh
    have st7 := HST6.out.on hb7
    have hJ7 := HJ6.out.on hb7
    have p2 := st7.parts.cell 2
    have HKd := Lib.hid hkd
    clear hkd hb7 HST6 HJ6
    by_cases hC : C.length = 32
    rotate_left
    · have hdd : ((C.length : Int) != 32) = true := by rw [bne_iff_ne]; omega
      have HE := Lib.hid (open_bad (res := RES) (m := 82) (by rw [HOB.out, HOY.out]; exact Wq.openHead_mac HAl.out HKd.out hC) (by decide) st7.below)
      obtain ⟨⟨y0, y1, y2, y3, y4, y5, y6, y7, y8⟩, g0, g1, g2, g3, g4, g5, g6, g7, g8⟩ := st7.tok.nine
      have hE := st7.tok.put9 (a := .string { data := #[] }) (b := .int .i64 0) (c := .bool false) (d := .int .i64 0) (e := .string { data := #[] }) (f := .slice none 0 0) (x := .slice none 0 0) (y := .string { data := #[] }) (z := .slice none 0 0)
      obtain ⟨⟨q0, q1, q2, q3, q4, q5, q6, q7, q8⟩, _⟩ := hE.nine
      clear hC st7 hE
      go_wp2
      go_step3
      refine ⟨rfl, ?_⟩
      go_wp2
      rw [Exit.noGoto_ret]
      exact bodyPost_ret (v := .tuple #[tokv ByteArray.empty 0 false 0 ByteArray.empty (.slice none 0 0) (.slice none 0 0) ByteArray.empty (.slice none 0 0), .int .i64 82]) (by simp [results, Tryz.results12, go_sem, q0, q1, q2, q3, q4, q5, q6, q7, q8]; rfl) rfl HE.out
    have hdd : ((C.length : Int) != 32) = false := by rw [hC]; rfl
    have hSg : ∀ W, Calls Tryz.prog 34 #[.string s] W fun e w' => e = .returned (.string (strOf sg)) ∧ W = w' := fun W => by
      obtain ⟨c, h1, h2⟩ := Wq.three_signed HTH.out
      exact signedIn_any s sg c h1 h2 Hs.out W
    obtain ⟨⟨z0, z1, z2, z3, z4, z5⟩, _⟩ := st7.cl.six
    obtain ⟨⟨y0, y1, y2, y3, y4, y5, y6, y7, y8⟩, g0, g1, g2, g3, g4, g5, g6, g7, g8⟩ := st7.tok.nine
    simp only [List.getElem?_cons_zero, List.getElem?_cons_succ] at p2
    have hE := st7.tok.put9 (a := .string (strOf kid)) (b := .int .i64 cl.kind) (c := .bool cl.bool) (d := .int .i64 cl.int) (e := .string (strOf cl.text)) (f := .slice B1 cl.names.length d1) (x := .slice B2 cl.list.length d2) (y := .string (strOf sg)) (z := .slice PC C.length cc)
    obtain ⟨⟨q0, q1, q2, q3, q4, q5, q6, q7, q8⟩, _⟩ := hE.nine
    have hsg : (∀ x ∈ sg, x < 256) ∧ sg.length ≤ 12288 := by
      obtain ⟨c, h1, _⟩ := Wq.three_signed HTH.out
      have hl := HTH.out.1
      have hb := numsOf_lt s
      rw [h1] at hl hb
      rw [List.length_append] at hl
      exact ⟨fun x hx => hb x (List.mem_append_left _ hx), by omega⟩
    have hko : Wq.KidOk kid := by
      obtain ⟨_, _, _, _, hko, _⟩ := Wq.kidOf_some HKd.out
      exact hko
    have hRk : RES = .ok ⟨kid, cl, sg, C⟩ := by rw [HOB.out, HOY.out]; exact Wq.openHead_yes HAl.out HKd.out hC
    have HE := Lib.hid (open_good hRk st7.below st7.tok (hJ7.from (by omega)) st7.c hko.lt hsg)
    clear st7 hJ7 hC hE hsg hko hRk
    go_upto_region 16 with (fail)
    go_region_law (go_simp; go_at_call 34; refine (hSg _).mono ?_; rintro e wa ⟨rfl, hwa⟩; subst hwa; simp only [])
    all_goals
      go_wp2
      rw [jump_ret]
      exact bodyPost_ret (v := .tuple #[tokv (strOf kid) cl.kind cl.bool cl.int (strOf cl.text) (.slice B1 cl.names.length d1) (.slice B2 cl.list.length d2) (strOf sg) (.slice PC C.length cc), .int .i64 0]) (by simp [results, Tryz.results12, go_sem, q0, q1, q2, q3, q4, q5, q6, q7, q8]) rfl HE.out
end Go.Proofs.YthklgpflaghojaaGreatDoor

/-
  The law package's alive: it answers true.
-/
namespace Go.Proofs.YthklgpflaghojaaGreatDoor
open Go.RowKit
end Go.Proofs.YthklgpflaghojaaGreatDoor
