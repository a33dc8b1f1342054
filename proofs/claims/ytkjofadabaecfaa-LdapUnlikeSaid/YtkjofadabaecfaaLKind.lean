/-
  The two kinds; the closure that assembles a message, made.
-/
import Derived.Test.YtkjofadabaecfaaLMsg
import Derived.Lib.ConvBytes
namespace Go.Proofs.Ytkjofadabaecfaa
open Go.RowKit

abbrev kv (k : Bq.K) : Value := .agg #[.int .u8 (k.g : Int), .int .u8 (k.a : Int), .int .u8 (k.b : Int), .int .u8 (k.c : Int)]
/-- The world in which a kind was told. -/
abbrev kindW (k : Bq.K) (w : World) : World := w.alloc (.cells #[.int .u8 (k.g : Int), .int .u8 (k.a : Int), .int .u8 (k.b : Int), .int .u8 (k.c : Int)] 47)
set_option maxHeartbeats 1000000 in
set_option maxRecDepth 100000 in
theorem ofBind_any (w : World) : Calls Try.prog 21 #[] w fun e w' => e = .returned (kv Bq.bindK) ∧ kindW Bq.bindK w = w' := by
  go_enter Try.func21, Try.ntmps21
  go_wp2
  refine bodyPost_ret (v := kv Bq.bindK) ?_ rfl ?_
  · simp [results, Try.results21, go_sem]
    decide
  · exact ⟨rfl, rfl⟩
set_option maxHeartbeats 1000000 in
set_option maxRecDepth 100000 in
theorem ofBound_any (w : World) : Calls Try.prog 29 #[] w fun e w' => e = .returned (kv Bq.boundK) ∧ kindW Bq.boundK w = w' := by
  go_enter Try.func29, Try.ntmps29
  go_wp2
  refine bodyPost_ret (v := kv Bq.boundK) ?_ rfl ?_
  · simp [results, Try.results29, go_sem]
    decide
  · exact ⟨rfl, rfl⟩
/-- The closure, as a value. -/
abbrev msgFn (K0 P0 : Nat) : Value := .func (.func 37) #[] #[.pointer (some ⟨K0, 0, none⟩), .pointer (some ⟨P0, 0, none⟩)]
set_option maxHeartbeats 1000000 in
set_option maxRecDepth 100000 in
theorem message_any (k : Bq.K) (s0 s1 s2 : Value) (w : World) : Calls Try.prog 22 #[kv k, .agg #[s0, s1, s2]] w fun e w' => e = .returned (msgFn w.heap.size (w.heap.size + 1)) ∧ (kindW k w).alloc (.cells #[s0, s1, s2] 50) = w' := by
  have hmf : ∀ (fn : Fn) (first cap : Array Value) (w : World), (Instr.makeFunc fn first cap).run Try.prog w = .ok (.func fn first cap) w := fun _ _ _ _ => rfl
  go_enter Try.func22, Try.ntmps22
  go_wp2
  go_ret
  exact ⟨rfl, rfl⟩
/-- The bytes of a text, laid: in which world, and with which room. -/
theorem conv_is (s : ByteArray) (hs : s.size ≤ 140737488355328) : ∃ (CW : World → World) (CC : World → Nat), ∀ W, (convert 9 24 (.string s)).run Try.prog W = .ok (.slice (some ⟨W.heap.size, 0, none⟩) s.size (CC W)) (CW W) ∧
    ArgIs (CW W) (some ⟨W.heap.size, 0, none⟩) (CC W) (numsOf s) ∧ Below W.heap.size W (CW W) ∧ (CW W).heap.size = W.heap.size + 1 := by
  refine ⟨fun W => Lib.bytesWorld W 5 s, fun W => grownCap W s.size 0 5, fun W => ⟨Lib.run_convert_string_bytes (P := Try.prog) W 9 24 5 s Try.underlying9 Try.underlying24 Try.underlying5, ?_, ⟨rfl, rfl, rfl, by rw [Lib.bytesWorld_size]; omega, fun j hj => Lib.bytesWorld_at_old W _ s j hj⟩, Lib.bytesWorld_size _ _ _⟩⟩
  have h1 := grownCap_ge W s.size 0 5
  have h2 := grownCap_le_maxLen W s.size 0 5 (by unfold maxLen; omega)
  unfold maxLen at h2
  refine ⟨by rw [numsOf_length]; exact h1, by omega, numsOf_lt s, fun _ => ⟨W.heap.size, 0, rfl, by rw [Lib.bytesWorld_size]; omega, fun j x hj => ?_⟩⟩
  have hjl : j < s.size := by
    have := (List.getElem?_eq_some_iff.1 hj).1
    rwa [numsOf_length] at this
  refine ⟨numsOf_lt s x (List.mem_of_getElem? hj), ?_⟩
  rw [Nat.zero_add, Lib.bytesWorld_cell W _ s j hjl]
  congr 2
  have h' : j < s.data.toList.length := by simpa using hjl
  simp only [numsOf, List.getElem?_map, List.getElem?_eq_getElem h', Option.map_some, Option.some.injEq] at hj
  rw [← hj, List.getD_eq_getElem?_getD, List.getElem?_eq_getElem h']
  rfl
theorem arg_made {W : World} {q : List Nat} {g n : Nat} {cs : Array Value} (hcs : cs = (u8s q).toArray) (hg : g = W.heap.size) (hn : n = q.length) (hq : ∀ x ∈ q, x < 256) (hl : q.length ≤ 1000) : ArgIs (W.alloc (.cells cs 5)) (some ⟨g, 0, none⟩) n q := by
  subst hcs hn
  exact arg_new hg _ _ q _ hq (Nat.le_refl _) (by omega)
/-- The closure, called where it was just made. -/
theorem ready_any {k : Bq.K} (hk : Bq.Two k) (n : Int) (p q r : List Nat) (A1 A2 A3 : Option Addr) (n1 n2 n3 c1 c2 c3 : Nat) (W : World) (hp : ArgIs W A1 c1 p) (hq : ArgIs W A2 c2 q) (hr : ArgIs W A3 c3 r)
    (hn1 : n1 = p.length) (hn2 : n2 = q.length) (hn3 : n3 = r.length) (hl : p.length ≤ 140737488355328 ∧ q.length ≤ 140737488355328 ∧ r.length ≤ 140737488355328) {g g' : Nat} (hg : g = W.heap.size) (hg' : g' = W.heap.size + 1) :
    Calls Try.prog 37 #[.int .i64 n, .pointer (some ⟨g, 0, none⟩), .pointer (some ⟨g', 0, none⟩)] ((kindW k W).alloc (.cells #[.slice A1 n1 c1, .slice A2 n2 c2, .slice A3 n3 c3] 50))
      fun e w' => PutEnd (Bq.put k n p q r) W e w' := by
  subst hn1 hn2 hn3 hg hg'
  have hb : Below W.heap.size W ((kindW k W).alloc (.cells #[.slice A1 p.length c1, .slice A2 q.length c2, .slice A3 r.length c3] 50)) := below_alloc ((Below.refl _ _).alloc (Nat.le_refl _) _) _
  refine (message1_any hk n W.heap.size (W.heap.size + 1) p q r A1 A2 A3 c1 c2 c3 _ ((Lies.new_ rfl).alloc _) (Lies.new_ (by simp)) (hp.on hb) (hq.on hb) (hr.on hb) hl).mono ?_
  intro e w' h
  obtain ⟨hb2, h⟩ := h
  exact ⟨below_more hb hb2, h⟩
end Go.Proofs.Ytkjofadabaecfaa
