/-
  G01: ZM, side by side.
-/
import Derived.Test.YtnbaajdcakjlmaaDoorQA

/-
  Rules, plain: how rules are read and written, as functions on lists of numbers. What is left to read is the rest of the list.
-/
namespace Go.Proofs.YtnbaajdcakjlmaaDoor.Zq

/-! Tokens. -/
def blank (c : Nat) : Bool := c == 32 || c == 10
def low (c : Nat) : Bool := decide (97 ≤ c) && decide (c ≤ 122)
def dig (c : Nat) : Bool := decide (48 ≤ c) && decide (c ≤ 57)
def inName (c : Nat) : Bool := low c || dig c || c == 95
def skip (l : List Nat) : List Nat := l.dropWhile blank
def top : Nat := 9007199254740991
inductive Tok where
  | fin | name (t : List Nat) | num (n : Nat) | text (t : List Nat) | sign (t : List Nat)
  deriving DecidableEq
/-- A text, from behind its first mark. -/
def textP : List Nat → Option (List Nat × List Nat)
  | [] => none
  | c :: r =>
    if 32 ≤ c ∧ c ≤ 126 then
      if c = 39 then some ([], r)
      else if c = 92 then
        match r with
        | [] => none
        | e :: q => if e = 39 ∨ e = 92 then (textP q).map fun x => (e :: x.1, x.2) else none
      else (textP r).map fun x => (c :: x.1, x.2)
    else none
def signs : List Nat := [40, 41, 44, 59, 61, 60, 43, 36]
/-- The token that comes next, and what is behind it; none: there is none that is right. -/
def next (l : List Nat) : Option (Tok × List Nat) :=
  match skip l with
  | [] => some (.fin, [])
  | c :: r =>
    if low c then
      if 32 < ((c :: r).takeWhile inName).length then none else some (.name ((c :: r).takeWhile inName), (c :: r).dropWhile inName)
    else if dig c then
      if top < Uq.val ((c :: r).takeWhile dig) ∨ (c = 48 ∧ 1 < ((c :: r).takeWhile dig).length) then none else some (.num (Uq.val ((c :: r).takeWhile dig)), (c :: r).dropWhile dig)
    else if c = 39 then (textP r).map fun x => (.text x.1, x.2)
    else if c = 61 ∧ r.head? = some 61 then some (.sign [61, 61], r.tail)
    else if c ∈ signs then some (.sign [c], r)
    else none

/-! Words. -/
def wHas : List Nat := [104, 97, 115]
def wLower : List Nat := [108, 111, 119, 101, 114]
def wFirst : List Nat := [102, 105, 114, 115, 116]
def wHead : List Nat := [104, 101, 97, 100]
def wTail : List Nat := [116, 97, 105, 108]
def wStarts : List Nat := [115, 116, 97, 114, 116, 115]
def wWhen : List Nat := [119, 104, 101, 110]
def wDeny : List Nat := [100, 101, 110, 121]
def wOr : List Nat := [111, 114]
def wAnd : List Nat := [97, 110, 100]
def wNot : List Nat := [110, 111, 116]
def wIn : List Nat := [105, 110]
def wElse : List Nat := [101, 108, 115, 101]
def words : List (List Nat) := [wWhen, wDeny, wOr, wAnd, wNot, wIn, wElse, wLower, wFirst, wHead, wTail, wStarts, wHas]
/-- A function's number; 0: it is none. -/
def fnOp (t : List Nat) : Int := if t = wHas then 4 else if t = wLower then 6 else if t = wFirst then 7 else if t = wHead then 8 else if t = wTail then 9 else if t = wStarts then 17 else 0

/-! Expressions. -/
structure Nd where
  op : Int
  int : Int
  a : Int
  b : Int
  text : List Nat
  deriving DecidableEq
/-- What is left to read, and the expression's nodes. -/
abbrev St := List Nat × List Nd
abbrev PS := St → Except Nat (Int × St)
def isTok (t : Tok) (s : List Nat) : Bool := decide (t = .name s) || decide (t = .sign s)
/-- Is this sign or word next? -/
def isP (s l : List Nat) : Except Nat Bool :=
  match next l with
  | none => .error 111
  | some (t, _) => .ok (isTok t s)
/-- Behind a sign or word that must stand there. -/
def past (s l : List Nat) : Except Nat (List Nat) :=
  match next l with
  | none => .error 111
  | some (t, q) => if isTok t s then .ok q else .error 111
def nameP (l : List Nat) : Except Nat (List Nat × List Nat) :=
  match next l with
  | some (.name t, q) => .ok (t, q)
  | _ => .error 111
def add (n : Nd) : PS := fun s => if 48 ≤ s.2.length then .error 112 else .ok (s.2.length, (s.1, s.2 ++ [n]))
/-- A function's operands and its node, from behind its word. (Without an inner reading nothing more may be opened.) -/
def call (inner : Option PS) (op : Int) : PS := fun s =>
  match past [40] s.1 with
  | .error e => .error e
  | .ok l1 =>
    match inner with
    | none => .error 113
    | some f =>
      if op = 4 then
        match past [36] l1 with
        | .error e => .error e
        | .ok l2 =>
          match nameP l2 with
          | .error e => .error e
          | .ok (t, l3) =>
            match past [41] l3 with
            | .error e => .error e
            | .ok l4 => add ⟨4, 0, 0, 0, t⟩ (l4, s.2)
      else
        match f (l1, s.2) with
        | .error e => .error e
        | .ok (a, s2) =>
          if op = 17 then
            match past [44] s2.1 with
            | .error e => .error e
            | .ok l3 =>
              match f (l3, s2.2) with
              | .error e => .error e
              | .ok (b, s4) =>
                match past [41] s4.1 with
                | .error e => .error e
                | .ok l5 => add ⟨17, 0, a, b, []⟩ (l5, s4.2)
          else
            match past [41] s2.1 with
            | .error e => .error e
            | .ok l3 => add ⟨op, 0, a, 0, []⟩ (l3, s2.2)
def atom (inner : Option PS) : PS := fun s =>
  match next s.1 with
  | none => .error 111
  | some (t, q) =>
    match t with
    | .text x => add ⟨1, 0, 0, 0, x⟩ (q, s.2)
    | .num n => add ⟨2, n, 0, 0, []⟩ (q, s.2)
    | .sign x =>
      if x = [36] then
        match nameP q with
        | .error e => .error e
        | .ok (y, q2) => add ⟨3, 0, 0, 0, y⟩ (q2, s.2)
      else if x = [40] then
        match inner with
        | none => .error 113
        | some f =>
          match f (q, s.2) with
          | .error e => .error e
          | .ok (n, s2) =>
            match past [41] s2.1 with
            | .error e => .error e
            | .ok l3 => .ok (n, (l3, s2.2))
      else .error 111
    | .name x => if fnOp x = 0 then .error 111 else call inner (fnOp x) (q, s.2)
    | .fin => .error 111
/-- The operators of a level, from below: 1 is the one next to the atoms, 6 the outermost. -/
def opsAt : Nat → List (List Nat × Int)
  | 6 => [(wOr, 15)]
  | 5 => [(wAnd, 14)]
  | 3 => [([61, 61], 10), ([60], 11), (wIn, 12)]
  | 2 => [([43], 5)]
  | 1 => [(wElse, 16)]
  | _ => []
/-- The operator of a level that stands next, behind it; 0: there is none. -/
def operP (k : Nat) (l : List Nat) : Except Nat (Int × List Nat) :=
  if opsAt k = [] then .ok (0, l)
  else match next l with
    | none => .error 111
    | some (t, q) =>
      match (opsAt k).find? (fun w => isTok t w.1) with
      | some w => .ok (w.2, q)
      | none => .ok (0, l)
/-- The operators of a level and what stands behind each. -/
def loop (f : PS) (k : Nat) : Nat → Int → PS
  | 0, _, _ => .error 112
  | n + 1, left, s =>
    match operP k s.1 with
    | .error e => .error e
    | .ok (op, q) =>
      if op = 0 then .ok (left, (q, s.2))
      else match f (q, s.2) with
        | .error e => .error e
        | .ok (right, s2) =>
          match add ⟨op, 0, left, right, []⟩ s2 with
          | .error e => .error e
          | .ok (i, s3) => if k = 3 then .ok (i, s3) else loop f k n i s3
/-- The level of not. -/
def notP (inner : Option PS) (f : PS) : PS := fun s =>
  match next s.1 with
  | none => .error 111
  | some (t, q) =>
    if isTok t wNot then
      match inner with
      | none => .error 113
      | some g =>
        match g (q, s.2) with
        | .error e => .error e
        | .ok (n, s2) => add ⟨13, 0, n, 0, []⟩ s2
    else f s
/-- A level, where so many may yet be opened (none: no more). -/
def lvl (inner : Option (Nat → PS)) : Nat → PS
  | 0 => atom (inner.map (· 6))
  | k + 1 =>
    if k + 1 = 4 then notP (inner.map (· 4)) (lvl inner k)
    else fun s =>
      match lvl inner k s with
      | .error e => .error e
      | .ok (left, s2) => loop (lvl inner k) (k + 1) 49 left s2
def row : Nat → Nat → PS
  | 0 => lvl none
  | d + 1 => lvl (some (row d))
def exprP (l : List Nat) : Except Nat (List Nd × List Nat) :=
  match row 16 6 (l, []) with
  | .error e => .error e
  | .ok (_, s) => .ok (s.2, s.1)

/-! Rules. -/
structure Rl where
  name : List Nat
  expr : List Nd
  cond : List Nd
  deriving DecidableEq
def ruleP (many : Nat) (l : List Nat) : Except Nat (Rl × List Nat) :=
  match nameP l with
  | .error e => .error e
  | .ok (t, l1) =>
    if 16 ≤ many then .error 112
    else if t = wDeny then
      match past wWhen l1 with
      | .error e => .error e
      | .ok l2 =>
        match exprP l2 with
        | .error e => .error e
        | .ok (c, l3) => .ok (⟨[], [], c⟩, l3)
    else if t ∈ words then .error 111
    else
      match past [61] l1 with
      | .error e => .error e
      | .ok l2 =>
        match exprP l2 with
        | .error e => .error e
        | .ok (x, l3) =>
          match isP wWhen l3 with
          | .error e => .error e
          | .ok more =>
            if more then
              match past wWhen l3 with
              | .error e => .error e
              | .ok l4 =>
                match exprP l4 with
                | .error e => .error e
                | .ok (c, l5) => .ok (⟨t, x, c⟩, l5)
            else .ok (⟨t, x, []⟩, l3)
/-- Is all read? -/
def overP (l : List Nat) : Except Nat Bool :=
  match next l with
  | none => .error 111
  | some (t, _) => .ok (decide (t = .fin))
/-- Rules, behind those that were read. -/
def rulesP : Nat → List Rl → List Nat → Except Nat (List Rl)
  | 0, _, _ => .error 112
  | n + 1, rs, l =>
    match overP l with
    | .error e => .error e
    | .ok true => .ok rs
    | .ok false =>
      match ruleP rs.length l with
      | .error e => .error e
      | .ok (r, l2) =>
        match overP l2 with
        | .error e => .error e
        | .ok true => .ok (rs ++ [r])
        | .ok false =>
          match past [59] l2 with
          | .error e => .error e
          | .ok l3 => rulesP n (rs ++ [r]) l3
def parse (s : List Nat) : Except Nat (List Rl) := if 4096 < s.length then .error 110 else rulesP 18 [] s

/-! Writing. -/
def binds (op : Int) : Nat := if op = 15 then 1 else if op = 14 then 2 else if op = 13 then 3 else if op = 10 ∨ op = 11 ∨ op = 12 then 4 else if op = 5 then 5 else if op = 16 then 6 else 7
def between (op : Int) : List Nat := if op = 15 then wOr else if op = 14 then wAnd else if op = 10 then [61, 61] else if op = 11 then [60] else if op = 12 then wIn else if op = 5 then [43] else if op = 16 then wElse else []
def called (op : Int) : List Nat := if op = 6 then wLower else if op = 7 then wFirst else if op = 8 then wHead else if op = 9 then wTail else if op = 17 then wStarts else []
def quoted (t : List Nat) : List Nat := 39 :: (t.flatMap fun c => if c = 39 ∨ c = 92 then [92, c] else [c]) ++ [39]
/-- The number of an operand, if it comes ahead. -/
def ahead (i : Nat) (a : Int) : Option Nat := if 0 ≤ a ∧ a < i then some a.toNat else none
/-- A node and what it reaches, inside so many others less than 64. -/
def node (l : List Nd) : Nat → Nat → List Nat
  | 0, _ => [63]
  | d + 1, i =>
    match l[i]? with
    | none => [63]
    | some n =>
      if n.op = 1 then quoted n.text
      else if n.op = 2 then Jq.decimal n.int
      else if n.op = 3 then 36 :: n.text
      else if n.op = 4 then wHas ++ 40 :: 36 :: n.text ++ [41]
      else if n.op = 13 then
        match ahead i n.a with
        | none => [63]
        | some a => wNot ++ 32 :: (if (l[a]?.map (binds ·.op)).getD 0 < 3 then 40 :: node l d a ++ [41] else node l d a)
      else if n.op = 17 then
        match ahead i n.a, ahead i n.b with
        | some a, some b => wStarts ++ 40 :: node l d a ++ 44 :: 32 :: node l d b ++ [41]
        | _, _ => [63]
      else if called n.op ≠ [] then
        match ahead i n.a with
        | none => [63]
        | some a => called n.op ++ 40 :: node l d a ++ [41]
      else if between n.op ≠ [] then
        match ahead i n.a, ahead i n.b with
        | some a, some b =>
          (if (l[a]?.map (binds ·.op)).getD 0 < (if binds n.op = 4 then 5 else binds n.op) then 40 :: node l d a ++ [41] else node l d a) ++ 32 :: between n.op ++ 32 ::
            (if (l[b]?.map (binds ·.op)).getD 0 < binds n.op + 1 then 40 :: node l d b ++ [41] else node l d b)
        | _, _ => [63]
      else [63]
def written (l : List Nd) : List Nat := if l = [] then [] else node l 64 (l.length - 1)
def ruleW (r : Rl) : List Nat := if r.name = [] then wDeny ++ 32 :: wWhen ++ 32 :: written r.cond else r.name ++ 32 :: 61 :: 32 :: written r.expr ++ (if r.cond = [] then [] else 32 :: wWhen ++ 32 :: written r.cond)
def whole (l : List Rl) : List Nat := ((l.map ruleW).intersperse [59, 32]).flatten
def print (l : List Rl) : List Nat := if 4096 < (whole l).length then [] else whole l
def right (l : List Rl) : Bool := match parse (print l) with | .ok m => decide (m = l) | .error _ => false
end Go.Proofs.YtnbaajdcakjlmaaDoor.Zq
