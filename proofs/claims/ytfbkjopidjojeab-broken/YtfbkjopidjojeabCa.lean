/-
  Plain mathematics of programs: what Compile does, as functions over lists.
-/
import Derived.Test.YtfbkjopidjojeabWj
namespace Go.Proofs.Ytfbkjopidjojeab
open Go.RowKit

/-- A list of bytes as a string. -/
def S (l : List UInt8) : ByteArray := ⟨l.toArray⟩
theorem S_data (l : List UInt8) : (S l).data.toList = l := rfl
theorem S_size (l : List UInt8) : (S l).size = l.length := by
  show l.toArray.size = _; simp
theorem S_of (s : ByteArray) : S s.data.toList = s := by
  cases s; simp [S]
theorem S_inj {a b : List UInt8} (h : S a = S b) : a = b := by
  have := congrArg (fun s : ByteArray => s.data.toList) h; simpa [S_data] using this
theorem S_ext (s : ByteArray) (a b : Nat) : s.extract a b = S ((s.data.toList.drop a).take (b - a)) := by
  rw [← S_of (s.extract a b), ext_toList]

/-- What stands between the marks. -/
def cutL (m : UInt8) : List UInt8 → List (List UInt8)
  | [] => [[]]
  | c :: r => if c == m then [] :: cutL m r else match cutL m r with
    | [] => [[c]]
    | h :: t => (c :: h) :: t
/-- The pieces that are not empty. -/
def filL (ps : List (List UInt8)) : List (List UInt8) := ps.filter fun p => !p.isEmpty

def isLet (c : UInt8) : Bool := decide (97 ≤ c.toNat) && decide (c.toNat ≤ 122)
def isDig (c : UInt8) : Bool := decide (48 ≤ c.toNat) && decide (c.toNat ≤ 57)
/-- Is it a name? -/
def okN (p : List UInt8) : Bool := match p with
  | [] => false
  | c :: r => decide (p.length ≤ 6) && !(p == [105, 110]) && !(p == [111, 117, 116]) && isLet c && r.all fun x => isLet x || isDig x

/-- What digits mean. -/
def digN (l : List UInt8) : Int := l.foldl (fun a c => a * 10 + ((c.toNat : Int) - 48)) 0
def okD (l : List UInt8) : Bool := decide (0 < l.length) && decide (l.length ≤ 10) && l.all isDig
/-- The number that a piece is. -/
def numL (p : List UInt8) : Option Int := match p with
  | [] => none
  | c :: r => if c == 45 then (if okD r then some (-digN r) else none) else if okD p then some (digN p) else none

/-- The shortest second part. -/
def perL (f : Nat → Bool) (m p : Nat) : Nat := ((List.range (p + 1)).find? fun q => decide (0 < q) && decide (p % q = 0) && (List.range (p - q)).all fun i => f (m + i + q) == f (m + i)).getD 0
/-- The shortest first part. -/
def preL (f : Nat → Bool) (m q : Nat) : Nat := ((List.range (m + 1)).find? fun k => (List.range (m - k)).all fun i => f (k + i + q) == f (k + i)).getD 0
/-- The normal form of a stream that repeats from m on after p. -/
def nfL (f : Nat → Bool) (m p : Nat) : List Bool × List Bool :=
  let q := perL f m p
  let k := preL f m q
  (tab f 0 k, tab f k q)

abbrev Wd := List Bool × List Bool
/-- The word that a piece is. -/
def wdL (p : List UInt8) : Option Wd := if okW p then
    let u := toB (pU p)
    let v := toB (pV p)
    some (nfL (bitAt u v) u.length v.length) else none

/-- A line. -/
structure Ln where
  no : Nat
  kind : Nat
  name : List UInt8
  uses : List (List UInt8)
  num : Int
  wd : Wd
def Ln.zero : Ln := ⟨0, 0, [], [], 0, ([], [])⟩

/-- A piece is taken into a line. -/
def takeL (l : Ln) (want : UInt8) (p : List UInt8) : Option Ln :=
  if want == 110 then (numL p).map fun n => { l with num := n }
  else if want == 119 then (wdL p).map fun w => { l with wd := w }
  else if okN p then some { l with uses := l.uses ++ [p] } else none
def fillL (l : Ln) : List UInt8 → List (List UInt8) → Option Ln
  | [], [] => some l
  | c :: s, p :: ps => match takeL l c p with
    | none => none
    | some l' => fillL l' s ps
  | _, _ => none

/-- An operation's kind, and the shape of what must stand behind it. -/
def operL (p : List UInt8) : Nat × List UInt8 :=
  if p == [99, 111, 110, 115, 116] then (2, [110, 119])
  else if p == [97, 100, 100] then (3, [97, 97])
  else if p == [115, 117, 98] then (4, [97, 97])
  else if p == [109, 117, 108] then (5, [97, 97])
  else if p == [100, 105, 118] then (6, [97, 97])
  else if p == [108, 101, 115, 115] then (7, [97, 97])
  else if p == [105, 102] then (8, [97, 97, 97])
  else if p == [102, 98, 121] then (9, [110, 97])
  else if p == [119, 104, 101, 110] then (10, [97, 119])
  else if p == [109, 101, 114, 103, 101] then (11, [119, 97, 97])
  else if p == [98, 117, 102, 102, 101, 114] then (12, [97, 119])
  else (0, [])
def ownL (kind : Nat) (own : List UInt8) (shape : List UInt8) (ps : List (List UInt8)) : Option Ln :=
  if okN own then fillL { Ln.zero with kind := kind, name := own } shape ps else none
def parseL (ps : List (List UInt8)) : Option Ln := match ps with
  | a :: b :: r =>
    if a == [105, 110] then ownL 1 b [119] r
    else if a == [111, 117, 116] then fillL { Ln.zero with kind := 13 } [97] (b :: r)
    else match r with
      | c :: r' => if b == [61] then (if (operL c).1 == 0 then none else ownL (operL c).1 a (operL c).2 r') else none
      | [] => none
  | _ => none

/-- The lines of a text that are not empty, with their numbers (n: those ahead); .error k: line k has no form. -/
def readL : Nat → List (List UInt8) → Except Nat (List Ln)
  | _, [] => .ok []
  | n, r :: rs =>
    let ps := filL (cutL 32 r)
    if ps.isEmpty then readL (n + 1) rs
    else match parseL ps with
      | none => .error (n + 1)
      | some l => match readL (n + 1) rs with
        | .error k => .error k
        | .ok ls => .ok ({ l with no := n + 1 } :: ls)

/-- An error and a line. -/
abbrev Flt := Nat × Nat
/-- Read's end. -/
def finL : Except Nat (List Ln) → Except Flt (List Ln)
  | .error k => .error (5, k)
  | .ok ls => match ls[24]? with
    | some l => .error (6, l.no)
    | none => .ok ls
/-- Read. -/
def sourceL (t : List UInt8) : Except Flt (List Ln) := if 800 < t.length then .error (4, 0) else finL (readL 0 (cutL 10 t))

/-- A step. -/
structure St where
  no : Nat
  kind : Nat
  name : List UInt8
  uses : List Nat
  num : Int
  wd : Wd
  ck : Wd

/-- Which line has the name. -/
def ownerL (ls : List Ln) (name : List UInt8) : Option Nat := ls.findIdx? fun l => l.name == name
/-- Is its own name an earlier one's? -/
def twiceAt (ls : List Ln) (n : Nat) : Bool := match ls[n]? with
  | none => false
  | some l => !l.name.isEmpty && (ownerL (ls.take n) l.name).isSome
/-- The first line whose own name an earlier one has. -/
def twiceL (ls : List Ln) : Option Nat := (List.range ls.length).find? (twiceAt ls)
def ownersL (ls : List Ln) (names : List (List UInt8)) : Option (List Nat) := if names.all (fun n => (ownerL ls n).isSome) then some (names.map fun n => (ownerL ls n).getD 0) else none
def stepL (ls : List Ln) (l : Ln) : Option St := (ownersL ls l.uses).map fun u => ⟨l.no, l.kind, l.name, u, l.num, l.wd, ([], [])⟩
def linkL (all : List Ln) : List Ln → Except Flt (List St)
  | [] => .ok []
  | l :: ls => match stepL all l with
    | none => .error (8, l.no)
    | some s => match linkL all ls with
      | .error f => .error f
      | .ok r => .ok (s :: r)
end Go.Proofs.Ytfbkjopidjojeab
