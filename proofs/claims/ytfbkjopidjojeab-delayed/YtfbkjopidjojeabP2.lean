/-
  Joined: Ca Cb Cc Cd Ce Cf Cg Ch Ci Cj.
-/
import Derived.Test.YtfbkjopidjojeabP1
import Derived.Deep.RegionHeld3
namespace Go.Proofs.Ytfbkjopidjojeab
open Go.RowKit

/-- A list of bytes as a string. -/
def S (l : List UInt8) : ByteArray := ⟨l.toArray⟩
theorem S_data (l : List UInt8) : (S l).data.toList = l := rfl
theorem S_size (l : List UInt8) : (S l).size = l.length := by
  show l.toArray.size = _; simp
theorem S_of (s : ByteArray) : S s.data.toList = s := by
  cases s; simp [S]
theorem S_inj {a b : List UInt8} (h : S a = S b) : a = b := by
  have := congrArg (fun s : ByteArray => s.data.toList) h; simpa [S_data] using this
theorem S_ext (s : ByteArray) (a b : Nat) : s.extract a b = S ((s.data.toList.drop a).take (b - a)) := by
  rw [← S_of (s.extract a b), ext_toList]

/-- What stands between the marks. -/
def cutL (m : UInt8) : List UInt8 → List (List UInt8)
  | [] => [[]]
  | c :: r => if c == m then [] :: cutL m r else match cutL m r with
    | [] => [[c]]
    | h :: t => (c :: h) :: t
/-- The pieces that are not empty. -/
def filL (ps : List (List UInt8)) : List (List UInt8) := ps.filter fun p => !p.isEmpty

def isLet (c : UInt8) : Bool := decide (97 ≤ c.toNat) && decide (c.toNat ≤ 122)
def isDig (c : UInt8) : Bool := decide (48 ≤ c.toNat) && decide (c.toNat ≤ 57)
/-- Is it a name? -/
def okN (p : List UInt8) : Bool := match p with
  | [] => false
  | c :: r => decide (p.length ≤ 6) && !(p == [105, 110]) && !(p == [111, 117, 116]) && isLet c && r.all fun x => isLet x || isDig x

/-- What digits mean. -/
def digN (l : List UInt8) : Int := l.foldl (fun a c => a * 10 + ((c.toNat : Int) - 48)) 0
def okD (l : List UInt8) : Bool := decide (0 < l.length) && decide (l.length ≤ 10) && l.all isDig
/-- The number that a piece is. -/
def numL (p : List UInt8) : Option Int := match p with
  | [] => none
  | c :: r => if c == 45 then (if okD r then some (-digN r) else none) else if okD p then some (digN p) else none

/-- The shortest second part. -/
def perL (f : Nat → Bool) (m p : Nat) : Nat := ((List.range (p + 1)).find? fun q => decide (0 < q) && decide (p % q = 0) && (List.range (p - q)).all fun i => f (m + i + q) == f (m + i)).getD 0
/-- The shortest first part. -/
def preL (f : Nat → Bool) (m q : Nat) : Nat := ((List.range (m + 1)).find? fun k => (List.range (m - k)).all fun i => f (k + i + q) == f (k + i)).getD 0
/-- The normal form of a stream that repeats from m on after p. -/
def nfL (f : Nat → Bool) (m p : Nat) : List Bool × List Bool :=
  let q := perL f m p
  let k := preL f m q
  (tab f 0 k, tab f k q)

abbrev Wd := List Bool × List Bool
/-- The word that a piece is. -/
def wdL (p : List UInt8) : Option Wd := if okW p then
    let u := toB (pU p)
    let v := toB (pV p)
    some (nfL (bitAt u v) u.length v.length) else none

/-- A line. -/
structure Ln where
  no : Nat
  kind : Nat
  name : List UInt8
  uses : List (List UInt8)
  num : Int
  wd : Wd
def Ln.zero : Ln := ⟨0, 0, [], [], 0, ([], [])⟩

/-- A piece is taken into a line. -/
def takeL (l : Ln) (want : UInt8) (p : List UInt8) : Option Ln :=
  if want == 110 then (numL p).map fun n => { l with num := n }
  else if want == 119 then (wdL p).map fun w => { l with wd := w }
  else if okN p then some { l with uses := l.uses ++ [p] } else none
def fillL (l : Ln) : List UInt8 → List (List UInt8) → Option Ln
  | [], [] => some l
  | c :: s, p :: ps => match takeL l c p with
    | none => none
    | some l' => fillL l' s ps
  | _, _ => none

/-- An operation's kind, and the shape of what must stand behind it. -/
def operL (p : List UInt8) : Nat × List UInt8 :=
  if p == [99, 111, 110, 115, 116] then (2, [110, 119])
  else if p == [97, 100, 100] then (3, [97, 97])
  else if p == [115, 117, 98] then (4, [97, 97])
  else if p == [109, 117, 108] then (5, [97, 97])
  else if p == [100, 105, 118] then (6, [97, 97])
  else if p == [108, 101, 115, 115] then (7, [97, 97])
  else if p == [105, 102] then (8, [97, 97, 97])
  else if p == [102, 98, 121] then (9, [110, 97])
  else if p == [119, 104, 101, 110] then (10, [97, 119])
  else if p == [109, 101, 114, 103, 101] then (11, [119, 97, 97])
  else if p == [98, 117, 102, 102, 101, 114] then (12, [97, 119])
  else (0, [])
def ownL (kind : Nat) (own : List UInt8) (shape : List UInt8) (ps : List (List UInt8)) : Option Ln :=
  if okN own then fillL { Ln.zero with kind := kind, name := own } shape ps else none
def parseL (ps : List (List UInt8)) : Option Ln := match ps with
  | a :: b :: r =>
    if a == [105, 110] then ownL 1 b [119] r
    else if a == [111, 117, 116] then fillL { Ln.zero with kind := 13 } [97] (b :: r)
    else match r with
      | c :: r' => if b == [61] then (if (operL c).1 == 0 then none else ownL (operL c).1 a (operL c).2 r') else none
      | [] => none
  | _ => none

/-- The lines of a text that are not empty, with their numbers (n: those ahead); .error k: line k has no form. -/
def readL : Nat → List (List UInt8) → Except Nat (List Ln)
  | _, [] => .ok []
  | n, r :: rs =>
    let ps := filL (cutL 32 r)
    if ps.isEmpty then readL (n + 1) rs
    else match parseL ps with
      | none => .error (n + 1)
      | some l => match readL (n + 1) rs with
        | .error k => .error k
        | .ok ls => .ok ({ l with no := n + 1 } :: ls)

/-- An error and a line. -/
abbrev Flt := Nat × Nat
/-- Read's end. -/
def finL : Except Nat (List Ln) → Except Flt (List Ln)
  | .error k => .error (5, k)
  | .ok ls => match ls[24]? with
    | some l => .error (6, l.no)
    | none => .ok ls
/-- Read. -/
def sourceL (t : List UInt8) : Except Flt (List Ln) := if 800 < t.length then .error (4, 0) else finL (readL 0 (cutL 10 t))

/-- A step. -/
structure St where
  no : Nat
  kind : Nat
  name : List UInt8
  uses : List Nat
  num : Int
  wd : Wd
  ck : Wd

/-- Which line has the name. -/
def ownerL (ls : List Ln) (name : List UInt8) : Option Nat := ls.findIdx? fun l => l.name == name
/-- Is its own name an earlier one's? -/
def twiceAt (ls : List Ln) (n : Nat) : Bool := match ls[n]? with
  | none => false
  | some l => !l.name.isEmpty && (ownerL (ls.take n) l.name).isSome
/-- The first line whose own name an earlier one has. -/
def twiceL (ls : List Ln) : Option Nat := (List.range ls.length).find? (twiceAt ls)
def ownersL (ls : List Ln) (names : List (List UInt8)) : Option (List Nat) := if names.all (fun n => (ownerL ls n).isSome) then some (names.map fun n => (ownerL ls n).getD 0) else none
def stepL (ls : List Ln) (l : Ln) : Option St := (ownersL ls l.uses).map fun u => ⟨l.no, l.kind, l.name, u, l.num, l.wd, ([], [])⟩
def linkL (all : List Ln) : List Ln → Except Flt (List St)
  | [] => .ok []
  | l :: ls => match stepL all l with
    | none => .error (8, l.no)
    | some s => match linkL all ls with
      | .error f => .error f
      | .ok r => .ok (s :: r)
end Go.Proofs.Ytfbkjopidjojeab

namespace Go.Proofs.Ytfbkjopidjojeab
open Go.RowKit

theorem Try.info9 : (Try.prog.info? 9).map (fun i => (i.zero, i.size, i.bytes)) = some (some (.string ⟨#[]⟩), 1, 16) := by kernel_rfl
theorem Try.under43 : Try.prog.underlying 43 = some (.slice 9) := by kernel_rfl

/-- Texts as cells. -/
def strs (L : List (List UInt8)) : List Value := L.map fun p => .string (S p)
theorem strs_length (L : List (List UInt8)) : (strs L).length = L.length := by simp [strs]

/-- A list of texts of its own. -/
def Strs (B : Nat) (L : List (List UInt8)) (e : Ending) (w' : World) : Prop := ∃ v, e = .returned v ∧ w'.ownsRow B 9 1 v L.length (strs L)

/-- A row that can be read: cells from an address on. -/
def Row (w : World) (b off : Nat) (xs : List Value) : Prop := b < w.heap.size ∧ ∀ i, i < xs.length → w.cell? ⟨b, off + i, none⟩ = xs[i]?
theorem Row.below {w w' : World} {B b off : Nat} {xs : List Value} (h : Row w b off xs) (hB : Below B w w') (hb : b < B) : Row w' b off xs :=
  ⟨Nat.lt_of_lt_of_le h.1 hB.size, fun i hi => by rw [hB.cell (p := ⟨b, off + i, none⟩) hb]; exact h.2 i hi⟩
theorem Row.drop {w : World} {b off : Nat} {xs : List Value} (h : Row w b off xs) (k : Nat) (hk : k ≤ xs.length) : Row w b (off + k) (xs.drop k) :=
  ⟨h.1, fun i hi => by rw [Nat.add_assoc, List.getElem?_drop]; exact h.2 (k + i) (by rw [List.length_drop] at hi; omega)⟩
theorem Row.take {w : World} {b off : Nat} {xs : List Value} (h : Row w b off xs) (k : Nat) : Row w b off (xs.take k) :=
  ⟨h.1, fun i hi => by
    rw [List.length_take] at hi
    rw [List.getElem?_take, if_pos (by omega)]; exact h.2 i (by omega)⟩

/-- A slice that can be read. -/
def Reads (w : World) (v : Value) (size n : Nat) (xs : List Value) : Prop := xs.length = n * size ∧ ∃ p cap, v = .slice p n cap ∧ n ≤ cap ∧ (n = 0 ∨ ∃ b off, p = some ⟨b, off, none⟩ ∧ Row w b off xs)
theorem Reads.of {w : World} {B : Nat} {e : TypeId} {size : Nat} {v : Value} {n : Nat} {xs : List Value} (h : w.ownsRow B e size v n xs) : Reads w v size n xs := by
  obtain ⟨h1, h2⟩ := h
  refine ⟨h1, ?_⟩
  rcases h2 with ⟨rfl, rfl⟩ | ⟨g, cap, cur, rfl, hg, hh, hc, hm, hs, ht⟩
  · exact ⟨none, 0, rfl, Nat.le_refl _, .inl rfl⟩
  · refine ⟨some ⟨g, 0, none⟩, cap, rfl, hc, .inr ⟨g, 0, rfl, ?_, fun i hi => ?_⟩⟩
    · exact (Array.getElem?_eq_some_iff.1 hh).1
    · have := World.ownsRow.cellAt (w := w) (base := B) (e := e) (size := size) (g := g) (n := n) (cap := cap) (xs := xs) ⟨h1, .inr ⟨g, cap, cur, rfl, hg, hh, hc, hm, hs, ht⟩⟩ i (by omega)
      rw [Nat.zero_add]; exact this

/-- The list with something ahead of its first. -/
def pre (x : List UInt8) : List (List UInt8) → List (List UInt8)
  | [] => [x]
  | h :: t => (x ++ h) :: t
theorem pre_pre (x y : List UInt8) (L : List (List UInt8)) : pre x (pre y L) = pre (x ++ y) L := by cases L <;> simp [pre]
theorem pre_nil {L : List (List UInt8)} (h : L ≠ []) : pre [] L = L := by cases L <;> simp_all [pre]
theorem cutL_ne (m : UInt8) (l : List UInt8) : cutL m l ≠ [] := by
  cases l with
  | nil => simp [cutL]
  | cons c r => unfold cutL; split; simp; split <;> simp
/-- How far cut has come. -/
def CutAt (m : UInt8) (l : List UInt8) (P : List (List UInt8)) (b n : Nat) : Prop := b ≤ n ∧ n ≤ l.length ∧ cutL m l = P ++ pre ((l.drop b).take (n - b)) (cutL m (l.drop n))
theorem CutAt.start (m : UInt8) (l : List UInt8) : CutAt m l [] 0 0 := ⟨Nat.le_refl _, Nat.zero_le _, by simp [pre_nil (cutL_ne m l)]⟩
theorem CutAt.hit {m : UInt8} {l : List UInt8} {P : List (List UInt8)} {b n : Nat} (h : CutAt m l P b n) (hn : n < l.length) (hm : l[n] = m) : CutAt m l (P ++ [(l.drop b).take (n - b)]) (n + 1) (n + 1) := by
  obtain ⟨h1, h2, h3⟩ := h
  refine ⟨Nat.le_refl _, hn, ?_⟩
  rw [h3, List.drop_eq_getElem_cons hn, cutL, if_pos (by simp [hm]), Nat.sub_self, List.take_zero, pre_nil (cutL_ne m _)]
  simp [pre]
theorem CutAt.miss {m : UInt8} {l : List UInt8} {P : List (List UInt8)} {b n : Nat} (h : CutAt m l P b n) (hn : n < l.length) (hm : l[n] ≠ m) : CutAt m l P b (n + 1) := by
  obtain ⟨h1, h2, h3⟩ := h
  refine ⟨by omega, hn, ?_⟩
  have e1 : cutL m (l.drop n) = pre [l[n]] (cutL m (l.drop (n + 1))) := by
    rw [List.drop_eq_getElem_cons hn, cutL, if_neg (by simp [hm])]
    cases cutL m (l.drop (n + 1)) <;> simp [pre]
  have e2 : (l.drop b).take (n + 1 - b) = (l.drop b).take (n - b) ++ [l[n]] := by
    have : n + 1 - b = n - b + 1 := by omega
    rw [this, List.take_add_one]
    have : (l.drop b)[n - b]? = some l[n] := by rw [List.getElem?_drop]; simp [show b + (n - b) = n by omega, hn]
    rw [this]; rfl
  rw [h3, e1, pre_pre, e2]
theorem CutAt.fin {m : UInt8} {l : List UInt8} {P : List (List UInt8)} {b n : Nat} (h : CutAt m l P b n) (hn : n = l.length) : cutL m l = P ++ [(l.drop b).take (l.length - b)] := by
  obtain ⟨h1, h2, h3⟩ := h
  subst hn
  rw [h3]; simp [cutL, pre]

theorem own_start_str (W : World) (B b : Nat) (h : W.heap.size = b) (hB : B ≤ b) : (W.alloc (.cells #[] 9)).ownsRow B 9 1 (.slice (some ⟨b, 0, none⟩) 0 0) 0 [] := by
  subst h
  exact World.ownsRow_made W #[] 0 hB (by unfold maxLen; omega) rfl

theorem rel_str {wr w' w : World} {B k : Nat} {r v' : Value} {L : List (List UInt8)} {x : List UInt8} {o : Obj} (hB : B ≤ wr.heap.size) (hown : wr.ownsRow B 9 1 r k (strs L)) (hnx : Below B w wr)
    (hown' : w'.ownsRow B 9 1 v' (k + 1) (strs L ++ [.string (S x)])) (hg : (wr.alloc o).grownBy w' r.ownBlock) :
    w'.ownsRow B 9 1 v' (k + 1) (strs (L ++ [x])) ∧ Below B w w' := by
  refine ⟨by simpa [strs] using hown', ?_⟩
  exact (hnx.alloc hB o).grown hg (by simp; omega) (fun j hj => (hown.lt j hj).1)

set_option maxRecDepth 50000 in
set_option maxHeartbeats 1000000 in
theorem cut_any (s : ByteArray) (m : Nat) (mu : UInt8) (w : World) (hs : s.size ≤ 1048576) (hm : mu.toNat = m) :
    Calls Try.prog 38 #[.string s, .int .u8 m] w fun e w' => Strs w.heap.size (cutL mu s.data.toList) e w' ∧ Below w.heap.size w w' := by
  obtain ⟨i0, hi, hz0, hz1, hz2⟩ := info_parts Try.info9
  have hl : s.data.toList.length = s.size := by simp
  go_enter Try.func38, Try.ntmps38
  go_wp2
  go_loopw [5, 6, 7] (fun r b i wr => ∃ (P : List (List UInt8)) (bn k : Nat), b = .int .i64 bn ∧ i = .int .i64 k ∧ P.length ≤ k ∧ CutAt mu s.data.toList P bn k ∧ wr.ownsRow w.heap.size 9 1 r P.length (strs P) ∧ Below w.heap.size w wr)
    (fun _ _ i _ => s.size - (intOf i).toNat)
  case atStart => exact ⟨[], 0, 0, rfl, rfl, Nat.le_refl _, CutAt.start _ _, own_start_str _ _ _ rfl (Nat.le_refl _), (Below.refl _ _).alloc (Nat.le_refl _) _⟩
  case round =>
    obtain ⟨P, b, k, rfl, rfl, hP, hc, hown, hnx⟩ := hrel
    have hsz := hnx.size
    have hb := hc.1
    have hk : k ≤ s.size := by rw [← hl]; exact hc.2.1
    have HC : Hid (CutAt mu s.data.toList P b k) := hc
    clear hc
    by_cases hlt : k < s.size
    · have hx := S_ext s b k
      by_cases hq : (s[k].toNat : Int) = (m : Int)
      · go_wp2_with (at_builtin; refine wpList_append_own _ rfl _ _ 43 rfl w.heap.size 9 i0 (.string ⟨#[]⟩) 1 16 Try.under43 hi hz0 hz1 hz2 rfl (by decide) _ _ _ rfl (hown.alloc _) ⟨wr.heap.size, 0, none⟩ 1 1 [.string (S ((s.data.toList.drop b).take (k - b)))] rfl rfl (cell_one_new _ _ _) (by intro x hx; simp at hx; subst hx; rfl) (by unfold maxLen; omega) (by omega) (by simp; omega) ?_; intro v' w' hown' hgrow _)
        have R := rel_str hsz hown hnx hown' hgrow
        clear hown' hgrow hown hnx
        go_wp2
        go_roundw
        case rel => exact ⟨_, k + 1, k + 1, by go_num, by go_num, by simp; omega, HC.out.hit (by omega) (by rw [get_toList _ _ hlt]; apply UInt8.toNat_inj.1; omega), by simpa using R.1, R.2⟩
        case measure => simp [intOf]; omega
      · go_wp2
        go_roundw
        case rel => exact ⟨P, b, k + 1, rfl, by go_num, by omega, HC.out.miss (by omega) (by rw [get_toList _ _ hlt]; intro e; apply hq; rw [e, hm]), hown, hnx⟩
        case measure => simp [intOf]; omega
    · have hk : k = s.size := by omega
      have hx := S_ext s b s.size
      go_wp2_with (at_builtin; refine wpList_append_own _ rfl _ _ 43 rfl w.heap.size 9 i0 (.string ⟨#[]⟩) 1 16 Try.under43 hi hz0 hz1 hz2 rfl (by decide) _ _ _ rfl (hown.alloc _) ⟨wr.heap.size, 0, none⟩ 1 1 [.string (S ((s.data.toList.drop b).take (s.size - b)))] rfl rfl (cell_one_new _ _ _) (by intro x hx; simp at hx; subst hx; rfl) (by unfold maxLen; omega) (by omega) (by simp; omega) ?_; intro v' w' hown' hgrow _)
      have R := rel_str hsz hown hnx hown' hgrow
      clear hown' hgrow hown hnx
      go_wp2
      go_ret
      have e := HC.out.fin (by omega)
      rw [hl] at e
      exact ⟨⟨_, rfl, by rw [e]; simpa using R.1⟩, R.2⟩

theorem filL_snoc {l : List UInt8} (h : l.isEmpty = false) (P : List (List UInt8)) : filL (P ++ [l]) = filL P ++ [l] := by simp [filL, h]
theorem filL_skip {l : List UInt8} (h : l.isEmpty = true) (P : List (List UInt8)) : filL (P ++ [l]) = filL P := by simp [filL, h]
theorem take_one {α : Type} {L : List α} {k : Nat} (h : k < L.length) : L.take (k + 1) = L.take k ++ [L[k]] := by
  rw [List.take_add_one]; simp [h]
theorem strs_get {L : List (List UInt8)} {k : Nat} (h : k < L.length) : (strs L)[k]? = some (.string (S L[k])) := by simp [strs, h]

set_option maxRecDepth 50000 in
set_option maxHeartbeats 1000000 in
theorem filled_any (L : List (List UInt8)) (v : Value) (w : World) (hL : L.length ≤ 1048576) (hv : Reads w v 1 L.length (strs L)) :
    Calls Try.prog 39 #[v] w fun e w' => Strs w.heap.size (filL L) e w' ∧ Below w.heap.size w w' := by
  obtain ⟨i0, hi, hz0, hz1, hz2⟩ := info_parts Try.info9
  obtain ⟨_, p, cap, rfl, hcap, hrow⟩ := hv
  go_enter Try.func39, Try.ntmps39
  go_wp2
  go_loopw [3, 4] (fun r i wr => ∃ (k : Nat), i = .int .i64 k ∧ k ≤ L.length ∧ (filL (L.take k)).length ≤ k ∧ wr.ownsRow w.heap.size 9 1 r (filL (L.take k)).length (strs (filL (L.take k))) ∧ Below w.heap.size w wr)
    (fun _ i _ => L.length - (intOf i).toNat)
  case atStart => exact ⟨0, rfl, Nat.zero_le _, Nat.le_refl _, own_start_str _ _ _ rfl (Nat.le_refl _), (Below.refl _ _).alloc (Nat.le_refl _) _⟩
  case round =>
    obtain ⟨k, rfl, hk, hfk, hown, hnx⟩ := hrel
    have hsz := hnx.size
    by_cases hlt : k < L.length
    · obtain ⟨b, off, rfl, hr⟩ : ∃ b off, p = some ⟨b, off, none⟩ ∧ Row w b off (strs L) := by
        rcases hrow with h | h
        · omega
        · exact h
      have hc : wr.cell? ⟨b, off + k, none⟩ = some (.string (S L[k])) := by
        rw [(hr.below hnx hr.1).2 k (by rw [strs_length]; exact hlt), strs_get hlt]
      have hc2 : ∀ o, (wr.alloc o).cell? ⟨b, off + k, none⟩ = some (.string (S L[k])) := fun o => by
        rw [((Below.refl wr.heap.size wr).alloc (Nat.le_refl _) o).cell (p := ⟨b, off + k, none⟩) (by have := hr.1; show b < _; omega)]; exact hc
      have ht := take_one hlt
      by_cases hq : (L[k]).isEmpty = true
      · have hq2 : (S L[k]).toList.isEmpty = true := by rw [ByteArray.toList_eq, S_data]; exact hq
        have e := filL_skip hq (L.take k)
        rw [← ht] at e
        have HE : Hid (filL (L.take (k + 1)) = filL (L.take k)) := e
        clear e ht hrow
        go_wp2
        go_roundw
        case rel => exact ⟨k + 1, by go_num, by omega, by rw [HE.out]; omega, by rw [HE.out]; exact hown, hnx⟩
        case measure => simp [intOf]; omega
      · have hq1 : (L[k]).isEmpty = false := by simpa using hq
        have hq2 : (S L[k]).toList.isEmpty = false := by rw [ByteArray.toList_eq, S_data]; exact hq1
        have e := filL_snoc hq1 (L.take k)
        rw [← ht] at e
        have HE : Hid (filL (L.take (k + 1)) = filL (L.take k) ++ [L[k]]) := e
        clear e ht hrow hq hq1
        go_wp2_with (at_builtin; refine wpList_append_own _ rfl _ _ 43 rfl w.heap.size 9 i0 (.string ⟨#[]⟩) 1 16 Try.under43 hi hz0 hz1 hz2 rfl (by decide) _ _ _ rfl (hown.alloc _) ⟨wr.heap.size, 0, none⟩ 1 1 [.string (S L[k])] rfl rfl (cell_one_new _ _ _) (by intro x hx; simp at hx; subst hx; rfl) (by unfold maxLen; omega) (by omega) (by simp; omega) ?_; intro v' w' hown' hgrow _)
        have R := rel_str hsz hown hnx hown' hgrow
        clear hown' hgrow hown hnx
        go_wp2
        go_roundw
        case rel => exact ⟨k + 1, by go_num, by omega, by rw [HE.out]; simp; omega, by rw [HE.out]; simpa using R.1, R.2⟩
        case measure => simp [intOf]; omega
    · have hke : k = L.length := by omega
      subst hke
      go_wp2
      go_ret
      rw [List.take_length] at hown
      exact ⟨⟨_, rfl, hown⟩, hnx⟩
end Go.Proofs.Ytfbkjopidjojeab

namespace Go.Proofs.Ytfbkjopidjojeab
open Go.RowKit

set_option maxRecDepth 50000 in
set_option maxHeartbeats 400000 in
theorem isLetter_any (c : UInt8) (w : World) : Calls Try.prog 93 #[.int .u8 c.toNat] w fun e w' => e = .returned (.bool (isLet c)) ∧ w' = w := by
  by_cases h1 : 97 ≤ c.toNat
  · go_enter Try.func93, Try.ntmps93
    go_wp2
    all_goals go_ret
    all_goals exact ⟨ret_bool (by unfold isLet; simp [h1]; try omega), rfl⟩
  · go_enter Try.func93, Try.ntmps93
    go_wp2
    all_goals go_ret
    all_goals exact ⟨ret_bool (by unfold isLet; simp [h1]; try omega), rfl⟩

set_option maxRecDepth 50000 in
set_option maxHeartbeats 400000 in
theorem isDigit_any (c : UInt8) (w : World) : Calls Try.prog 94 #[.int .u8 c.toNat] w fun e w' => e = .returned (.bool (isDig c)) ∧ w' = w := by
  by_cases h1 : 48 ≤ c.toNat
  · go_enter Try.func94, Try.ntmps94
    go_wp2
    all_goals go_ret
    all_goals exact ⟨ret_bool (by unfold isDig; simp [h1]; try omega), rfl⟩
  · go_enter Try.func94, Try.ntmps94
    go_wp2
    all_goals go_ret
    all_goals exact ⟨ret_bool (by unfold isDig; simp [h1]; try omega), rfl⟩

/-- What '[]byte(s)' lays, as a string. -/
theorem back_string (W : World) (s : ByteArray) (cap b : Nat) (m : Nat × Nat) (hb : W.heap.size = b) : (convert 81 9 (.slice (some ⟨b, 0, none⟩) s.size cap)).run Try.prog (W.alloc (.cells (bytesRow s cap) 5 m)).drew = .ok (.string s) (W.alloc (.cells (bytesRow s cap) 5 m)).drew := by
  subst hb
  have hl : s.data.toList.length = s.size := by simp
  have := run_convert_bytes_back (P := Try.prog) (W.alloc (.cells (bytesRow s cap) 5 m)).drew 81 9 5 ⟨W.heap.size, 0, none⟩ cap s.data.toList Try.under81 Try.under5 Try.under9 (fun j hj => by
    have e : (⟨W.heap.size, 0, none⟩ : Addr).add j = ⟨W.heap.size, 0 + j, none⟩ := by unfold Addr.add; split <;> simp_all
    have e2 : (W.alloc (.cells (bytesRow s cap) 5 m)).drew.cell? ⟨W.heap.size, 0 + j, none⟩ = (bytesRow s cap)[0 + j]? := World.cell?_alloc_mark W _ _ _ _
    rw [e, e2]
    unfold bytesRow
    have hj2 : j < s.data.size := by simpa using hj
    rw [Nat.zero_add, Array.getElem?_append_left (by simpa using hj2)]
    have hj3 : s.data[j]? = some s.data[j] := Array.getElem?_eq_getElem hj2
    simp [hj3])
  rw [hl] at this
  rw [this]

/-- The name that a piece is. -/
def NameIs (l : List UInt8) (e : Ending) : Prop := e = .returned (.tuple #[.string (if okN l then S l else ⟨#[]⟩), .bool (okN l)])

theorem okN_long {l : List UInt8} (h : 6 < l.length) : okN l = false := by
  unfold okN; split
  · rfl
  · simp at h ⊢; omega
theorem okN_head {l : List UInt8} {c : UInt8} (h : l[0]? = some c) (hc : isLet c = false) : okN l = false := by
  cases l with
  | nil => rfl
  | cons a r => simp at h; subst h; simp [okN, hc]
theorem okN_bad {l : List UInt8} {c : UInt8} {k : Nat} (hk : 0 < k) (h : l[k]? = some c) (hc : isLet c = false) (hd : isDig c = false) : okN l = false := by
  cases l with
  | nil => rfl
  | cons a r =>
    obtain ⟨k, rfl⟩ : ∃ j, k = j + 1 := ⟨k - 1, by omega⟩
    rw [List.getElem?_cons_succ] at h
    have hm : c ∈ r := List.mem_of_getElem? h
    have : (r.all fun x => isLet x || isDig x) = false := by
      rw [List.all_eq_false]; exact ⟨c, hm, by simp [hc, hd]⟩
    simp [okN, this]
theorem okN_good {l : List UInt8} (h6 : l.length ≤ 6) (h2 : (l == [105, 110]) = false) (h3 : (l == [111, 117, 116]) = false) (h0 : ∃ c, l[0]? = some c ∧ isLet c = true) (hr : ∀ k c, 0 < k → l[k]? = some c → (isLet c || isDig c) = true) : okN l = true := by
  obtain ⟨c, hc, hL⟩ := h0
  cases l with
  | nil => simp at hc
  | cons a r =>
    simp at hc; subst hc
    have : (r.all fun x => isLet x || isDig x) = true := by
      rw [List.all_eq_true]; intro x hx
      obtain ⟨k, hk⟩ := List.getElem?_of_mem hx
      exact hr (k + 1) x (by omega) (by rw [List.getElem?_cons_succ]; exact hk)
    have h6' : r.length + 1 ≤ 6 := by simpa using h6
    simp [okN, this, hL, h2, h3, h6']
theorem name_no {l : List UInt8} (h : okN l = false) : NameIs l (.returned (.tuple #[.string ⟨#[]⟩, .bool false])) := by simp [NameIs, h]
theorem name_yes {s : ByteArray} (h : okN s.data.toList = true) : NameIs s.data.toList (.returned (.tuple #[.string s, .bool true])) := by simp [NameIs, h, S_of]

set_option maxRecDepth 50000 in
set_option maxHeartbeats 1000000 in
theorem readName_any (s : ByteArray) (w : World) (hs : s.size ≤ 1048576) :
    Calls Try.prog 76 #[.string s] w fun e w' => NameIs s.data.toList e ∧ Below w.heap.size w w' := by
  have hl : s.data.toList.length = s.size := by simp
  have hlt : s.toList = s.data.toList := ByteArray.toList_eq _
  have HS : Hid (s.data.toList.length = s.size) := hl
  by_cases h0 : s.toList.isEmpty = true
  · have hn : okN s.data.toList = false := by rw [hlt] at h0; rw [List.isEmpty_iff.1 h0]; rfl
    have HN := name_no hn
    clear hn hlt hl
    go_enter Try.func76, Try.ntmps76
    go_wp2
    go_ret2
    exact ⟨HN, Below.refl _ _⟩
  have h0 : s.toList.isEmpty = false := by simpa using h0
  have hpos : 0 < s.size := by
    rw [← hl]; rw [hlt] at h0
    cases e : s.data.toList with
    | nil => rw [e] at h0; cases h0
    | cons _ _ => simp
  by_cases h6 : 6 < s.size
  · have HN := name_no (okN_long (l := s.data.toList) (by omega))
    clear hlt hl
    go_enter Try.func76, Try.ntmps76
    go_wp2
    go_ret2
    exact ⟨HN, Below.refl _ _⟩
  by_cases h2 : (s.toList == [105, 110]) = true
  · have hn : okN s.data.toList = false := by rw [hlt] at h2; rw [beq_iff_eq.1 h2]; decide
    have HN := name_no hn
    clear hn hlt hl
    go_enter Try.func76, Try.ntmps76
    go_wp2
    go_ret2
    exact ⟨HN, Below.refl _ _⟩
  have h2 : (s.toList == [105, 110]) = false := by simpa using h2
  by_cases h3 : (s.toList == [111, 117, 116]) = true
  · have hn : okN s.data.toList = false := by rw [hlt] at h3; rw [beq_iff_eq.1 h3]; decide
    have HN := name_no hn
    clear hn hlt hl
    go_enter Try.func76, Try.ntmps76
    go_wp2
    go_ret2
    exact ⟨HN, Below.refl _ _⟩
  have h3 : (s.toList == [111, 117, 116]) = false := by simpa using h3
  have g0 : s.data.toList[0]? = some s[0] := by rw [List.getElem?_eq_getElem (by omega), get_toList _ _ hpos]
  have G2 : Hid ((s.data.toList == [105, 110]) = false) := by rw [hlt] at h2; exact h2
  have G3 : Hid ((s.data.toList == [111, 117, 116]) = false) := by rw [hlt] at h3; exact h3
  clear hlt
  by_cases hL : isLet s[0] = true
  · have kc := fun (wx : World) (t : ByteArray) => run_bytes_of_string (P := Try.prog) wx 9 81 5 t Try.under9 Try.under81 Try.under5
    have kb := fun (W : World) (cap : Nat) (m : Nat × Nat) => back_string W s cap W.heap.size m rfl
    have G0 : Hid (s.data.toList[0]? = some s[0]) := g0
    clear g0 hl
    go_enter Try.func76, Try.ntmps76
    go_wp2_with (go_at_call 93; refine (isLetter_any s[0] _).mono ?_; rintro e w1 ⟨rfl, hw1⟩; subst w1)
    go_loop [4] (fun i => ∃ k : Nat, 0 < k ∧ k ≤ s.size ∧ i = .int .i64 k ∧ Hid (∀ j c, 0 < j → j < k → s.data.toList[j]? = some c → (isLet c || isDig c) = true)) (fun i => s.size - (intOf i).toNat)
    case atStart => exact ⟨1, by omega, by omega, rfl, fun j c h1 h2 => by omega⟩
    case round =>
      obtain ⟨k, hk0, hk, rfl, HG⟩ := hrel
      by_cases hlt : k < s.size
      · by_cases q1 : isLet s[k] = true
        · go_wp2_with (go_at_call 93; refine (isLetter_any s[k] _).mono ?_; rintro e w1 ⟨rfl, hw1⟩; subst w1)
          go_round
          case rel => exact ⟨k + 1, by omega, by omega, by go_num, fun j c h1 h2 h3 => by
            rcases Nat.lt_or_ge j k with g | g
            · exact HG.out j c h1 g h3
            · have : j = k := by omega
              subst this
              have hh : j < s.data.toList.length := by rw [HS.out]; exact hlt
              rw [List.getElem?_eq_getElem hh, get_toList _ _ hlt] at h3
              cases h3; simp [q1]⟩
          case measure => simp [intOf]; omega
        · have q1 : isLet s[k] = false := by simpa using q1
          by_cases q2 : isDig s[k] = true
          · go_wp2_with (first
              | (go_at_call 93; refine (isLetter_any s[k] _).mono ?_; rintro e w1 ⟨rfl, hw1⟩; subst w1)
              | (go_at_call 94; refine (isDigit_any s[k] _).mono ?_; rintro e w1 ⟨rfl, hw1⟩; subst w1))
            go_round
            case rel => exact ⟨k + 1, by omega, by omega, by go_num, fun j c h1 h2 h3 => by
              rcases Nat.lt_or_ge j k with g | g
              · exact HG.out j c h1 g h3
              · have : j = k := by omega
                subst this
                have hh : j < s.data.toList.length := by rw [HS.out]; exact hlt
                rw [List.getElem?_eq_getElem hh, get_toList _ _ hlt] at h3
                cases h3; simp [q2]⟩
            case measure => simp [intOf]; omega
          · have q2 : isDig s[k] = false := by simpa using q2
            go_wp2_with (first
              | (go_at_call 93; refine (isLetter_any s[k] _).mono ?_; rintro e w1 ⟨rfl, hw1⟩; subst w1)
              | (go_at_call 94; refine (isDigit_any s[k] _).mono ?_; rintro e w1 ⟨rfl, hw1⟩; subst w1))
            go_ret2
            exact ⟨name_no (okN_bad hk0 (c := s[k]) (by rw [List.getElem?_eq_getElem (by rw [HS.out]; exact hlt), get_toList _ _ hlt]) q1 q2), Below.refl _ _⟩
      · have hke : k = s.size := by omega
        subst hke
        have hy : okN s.data.toList = true := okN_good (by rw [HS.out]; omega) G2.out G3.out ⟨_, G0.out, hL⟩ (fun j c h1 h2 => HG.out j c h1 (by
          rcases Nat.lt_or_ge j s.size with g | g
          · exact g
          · rw [List.getElem?_eq_none (by rw [HS.out]; exact g)] at h2; cases h2) h2)
        have HN := name_yes hy
        clear hy
        go_wp2
        go_ret2
        exact ⟨HN, ((Below.refl _ _).alloc (Nat.le_refl _) _).drew⟩
  · have hL : isLet s[0] = false := by simpa using hL
    have HN := name_no (okN_head g0 hL)
    clear g0 hl
    go_enter Try.func76, Try.ntmps76
    go_wp2_with (go_at_call 93; refine (isLetter_any s[0] _).mono ?_; rintro e w1 ⟨rfl, hw1⟩; subst w1)
    go_ret2
    exact ⟨HN, Below.refl _ _⟩
end Go.Proofs.Ytfbkjopidjojeab

namespace Go.Proofs.Ytfbkjopidjojeab
open Go.RowKit

theorem digN_snoc (l : List UInt8) (c : UInt8) : digN (l ++ [c]) = digN l * 10 + ((c.toNat : Int) - 48) := by simp [digN]
theorem isDig_bd {c : UInt8} (h : isDig c = true) : (48 : Int) ≤ (c.toNat : Int) ∧ (c.toNat : Int) ≤ 57 := by
  simp [isDig] at h; omega
theorem digN_bd (l : List UInt8) : ∀ k, k ≤ l.length → (∀ c ∈ l.take k, isDig c = true) → 0 ≤ digN (l.take k) ∧ digN (l.take k) < (10 : Int) ^ k := by
  intro k
  induction k with
  | zero => intro _ _; simp [digN]
  | succ k ih =>
    intro hk h
    rw [take_one (by omega)] at h ⊢
    obtain ⟨i1, i2⟩ := ih (by omega) (fun c hc => h c (List.mem_append_left _ hc))
    have hd := isDig_bd (h l[k] (List.mem_append_right _ (List.mem_singleton.2 rfl)))
    rw [digN_snoc, Int.pow_succ]
    omega
theorem pow_small {k : Nat} (h : k ≤ 9) : (10 : Int) ^ k ≤ 1000000000 := by
  have : k = 0 ∨ k = 1 ∨ k = 2 ∨ k = 3 ∨ k = 4 ∨ k = 5 ∨ k = 6 ∨ k = 7 ∨ k = 8 ∨ k = 9 := by omega
  rcases this with rfl | rfl | rfl | rfl | rfl | rfl | rfl | rfl | rfl | rfl <;> decide
theorem digN_small {l : List UInt8} {k : Nat} (hk : k < l.length) (h10 : l.length ≤ 10) (h : ∀ c ∈ l.take k, isDig c = true) : 0 ≤ digN (l.take k) ∧ digN (l.take k) < 1000000000 := by
  obtain ⟨h1, h2⟩ := digN_bd l k (by omega) h
  have := pow_small (k := k) (by omega)
  exact ⟨h1, by omega⟩
theorem digN_all {l : List UInt8} (h : okD l = true) : 0 ≤ digN l ∧ digN l < 10000000000 := by
  simp only [okD, Bool.and_eq_true, decide_eq_true_eq, List.all_eq_true] at h
  have e : l.take (l.length - 1 + 1) = l := List.take_of_length_le (by omega)
  rw [take_one (by omega)] at e
  have hm : ∀ c ∈ l.take (l.length - 1), isDig c = true := fun c hc => h.2 c (List.mem_of_mem_take hc)
  obtain ⟨h1, h2⟩ := digN_small (l := l) (k := l.length - 1) (by omega) (by omega) hm
  have hd := isDig_bd (h.2 (l[l.length - 1]'(by omega)) (List.getElem_mem _))
  rw [← e, digN_snoc]
  omega
theorem okD_no {l : List UInt8} (h : l.length = 0 ∨ 10 < l.length) : okD l = false := by
  simp [okD]; omega
theorem okD_bad {l : List UInt8} {c : UInt8} (h : c ∈ l) (hc : isDig c = false) : okD l = false := by
  have : l.all isDig = false := by rw [List.all_eq_false]; exact ⟨c, h, by simp [hc]⟩
  simp [okD, this]
theorem okD_yes {l : List UInt8} (h0 : 0 < l.length) (h10 : l.length ≤ 10) (h : ∀ c ∈ l, isDig c = true) : okD l = true := by
  simp only [okD, Bool.and_eq_true, decide_eq_true_eq, List.all_eq_true]
  exact ⟨⟨h0, h10⟩, h⟩

/-- The number that a piece is. -/
def NumIs (l : List UInt8) (e : Ending) : Prop := e = .returned (.tuple #[.int .i64 ((numL l).getD 0), .bool (numL l).isSome])
theorem num_no {l : List UInt8} (h : numL l = none) : NumIs l (.returned (.tuple #[.int .i64 0, .bool false])) := by simp [NumIs, h]
theorem num_yes {l : List UInt8} {n x : Int} (h : numL l = some n) (e : x = n) : NumIs l (.returned (.tuple #[.int .i64 x, .bool true])) := by subst e; simp [NumIs, h]
theorem numL_plain {l : List UInt8} {c : UInt8} (h : l[0]? = some c) (hc : ¬ (c.toNat : Int) = 45) : numL l = if okD l then some (digN l) else none := by
  cases l with
  | nil => simp at h
  | cons a r =>
    simp at h; subst h
    have : (a == 45) = false := by
      rw [beq_eq_false_iff_ne]; intro e; apply hc; rw [e]; rfl
    simp [numL, this]
theorem numL_minus {l : List UInt8} {c : UInt8} (h : l[0]? = some c) (hc : (c.toNat : Int) = 45) : numL l = if okD (l.drop 1) then some (-digN (l.drop 1)) else none := by
  cases l with
  | nil => simp at h
  | cons a r =>
    simp at h; subst h
    have : (a == 45) = true := by
      rw [beq_iff_eq]; apply UInt8.toNat_inj.1; show a.toNat = 45; omega
    simp [numL, this]

set_option maxRecDepth 50000 in
set_option maxHeartbeats 1000000 in
theorem readNumber_empty (s : ByteArray) (w : World) (h0 : s.toList.isEmpty = true) :
    Calls Try.prog 95 #[.string s] w fun e w' => NumIs s.data.toList e ∧ Below w.heap.size w w' := by
  have hlt : s.toList = s.data.toList := ByteArray.toList_eq _
  have HN := num_no (l := s.data.toList) (by rw [hlt] at h0; rw [List.isEmpty_iff.1 h0]; rfl)
  clear hlt
  go_enter Try.func95, Try.ntmps95
  go_wp2
  go_ret2
  exact ⟨HN, Below.refl _ _⟩

set_option maxRecDepth 50000 in
set_option maxHeartbeats 1000000 in
theorem readNumber_plain (s : ByteArray) (w : World) (hs : s.size ≤ 1048576) (h0 : s.toList.isEmpty = false) (hpos : 0 < s.size) (hc : ¬ (s[0].toNat : Int) = 45) :
    Calls Try.prog 95 #[.string s] w fun e w' => NumIs s.data.toList e ∧ Below w.heap.size w w' := by
  have hl : s.data.toList.length = s.size := by simp
  have g0 : s.data.toList[0]? = some s[0] := by rw [List.getElem?_eq_getElem (by omega), get_toList _ _ hpos]
  have HE : Hid (numL s.data.toList = if okD (s.data.toList) then some (digN s.data.toList) else none) := numL_plain g0 hc
  have hDl : s.data.toList = s.data.toList := rfl
  have HL : Hid (s.data.toList = s.data.toList) := hDl
  have HS : Hid (s.data.toList.length = s.size) := by show s.data.toList.length = s.size; simp
  have hDs := hs
  have hDt : s.toList = s.data.toList := ByteArray.toList_eq _
  clear hDl g0 hl
  by_cases h1 : s.toList.isEmpty = true
  · exfalso; rw [h0] at h1; cases h1
  have h1 := h0
  have hp1 : 0 < s.size := by
    rw [← HS.out]; rw [hDt] at h1
    cases e : s.data.toList with
    | nil => rw [e] at h1; cases h1
    | cons _ _ => simp
  clear hDt
  by_cases h10 : 10 < s.size
  · have HN := num_no (l := s.data.toList) (by rw [HE.out, if_neg]; rw [okD_no (.inr (by rw [HS.out]; exact h10))]; simp)
    go_enter Try.func95, Try.ntmps95
    go_wp2
    go_ret2
    exact ⟨HN, Below.refl _ _⟩
  go_enter Try.func95, Try.ntmps95
  go_wp2
  go_loop [6, 7] (fun x i => ∃ k : Nat, k ≤ s.size ∧ i = .int .i64 k ∧ x = .int .i64 (digN (s.data.toList.take k)) ∧ Hid (∀ c ∈ s.data.toList.take k, isDig c = true)) (fun _ i => s.size - (intOf i).toNat)
  case atStart => exact ⟨0, by omega, rfl, rfl, fun c hc => by simp at hc⟩
  case round =>
    obtain ⟨k, hk, rfl, rfl, HG⟩ := hrel
    by_cases hlt : k < s.size
    · have hkl : k < s.data.toList.length := by rw [HS.out]; exact hlt
      have hsm := digN_small hkl (by rw [HS.out]; omega) HG.out
      have ht := take_one hkl
      rw [get_toList _ _ hlt] at ht
      have HT : Hid (s.data.toList.take (k + 1) = s.data.toList.take k ++ [s[k]]) := ht
      obtain ⟨x, hx⟩ : ∃ x, x = digN (s.data.toList.take k) := ⟨_, rfl⟩
      rw [← hx] at hsm ⊢
      have HX : Hid (x = digN (s.data.toList.take k)) := hx
      obtain ⟨hx0, hx1⟩ := hsm
      clear hx ht
      by_cases q : isDig s[k] = true
      · obtain ⟨d1, d2⟩ := isDig_bd q
        go_wp2_with (go_at_call 94; refine (isDigit_any s[k] _).mono ?_; rintro e w1 ⟨rfl, hw1⟩; subst w1)
        go_round
        case rel => exact ⟨k + 1, by omega, by go_num, by rw [HT.out, digN_snoc, ← HX.out], fun c hc => by
          rw [HT.out] at hc
          rcases List.mem_append.1 hc with h | h
          · exact HG.out c h
          · rw [List.mem_singleton.1 h]; exact q⟩
        case measure => simp [intOf]; omega
      · have q : isDig s[k] = false := by simpa using q
        have HN := num_no (l := s.data.toList) (by
          rw [HE.out, if_neg]
          rw [okD_bad (c := s[k]) (by rw [← get_toList _ _ hlt]; exact List.getElem_mem _) q]; simp)
        go_wp2_with (go_at_call 94; refine (isDigit_any s[k] _).mono ?_; rintro e w1 ⟨rfl, hw1⟩; subst w1)
        go_ret2
        exact ⟨HN, Below.refl _ _⟩
    · have hke : k = s.size := by omega
      subst hke
      have ht : s.data.toList.take s.size = s.data.toList := List.take_of_length_le (by rw [HS.out]; exact Nat.le_refl _)
      rw [ht] at HG ⊢
      have hy := okD_yes (l := s.data.toList) (by rw [HS.out]; exact hp1) (by rw [HS.out]; omega) HG.out
      have hb := digN_all hy
      have hn : numL s.data.toList = some (digN s.data.toList) := by rw [HE.out, if_pos hy]
      obtain ⟨x, hx⟩ : ∃ x, x = digN s.data.toList := ⟨_, rfl⟩
      rw [← hx] at hb hn ⊢
      have HN : Hid (numL s.data.toList = some (x)) := hn
      obtain ⟨hx0, hx1⟩ := hb
      clear hx hn ht hy
      go_wp2
      go_ret2
      exact ⟨num_yes HN.out (by omega), Below.refl _ _⟩

set_option maxRecDepth 50000 in
set_option maxHeartbeats 1000000 in
theorem readNumber_minus (s : ByteArray) (w : World) (hs : s.size ≤ 1048576) (h0 : s.toList.isEmpty = false) (hpos : 0 < s.size) (hc : (s[0].toNat : Int) = 45) :
    Calls Try.prog 95 #[.string s] w fun e w' => NumIs s.data.toList e ∧ Below w.heap.size w w' := by
  have hl : s.data.toList.length = s.size := by simp
  have g0 : s.data.toList[0]? = some s[0] := by rw [List.getElem?_eq_getElem (by omega), get_toList _ _ hpos]
  have HE : Hid (numL s.data.toList = if okD (s.data.toList.drop 1) then some (-digN (s.data.toList.drop 1)) else none) := numL_minus g0 hc
  obtain ⟨D, hD, hDl⟩ : ∃ D : ByteArray, D = s.extract 1 s.size ∧ D.data.toList = s.data.toList.drop 1 := ⟨_, rfl, by rw [ext_toList, List.take_of_length_le (by simp)]⟩
  have HL : Hid (D.data.toList = s.data.toList.drop 1) := hDl
  have HS : Hid (D.data.toList.length = D.size) := by show D.data.toList.length = D.size; simp
  have hDz : D.size = s.size - 1 := by rw [← HS.out, hDl]; simp
  have hDs : D.size ≤ 1048576 := by omega
  have hDt : D.toList = D.data.toList := ByteArray.toList_eq _
  have HD := hD.symm
  clear hDl g0 hl hD
  by_cases h1 : D.toList.isEmpty = true
  · have HN := num_no (l := s.data.toList) (by rw [HE.out, if_neg]; rw [hDt] at h1; rw [← HL.out, List.isEmpty_iff.1 h1]; decide)
    clear hDt
    go_enter Try.func95, Try.ntmps95
    go_wp2
    go_ret2
    exact ⟨HN, Below.refl _ _⟩
  have h1 : D.toList.isEmpty = false := by simpa using h1
  have hp1 : 0 < D.size := by
    rw [← HS.out]; rw [hDt] at h1
    cases e : D.data.toList with
    | nil => rw [e] at h1; cases h1
    | cons _ _ => simp
  clear hDt
  by_cases h10 : 10 < D.size
  · have HN := num_no (l := s.data.toList) (by rw [HE.out, ← HL.out, if_neg]; rw [okD_no (.inr (by rw [HS.out]; exact h10))]; simp)
    go_enter Try.func95, Try.ntmps95
    go_wp2
    go_ret2
    exact ⟨HN, Below.refl _ _⟩
  go_enter Try.func95, Try.ntmps95
  go_wp2
  go_loop [6, 7] (fun x i => ∃ k : Nat, k ≤ D.size ∧ i = .int .i64 k ∧ x = .int .i64 (digN (D.data.toList.take k)) ∧ Hid (∀ c ∈ D.data.toList.take k, isDig c = true)) (fun _ i => D.size - (intOf i).toNat)
  case atStart => exact ⟨0, by omega, rfl, rfl, fun c hc => by simp at hc⟩
  case round =>
    obtain ⟨k, hk, rfl, rfl, HG⟩ := hrel
    by_cases hlt : k < D.size
    · have hkl : k < D.data.toList.length := by rw [HS.out]; exact hlt
      have hsm := digN_small hkl (by rw [HS.out]; omega) HG.out
      have ht := take_one hkl
      rw [get_toList _ _ hlt] at ht
      have HT : Hid (D.data.toList.take (k + 1) = D.data.toList.take k ++ [D[k]]) := ht
      obtain ⟨x, hx⟩ : ∃ x, x = digN (D.data.toList.take k) := ⟨_, rfl⟩
      rw [← hx] at hsm ⊢
      have HX : Hid (x = digN (D.data.toList.take k)) := hx
      obtain ⟨hx0, hx1⟩ := hsm
      clear hx ht
      by_cases q : isDig D[k] = true
      · obtain ⟨d1, d2⟩ := isDig_bd q
        go_wp2_with (go_at_call 94; refine (isDigit_any D[k] _).mono ?_; rintro e w1 ⟨rfl, hw1⟩; subst w1)
        go_round
        case rel => exact ⟨k + 1, by omega, by go_num, by rw [HT.out, digN_snoc, ← HX.out], fun c hc => by
          rw [HT.out] at hc
          rcases List.mem_append.1 hc with h | h
          · exact HG.out c h
          · rw [List.mem_singleton.1 h]; exact q⟩
        case measure => simp [intOf]; omega
      · have q : isDig D[k] = false := by simpa using q
        have HN := num_no (l := s.data.toList) (by
          rw [HE.out, ← HL.out, if_neg]
          rw [okD_bad (c := D[k]) (by rw [← get_toList _ _ hlt]; exact List.getElem_mem _) q]; simp)
        go_wp2_with (go_at_call 94; refine (isDigit_any D[k] _).mono ?_; rintro e w1 ⟨rfl, hw1⟩; subst w1)
        go_ret2
        exact ⟨HN, Below.refl _ _⟩
    · have hke : k = D.size := by omega
      subst hke
      have ht : D.data.toList.take D.size = D.data.toList := List.take_of_length_le (by rw [HS.out]; exact Nat.le_refl _)
      rw [ht] at HG ⊢
      have hy := okD_yes (l := D.data.toList) (by rw [HS.out]; exact hp1) (by rw [HS.out]; omega) HG.out
      have hb := digN_all hy
      have hn : numL s.data.toList = some (-digN D.data.toList) := by rw [HE.out, ← HL.out, if_pos hy]
      obtain ⟨x, hx⟩ : ∃ x, x = digN D.data.toList := ⟨_, rfl⟩
      rw [← hx] at hb hn ⊢
      have HN : Hid (numL s.data.toList = some (-x)) := hn
      obtain ⟨hx0, hx1⟩ := hb
      clear hx hn ht hy
      go_wp2
      go_ret2
      exact ⟨num_yes HN.out (by omega), Below.refl _ _⟩

theorem readNumber_any (s : ByteArray) (w : World) (hs : s.size ≤ 1048576) :
    Calls Try.prog 95 #[.string s] w fun e w' => NumIs s.data.toList e ∧ Below w.heap.size w w' := by
  by_cases h0 : s.toList.isEmpty = true
  · exact readNumber_empty s w h0
  have h0 : s.toList.isEmpty = false := by simpa using h0
  have hpos : 0 < s.size := by
    have hl : s.data.toList.length = s.size := by simp
    rw [← hl]; rw [ByteArray.toList_eq] at h0
    cases e : s.data.toList with
    | nil => rw [e] at h0; cases h0
    | cons _ _ => simp
  by_cases hc : (s[0].toNat : Int) = 45
  · exact readNumber_minus s w hs h0 hpos hc
  · exact readNumber_plain s w hs h0 hpos hc
end Go.Proofs.Ytfbkjopidjojeab

namespace Go.Proofs.Ytfbkjopidjojeab
open Go.RowKit

theorem find_least {n k : Nat} {p : Nat → Bool} (hk : k < n) (h : p k = true) (hl : ∀ j, p j = true → k ≤ j) : ((List.range n).find? p).getD 0 = k := by
  have : (List.range n).find? p = some k := by
    rw [List.find?_range_eq_some]
    refine ⟨h, List.mem_range.2 hk, fun j hj => ?_⟩
    cases e : p j with
    | false => rfl
    | true => have := hl j e; omega
  rw [this]; rfl

theorem EP_of_tab {f : Nat → Bool} {m p q : Nat} (hE : EP f m p) (hq : 0 < q) (hd : q ∣ p) (h : ∀ i, i < p - q → f (m + i + q) = f (m + i)) : EP f m q := by
  have hb : bitAt (tab f 0 m) (tab f m p) = f := funext (bitAt_tab hE)
  have hp := hE.1
  have := EP_of_Per (u := tab f 0 m) (v := tab f m p) hq (by rw [tab_length]; exact hd) (by intro e; have := congrArg List.length e; rw [tab_length] at this; simp at this; omega) (fun i hi => by
    rw [tab_length] at hi
    rw [tab_getD _ _ _ _ (by omega), tab_getD _ _ _ _ (by omega), ← Nat.add_assoc]
    exact h i (by omega))
  rw [hb, tab_length] at this
  exact this

theorem NF.tabs {f : Nat → Bool} {u v : List Bool} (h : NF f u v) : u = tab f 0 u.length ∧ v = tab f u.length v.length := by
  have e := bitAt_tab h.ep
  exact parts_eq (by rw [tab_length]) (by rw [tab_length]) (fun n => by rw [e, h.bits])

theorem nfL_eq {f : Nat → Bool} {u v : List Bool} {m p : Nat} (h : NF f u v) (hE : EP f m p) : nfL f m p = (u, v) := by
  have hE2 : EP f m v.length := hE.from h.ep
  have hu : u.length ≤ m := h.pre m hE2
  have hd : v.length ∣ p := by
    have hg := EP.gcd _ v.length p (Nat.le_refl _) hE2 hE
    have h1 := h.per _ _ hg
    have h2 := Nat.le_of_dvd hE2.1 (Nat.gcd_dvd_left v.length p)
    have : Nat.gcd v.length p = v.length := by omega
    rw [← this]; exact Nat.gcd_dvd_right _ _
  have hv : perL f m p = v.length := by
    unfold perL
    apply find_least
    · have := Nat.le_of_dvd hE.1 hd; omega
    · simp only [Bool.and_eq_true, decide_eq_true_eq, List.all_eq_true, List.mem_range, beq_iff_eq]
      exact ⟨⟨hE2.1, Nat.mod_eq_zero_of_dvd hd⟩, fun i _ => hE2.2 _ (by omega)⟩
    · intro q hq
      simp only [Bool.and_eq_true, decide_eq_true_eq, List.all_eq_true, List.mem_range, beq_iff_eq] at hq
      exact h.per m q (EP_of_tab hE hq.1.1 (Nat.dvd_of_mod_eq_zero hq.1.2) hq.2)
  have hk : preL f m v.length = u.length := by
    unfold preL
    apply find_least
    · omega
    · simp only [List.all_eq_true, List.mem_range, beq_iff_eq]
      intro i _
      exact h.ep.2 _ (by omega)
    · intro k hk
      simp only [List.all_eq_true, List.mem_range, beq_iff_eq] at hk
      apply h.pre k
      refine ⟨hE2.1, fun n hn => ?_⟩
      rcases Nat.lt_or_ge n m with g | g
      · have := hk (n - k) (by omega)
        rw [show k + (n - k) = n by omega] at this
        exact this
      · exact hE2.2 n g
  obtain ⟨e1, e2⟩ := h.tabs
  show (tab f 0 (preL f m (perL f m p)), tab f (preL f m (perL f m p)) (perL f m p)) = (u, v)
  rw [hv, hk, ← e1, ← e2]

theorem wdL_eq {l : List UInt8} {u v : List Bool} (hok : okW l = true) (h : NF (bitAt (toB (pU l)) (toB (pV l))) u v) : wdL l = some (u, v) := by
  have hv := (okW_len hok).2.2.2
  unfold wdL
  rw [if_pos hok]
  show some (nfL _ _ _) = _
  rw [nfL_eq h (EP_bitAt _ _ hv)]
theorem wdL_no {l : List UInt8} (hok : okW l = false) : wdL l = none := by simp [wdL, hok]

/-- What Parse gives, by the model. -/
def WdIs (l : List UInt8) (e : Ending) : Prop := ∃ u v : List Bool, e = .returned (.tuple #[.agg #[.string (bs u), .string (bs v)], .bool (wdL l).isSome]) ∧ Hid (∀ x, wdL l = some x → x = (u, v) ∧ u.length ≤ 12 ∧ v.length ≤ 12 ∧ v ≠ [])
theorem Parse_m (s : ByteArray) (w : World) (hs : s.size ≤ 1048576) :
    Calls Try.prog 96 #[.string s] w fun e w' => WdIs s.data.toList e ∧ Below w.heap.size w w' := by
  refine (Parse_any s w (by unfold maxLen; omega)).mono ?_
  rintro e w' ⟨⟨hn, rfl⟩ | ⟨hy, u, v, rfl, h, hu, hv⟩, hb⟩
  · exact ⟨⟨[], [], by rw [wdL_no hn]; rfl, fun x hx => by rw [wdL_no hn] at hx; cases hx⟩, hb⟩
  · have e := wdL_eq hy h
    exact ⟨⟨u, v, by rw [e]; rfl, fun x hx => by rw [e] at hx; cases hx; exact ⟨rfl, hu, hv, h.ne⟩⟩, hb⟩
end Go.Proofs.Ytfbkjopidjojeab

namespace Go.Proofs.Ytfbkjopidjojeab
open Go.RowKit

/-- A line as cells. -/
def lnCells (l : Ln) (u : Value) : List Value := [.int .i64 l.no, .int .i64 l.kind, .string (S l.name), u, .int .i64 l.num, .string (bs l.wd.1), .string (bs l.wd.2)]
/-- A line in a block of its own. -/
def LnB (w : World) (b : Nat) (l : Ln) (u : Value) : Prop := w.heap[b]? = some (.cells (lnCells l u).toArray 85 (0, 0))

/-- But for block b all is as it was below B. -/
structure Keep (b B : Nat) (w w' : World) : Prop where
  os : w'.os = w.os
  tape : w'.tape = w.tape
  output : w'.output = w.output
  size : w.heap.size ≤ w'.heap.size
  block : ∀ k, k < B → k ≠ b → w'.heap[k]? = w.heap[k]?
theorem Keep.below {b B : Nat} {w w' : World} (h : Keep b B w w') (hb : b ≤ B) : Below b w w' := ⟨h.os, h.tape, h.output, h.size, fun k hk => h.block k (by omega) (by omega)⟩
theorem Keep.of {b B : Nat} {w w' : World} (h : Below B w w') : Keep b B w w' := ⟨h.os, h.tape, h.output, h.size, fun k hk _ => h.block k hk⟩
theorem Keep.trans {b B : Nat} {w w' w'' : World} (h : Keep b B w w') (k : Keep b B w' w'') : Keep b B w w'' :=
  ⟨k.os.trans h.os, k.tape.trans h.tape, k.output.trans h.output, Nat.le_trans h.size k.size, fun i hi hb => (k.block i hi hb).trans (h.block i hi hb)⟩
theorem Keep.set {b B : Nat} {w : World} (j : Nat) (u : Value) : Keep b B w (w.setCell ⟨b, j, none⟩ u) :=
  ⟨rfl, rfl, rfl, by simp [World.setCell], fun k _ hb => heap_setCell_other w ⟨b, j, none⟩ k u hb⟩

theorem LnB.c {w : World} {b : Nat} {l : Ln} {u : Value} (h : LnB w b l u) (j : Nat) : w.cell? ⟨b, j, none⟩ = (lnCells l u)[j]? := by
  rw [cell_of_row w b j _ _ _ h]; simp
theorem LnB.fz {w : World} {b : Nat} {l : Ln} {u : Value} (h : LnB w b l u) (j : Nat) : w.frozen? ⟨b, j, none⟩ = false := frozen_of_row w b j _ _ h
theorem LnB.lt {w : World} {b : Nat} {l : Ln} {u : Value} (h : LnB w b l u) : b < w.heap.size := (Array.getElem?_eq_some_iff.1 h).1
theorem LnB.below {w w' : World} {B b : Nat} {l : Ln} {u : Value} (h : LnB w b l u) (hb : Below B w w') (hB : b < B) : LnB w' b l u := by
  unfold LnB; rw [hb.block b hB]; exact h

/-- What take gives. -/
def Took (B b : Nat) (l : Ln) (c : UInt8) (p : List UInt8) (e : Ending) (w' : World) : Prop :=
  e = .returned (.bool (takeL l c p).isSome) ∧ ∀ l', takeL l c p = some l' → ∃ u', LnB w' b l' u' ∧ w'.ownsRow B 9 1 u' l'.uses.length (strs l'.uses)

theorem take_n {l : Ln} {c : UInt8} {p : List UInt8} (h : (c.toNat : Int) = 110) : takeL l c p = (numL p).map fun n => { l with num := n } := by
  have : (c == 110) = true := by rw [beq_iff_eq]; apply UInt8.toNat_inj.1; show c.toNat = 110; omega
  simp [takeL, this]
theorem take_w {l : Ln} {c : UInt8} {p : List UInt8} (h : (c.toNat : Int) = 119) : takeL l c p = (wdL p).map fun n => { l with wd := n } := by
  have : (c == 119) = true := by rw [beq_iff_eq]; apply UInt8.toNat_inj.1; show c.toNat = 119; omega
  have h2 : (c == 110) = false := by rw [beq_eq_false_iff_ne]; intro e; rw [e] at h; revert h; decide
  simp [takeL, this, h2]
theorem take_a {l : Ln} {c : UInt8} {p : List UInt8} (h : ¬ (c.toNat : Int) = 110) (h' : ¬ (c.toNat : Int) = 119) : takeL l c p = if okN p then some { l with uses := l.uses ++ [p] } else none := by
  have h1 : (c == 110) = false := by rw [beq_eq_false_iff_ne]; intro e; apply h; rw [e]; rfl
  have h2 : (c == 119) = false := by rw [beq_eq_false_iff_ne]; intro e; apply h'; rw [e]; rfl
  simp [takeL, h1, h2]

set_option maxRecDepth 50000 in
set_option maxHeartbeats 1000000 in
theorem take_num (l : Ln) (u : Value) (c : UInt8) (s : ByteArray) (b B : Nat) (w : World) (hs : s.size ≤ 1048576) (hb : LnB w b l u) (hbB : b < B) (hB : B ≤ w.heap.size)
    (hown : w.ownsRow B 9 1 u l.uses.length (strs l.uses)) (hc : (c.toNat : Int) = 110) :
    Calls Try.prog 77 #[.pointer (some ⟨b, 0, none⟩), .int .u8 c.toNat, .string s] w fun e w' => Took B b l c s.data.toList e w' ∧ Keep b B w w' := by
  have HT : Hid (takeL l c s.data.toList = (numL s.data.toList).map fun n => { l with num := n }) := take_n hc
  go_enter Try.func77, Try.ntmps77
  go_wp2_with (go_at_call 95; refine (readNumber_any s _ hs).mono ?_; rintro e w1 ⟨hN, hb1⟩; unfold NumIs at hN; subst hN; have hb' := hb.below hb1 hb.lt; have c4 := hb'.c 4; have f4 := hb'.fz 4; simp [lnCells] at c4)
  go_ret
  have hk := (Keep.of (b := b) (hb1.mono hB)).trans (Keep.set (b := b) (B := B) (w := w1) 4 (.int .i64 ((numL s.data.toList).getD 0)))
  refine ⟨⟨by rw [HT.out]; simp, fun l' hl' => ⟨u, ?_, ?_⟩⟩, hk⟩
  · rw [HT.out] at hl'
    cases e : numL s.data.toList with
    | none => rw [e] at hl'; cases hl'
    | some n =>
      rw [e] at hl'; cases hl'
      have := heap_setCell_same w1 b 4 _ _ (.int .i64 n) hb'
      simpa [LnB, lnCells] using this
  · have hu : l'.uses = l.uses := by
      rw [HT.out] at hl'
      cases e : numL s.data.toList with
      | none => rw [e] at hl'; cases hl'
      | some n => rw [e] at hl'; cases hl'; rfl
    rw [hu]
    exact ownsRow_setCell_below (ownsRow_below hown hb1) hbB _

theorem own_form {w : World} {B : Nat} {e : TypeId} {size : Nat} {v : Value} {n : Nat} {xs : List Value} (h : w.ownsRow B e size v n xs) (hn : 0 < n) : ∃ g cap, v = .slice (some ⟨g, 0, none⟩) n cap := by
  rcases h.2 with ⟨_, h2⟩ | ⟨g, cap, cur, hv, _⟩
  · omega
  · exact ⟨g, cap, hv⟩

theorem blk_set {w : World} {b j : Nat} {xs : List Value} {t : TypeId} (h : w.heap[b]? = some (.cells xs.toArray t (0, 0))) (v : Value) : (w.setCell ⟨b, j, none⟩ v).heap[b]? = some (.cells (xs.set j v).toArray t (0, 0)) := by
  have := heap_setCell_same w b j _ _ v h
  simpa using this

set_option maxRecDepth 50000 in
set_option maxHeartbeats 1000000 in
theorem take_wd (l : Ln) (u : Value) (c : UInt8) (s : ByteArray) (b B : Nat) (w : World) (hs : s.size ≤ 1048576) (hb : LnB w b l u) (hbB : b < B) (hB : B ≤ w.heap.size)
    (hown : w.ownsRow B 9 1 u l.uses.length (strs l.uses)) (hc : (c.toNat : Int) = 119) :
    Calls Try.prog 77 #[.pointer (some ⟨b, 0, none⟩), .int .u8 c.toNat, .string s] w fun e w' => Took B b l c s.data.toList e w' ∧ Keep b B w w' := by
  have HT : Hid (takeL l c s.data.toList = (wdL s.data.toList).map fun n => { l with wd := n }) := take_w hc
  go_enter Try.func77, Try.ntmps77
  go_wp2_with (go_at_call 96; refine (Parse_m s _ hs).mono ?_; rintro e w1 ⟨⟨x, y, rfl, HX⟩, hb1⟩; have hb' := hb.below hb1 hb.lt; have hlt := hb'.lt; have hA : ∀ o, LnB (w1.alloc o) b l u := fun o => hb'.below ((Below.refl w1.heap.size w1).alloc (Nat.le_refl _) o) hlt; have c5 : w1.cell? ⟨b, 5, none⟩ = some (.string (bs l.wd.1)) := hb'.c 5; have c6 : w1.cell? ⟨b, 6, none⟩ = some (.string (bs l.wd.2)) := hb'.c 6; have f5 := hb'.fz 5; have f6 := hb'.fz 6)
  go_ret
  have hbw : B ≤ w1.heap.size := by have := hb1.size; omega
  have hk := (((Keep.of (b := b) (hb1.mono hB)).trans (Keep.set (b := b) (B := B) 5 (.string (bs x)))).trans (Keep.set (b := b) (B := B) 6 (.string (bs y)))).trans (Keep.of (b := b) ((Below.refl B _).alloc (by simpa [World.setCell] using hbw) (Obj.cells #[Value.string (bs x), Value.string (bs y)] 74)))
  refine ⟨⟨by rw [HT.out]; simp, fun l' hl' => ⟨u, ?_, ?_⟩⟩, hk⟩
  · rw [HT.out] at hl'
    cases e : wdL s.data.toList with
    | none => rw [e] at hl'; cases hl'
    | some n =>
      rw [e] at hl'; cases hl'
      have hn := (HX.out n e).1
      have := blk_set (j := 6) (blk_set (j := 5) hb' (.string (bs x))) (.string (bs y))
      have h3 := ((Below.refl w1.heap.size ((w1.setCell ⟨b, 5, none⟩ (.string (bs x))).setCell ⟨b, 6, none⟩ (.string (bs y)))).alloc (by simp [World.setCell]) (Obj.cells #[Value.string (bs x), Value.string (bs y)] 74)).block b hlt
      unfold LnB
      rw [h3, this, hn]; rfl
  · have hu : l'.uses = l.uses := by
      rw [HT.out] at hl'
      cases e : wdL s.data.toList with
      | none => rw [e] at hl'; cases hl'
      | some n => rw [e] at hl'; cases hl'; rfl
    rw [hu]
    exact (ownsRow_setCell_below (ownsRow_setCell_below (ownsRow_below hown hb1) hbB _) hbB _).alloc _

set_option maxRecDepth 50000 in
set_option maxHeartbeats 1000000 in
theorem take_name (l : Ln) (u : Value) (c : UInt8) (s : ByteArray) (b B : Nat) (w : World) (hs : s.size ≤ 1048576) (hb : LnB w b l u) (hbB : b < B) (hB : B ≤ w.heap.size)
    (hown : w.ownsRow B 9 1 u l.uses.length (strs l.uses)) (hul : l.uses.length ≤ 1048576) (hc : ¬ (c.toNat : Int) = 110) (hc' : ¬ (c.toNat : Int) = 119) :
    Calls Try.prog 77 #[.pointer (some ⟨b, 0, none⟩), .int .u8 c.toNat, .string s] w fun e w' => Took B b l c s.data.toList e w' ∧ Keep b B w w' := by
  have HT : Hid (takeL l c s.data.toList = if okN s.data.toList then some { l with uses := l.uses ++ [s.data.toList] } else none) := take_a hc hc'
  obtain ⟨i0, hi, hz0, hz1, hz2⟩ := info_parts Try.info9
  go_enter Try.func77, Try.ntmps77
  go_wp2_with (first
    | (go_at_call 76; refine (readName_any s _ hs).mono ?_; rintro e w1 ⟨hN, hb1⟩; unfold NameIs at hN; generalize hx : (if okN s.data.toList = true then S s.data.toList else ⟨#[]⟩) = x at hN; have HX : Hid ((if okN s.data.toList = true then S s.data.toList else ⟨#[]⟩) = x) := hx; clear hx; subst hN; have hb' := hb.below hb1 hb.lt; have hlt := hb'.lt; have c3 : w1.cell? ⟨b, 3, none⟩ = some u := hb'.c 3; have hown1 := ownsRow_below hown hb1; have hbw : B ≤ w1.heap.size := (by have := hb1.size; omega))
    | (at_builtin; refine wpList_append_own _ rfl _ _ 43 rfl B 9 i0 (.string ⟨#[]⟩) 1 16 Try.under43 hi hz0 hz1 hz2 rfl (by decide) _ _ _ rfl (hown1.alloc _) ⟨w1.heap.size, 0, none⟩ 1 1 [.string x] rfl rfl (cell_one_new _ _ _) (by intro x hx; simp at hx; subst hx; rfl) (by unfold maxLen; omega) (by omega) (by simp; omega) ?_; intro v' w' hown' hgrow _; obtain ⟨vg, vc, rfl⟩ := own_form hown' (by omega); have hbel : Below B w1 w' := ((Below.refl B w1).alloc hbw _).grown hgrow (by simp; omega) (fun j hj => (hown1.lt j hj).1); have hb2 := hb'.below hbel hbB; have c3' : w'.cell? ⟨b, 3, none⟩ = some u := hb2.c 3; have f3' := hb2.fz 3))
  go_ret
  have hk := ((Keep.of (b := b) (B := B) (w := w) (w' := w') ((hb1.mono hB).trans hbel)).trans (Keep.set (b := b) (B := B) (w := w') 3 (.slice (some ⟨vg, 0, none⟩) (l.uses.length + 1) vc)))
  refine ⟨⟨by rw [HT.out]; split <;> simp_all, fun l' hl' => ⟨.slice (some ⟨vg, 0, none⟩) (l.uses.length + 1) vc, ?_⟩⟩, hk⟩
  rw [HT.out] at hl'
  split at hl'
  · rename_i hok
    cases hl'
    have e1 := HX.out
    rw [if_pos hok] at e1
    refine ⟨?_, ?_⟩
    · have := blk_set (j := 3) hb2 (.slice (some ⟨vg, 0, none⟩) (l.uses.length + 1) vc)
      simpa [LnB, lnCells] using this
    · have h2 := ownsRow_setCell_below hown' (a := ⟨b, 3, none⟩) hbB (.slice (some ⟨vg, 0, none⟩) (l.uses.length + 1) vc)
      rw [← e1] at h2
      simpa [strs] using h2
  · cases hl'

theorem take_any (l : Ln) (u : Value) (c : UInt8) (s : ByteArray) (b B : Nat) (w : World) (hs : s.size ≤ 1048576) (hb : LnB w b l u) (hbB : b < B) (hB : B ≤ w.heap.size)
    (hown : w.ownsRow B 9 1 u l.uses.length (strs l.uses)) (hul : l.uses.length ≤ 1048576) :
    Calls Try.prog 77 #[.pointer (some ⟨b, 0, none⟩), .int .u8 c.toNat, .string s] w fun e w' => Took B b l c s.data.toList e w' ∧ Keep b B w w' := by
  by_cases h1 : (c.toNat : Int) = 110
  · exact take_num l u c s b B w hs hb hbB hB hown h1
  by_cases h2 : (c.toNat : Int) = 119
  · exact take_wd l u c s b B w hs hb hbB hB hown h2
  · exact take_name l u c s b B w hs hb hbB hB hown hul h1 h2
end Go.Proofs.Ytfbkjopidjojeab

namespace Go.Proofs.Ytfbkjopidjojeab
open Go.RowKit

theorem keep_undrew {b B : Nat} {W w1 : World} (h : Keep b B W.drew w1) : Keep b B W w1 := ⟨h.os, h.tape, h.output, h.size, h.block⟩
theorem LnB.drew {w : World} {b : Nat} {l : Ln} {u : Value} (h : LnB w b l u) : LnB w.drew b l u := h

theorem own_mono {w : World} {B B' : Nat} {e : TypeId} {size : Nat} {v : Value} {n : Nat} {xs : List Value} (h : w.ownsRow B e size v n xs) (hb : B' ≤ B) : w.ownsRow B' e size v n xs :=
  ⟨h.1, h.2.imp id fun ⟨g, cap, cur, h1, h2, h3⟩ => ⟨g, cap, cur, h1, Nat.le_trans hb h2, h3⟩⟩
/-- Seven cells are written. -/
def set7 (w : World) (r : Nat) (v0 v1 v2 v3 v4 v5 v6 : Value) : World := ((((((w.setCell ⟨r, 0, none⟩ v0).setCell ⟨r, 1, none⟩ v1).setCell ⟨r, 2, none⟩ v2).setCell ⟨r, 3, none⟩ v3).setCell ⟨r, 4, none⟩ v4).setCell ⟨r, 5, none⟩ v5).setCell ⟨r, 6, none⟩ v6
theorem set7_blk {w : World} {r : Nat} {l : Ln} {u : Value} (h : LnB w r l u) (v0 v1 v2 v3 v4 v5 v6 : Value) (j : Nat) : (set7 w r v0 v1 v2 v3 v4 v5 v6).cell? ⟨r, j, none⟩ = [v0, v1, v2, v3, v4, v5, v6][j]? := by
  have := blk_set (j := 6) (blk_set (j := 5) (blk_set (j := 4) (blk_set (j := 3) (blk_set (j := 2) (blk_set (j := 1) (blk_set (j := 0) h v0) v1) v2) v3) v4) v5) v6
  unfold set7
  rw [cell_of_row _ r j _ _ _ this]
  simp [lnCells]
theorem set7_below {w : World} {r B : Nat} (hr : B ≤ r) (v0 v1 v2 v3 v4 v5 v6 : Value) : Below B w (set7 w r v0 v1 v2 v3 v4 v5 v6) :=
  ((((((((Below.refl B w).setCell hr _).setCell hr _).setCell hr _).setCell hr _).setCell hr _).setCell hr _).setCell hr _)
theorem set7_own {w : World} {r B : Nat} (hr : r < B) (v0 v1 v2 v3 v4 v5 v6 : Value) {e : TypeId} {size : Nat} {v : Value} {n : Nat} {xs : List Value} (h : w.ownsRow B e size v n xs) : (set7 w r v0 v1 v2 v3 v4 v5 v6).ownsRow B e size v n xs :=
  ownsRow_setCell_below (ownsRow_setCell_below (ownsRow_setCell_below (ownsRow_setCell_below (ownsRow_setCell_below (ownsRow_setCell_below (ownsRow_setCell_below h hr _) hr _) hr _) hr _) hr _) hr _) hr _

/-- What fill gives. -/
def Filled (B : Nat) (o : Option Ln) (e : Ending) (w' : World) : Prop :=
  (o = none ∧ e = .returned (.tuple #[.agg #[.int .i64 0, .int .i64 0, .string ⟨#[]⟩, .slice none 0 0, .int .i64 0, .string ⟨#[]⟩, .string ⟨#[]⟩], .bool false])) ∨
  ∃ l u, o = some l ∧ e = .returned (.tuple #[.agg #[.int .i64 l.no, .int .i64 l.kind, .string (S l.name), u, .int .i64 l.num, .string (bs l.wd.1), .string (bs l.wd.2)], .bool true]) ∧ w'.ownsRow B 9 1 u l.uses.length (strs l.uses)

theorem fillL_len {l : Ln} {s : List UInt8} {ps : List (List UInt8)} (h : s.length ≠ ps.length) : fillL l s ps = none := by
  induction s generalizing l ps with
  | nil => cases ps with
    | nil => simp at h
    | cons p ps => rfl
  | cons c s ih => cases ps with
    | nil => rfl
    | cons p ps =>
      unfold fillL
      split
      · rfl
      · exact ih (by simpa using h)

/-- How far fill has come. -/
def FillAt (l0 l : Ln) (s : List UInt8) (L : List (List UInt8)) (k : Nat) : Prop := fillL l0 s L = fillL l (s.drop k) (L.drop k) ∧ l.uses.length ≤ k
theorem FillAt.step {l0 l : Ln} {s : List UInt8} {L : List (List UInt8)} {k : Nat} (h : FillAt l0 l s L k) (h1 : k < s.length) (h2 : k < L.length) :
    (takeL l s[k] L[k] = none → fillL l0 s L = none) ∧ ∀ l', takeL l s[k] L[k] = some l' → FillAt l0 l' s L (k + 1) := by
  obtain ⟨h, hu⟩ := h
  rw [List.drop_eq_getElem_cons h1, List.drop_eq_getElem_cons h2, fillL] at h
  refine ⟨fun e => by rw [h, e], fun l' e => ⟨by rw [h, e], ?_⟩⟩
  unfold takeL at e
  split at e
  · cases hn : numL L[k] with
    | none => rw [hn] at e; cases e
    | some n => rw [hn] at e; cases e; show l.uses.length ≤ _; omega
  · split at e
    · cases hn : wdL L[k] with
      | none => rw [hn] at e; cases e
      | some n => rw [hn] at e; cases e; show l.uses.length ≤ _; omega
    · split at e
      · cases e; simp; omega
      · cases e

/-- The world in which fill begins. -/
def F2 (w : World) (l : Ln) : World := (w.alloc (Obj.cells #[.int .i64 l.no, .int .i64 l.kind, .string (S l.name), .slice none 0 0, .int .i64 l.num, .string (bs l.wd.1), .string (bs l.wd.2)] 85)).alloc (Obj.cells #[.int .i64 0, .int .i64 0, .string ⟨#[]⟩, .slice none 0 0, .int .i64 0, .string ⟨#[]⟩, .string ⟨#[]⟩] 85)
theorem F2_size (w : World) (l : Ln) : (F2 w l).heap.size = w.heap.size + 1 + 1 := by simp [F2]
theorem F2_below (w : World) (l : Ln) : Below w.heap.size w (F2 w l) := ((Below.refl w.heap.size w).alloc (Nat.le_refl _) _).alloc (by simp) _
theorem F2_ln (w : World) (l : Ln) : LnB (F2 w l) w.heap.size l (.slice none 0 0) := by
  unfold LnB F2
  rw [Below.heap_alloc _ _ _ (by simp), heap_alloc_new]
  rfl
theorem F2_r (w : World) (l : Ln) : LnB (F2 w l) (w.heap.size + 1) Ln.zero (.slice none 0 0) := by
  have := heap_alloc_new (w.alloc (Obj.cells #[.int .i64 l.no, .int .i64 l.kind, .string (S l.name), .slice none 0 0, .int .i64 l.num, .string (bs l.wd.1), .string (bs l.wd.2)] 85)) (Obj.cells #[.int .i64 0, .int .i64 0, .string ⟨#[]⟩, .slice none 0 0, .int .i64 0, .string ⟨#[]⟩, .string ⟨#[]⟩] 85)
  rw [show (w.alloc (Obj.cells #[.int .i64 l.no, .int .i64 l.kind, .string (S l.name), .slice none 0 0, .int .i64 l.num, .string (bs l.wd.1), .string (bs l.wd.2)] 85)).heap.size = w.heap.size + 1 by simp] at this
  exact this

set_option maxRecDepth 50000 in
set_option maxHeartbeats 1000000 in
theorem fill_any (l : Ln) (s : ByteArray) (L : List (List UInt8)) (v : Value) (w : World) (hs : s.size ≤ 1048576) (_hL : L.length ≤ 1048576) (hLs : ∀ p ∈ L, p.length ≤ 1048576) (hu : l.uses = []) (hv : Reads w v 1 L.length (strs L)) :
    Calls Try.prog 58 #[.agg #[.int .i64 l.no, .int .i64 l.kind, .string (S l.name), .slice none 0 0, .int .i64 l.num, .string (bs l.wd.1), .string (bs l.wd.2)], .string s, v] w fun e w' => Filled w.heap.size (fillL l s.data.toList L) e w' ∧ Below w.heap.size w w' := by
  obtain ⟨_, p, cap, rfl, hcap, hrow⟩ := hv
  have hl : s.data.toList.length = s.size := by simp
  have HS : Hid (s.data.toList.length = s.size) := hl
  clear hl
  by_cases hne : L.length = s.size
  · go_enter Try.func58, Try.ntmps58
    go_wp2
    go_loopw [8] (fun i wr => ∃ (k : Nat) (l' : Ln) (u : Value), i = .int .i64 k ∧ k ≤ L.length ∧ Hid (FillAt l l' s.data.toList L k) ∧ LnB wr w.heap.size l' u ∧ wr.ownsRow (w.heap.size + 1 + 1) 9 1 u l'.uses.length (strs l'.uses) ∧ Keep w.heap.size (w.heap.size + 1 + 1) (F2 w l) wr)
      (fun i _ => L.length - (intOf i).toNat)
    case atStart => exact ⟨0, l, .slice none 0 0, rfl, Nat.zero_le _, ⟨by simp, by simp [hu]⟩, F2_ln w l, by rw [hu]; exact World.ownsRow_nil _ _ _ _, Keep.of (Below.refl _ _)⟩
    case round =>
      obtain ⟨k, l', u, rfl, hk, HF, hln, hown, hkeep⟩ := hrel
      have hsz := hkeep.size
      have hne1 : L.length ≤ s.size := by omega
      have hne2 : s.size ≤ L.length := by omega
      clear hne
      rw [F2_size] at hsz
      have hcr := (F2_r w l)
      have hrr : LnB wr (w.heap.size + 1) Ln.zero (.slice none 0 0) := by unfold LnB; rw [hkeep.block (w.heap.size + 1) (by omega) (by omega)]; exact hcr
      clear hcr
      by_cases hlt : k < L.length
      · obtain ⟨b, off, rfl, hr⟩ : ∃ b off, p = some ⟨b, off, none⟩ ∧ Row w b off (strs L) := by
          rcases hrow with h | h
          · omega
          · exact h
        have hbel : Below w.heap.size w wr := (F2_below w l).trans (hkeep.below (by omega))
        have hc : wr.cell? ⟨b, off + k, none⟩ = some (.string (S L[k])) := by
          rw [(hr.below hbel hr.1).2 k (by rw [strs_length]; exact hlt), strs_get hlt]
        have hks : k < s.size := by omega
        have hkl : k < s.data.toList.length := by rw [HS.out]; exact hks
        have hstep := HF.out.step hkl hlt
        rw [get_toList _ _ hks] at hstep
        have HSt : Hid ((takeL l' s[k] L[k] = none → fillL l s.data.toList L = none) ∧ ∀ l'', takeL l' s[k] L[k] = some l'' → FillAt l l'' s.data.toList L (k + 1)) := hstep
        have hul : l'.uses.length ≤ 1048576 := by have := HF.out.2; omega
        have hps : (S L[k]).size ≤ 1048576 := by rw [S_size]; exact hLs _ (List.getElem_mem _)
        clear hrow hstep
        go_wp2
        go_region_held3 (fun w' => w'.cell? ⟨b, off + k, none⟩ = some (.string (S L[k]))) (go_keep)
          (first | (go_at_call 77; refine (take_any l' u s[k] (S L[k]) w.heap.size (w.heap.size + 1 + 1) _ hps hln.drew (by omega) hsz hown.drew hul).mono ?_; rintro e w1 ⟨⟨hT, hT2⟩, hk1⟩; subst hT; have hk1' := keep_undrew hk1; have hc1 : w1.cell? ⟨b, off + k, none⟩ = some (.string (S L[k])) := (by rw [(hk1'.below (by omega)).cell (p := ⟨b, off + k, none⟩) hr.1]; exact hc)))
        have hr1 : LnB w1 (w.heap.size + 1) Ln.zero (.slice none 0 0) := by unfold LnB; rw [hk1'.block (w.heap.size + 1) (by omega) (by omega)]; exact hrr
        have hT3 : ∀ x, takeL l' s[k] L[k] = some x → ∃ u', LnB w1 w.heap.size x u' ∧ w1.ownsRow (w.heap.size + 1 + 1) 9 1 u' x.uses.length (strs x.uses) := hT2
        have HT3 : Hid (∀ x, takeL l' s[k] L[k] = some x → ∃ u', LnB w1 w.heap.size x u' ∧ w1.ownsRow (w.heap.size + 1 + 1) 9 1 u' x.uses.length (strs x.uses)) := hT3
        have hkk := hkeep.trans hk1'
        clear hT2 hT3 hk1 hc1 hown hln
        rw [S_data]
        cases ho : takeL l' s[k] L[k] with
        | none =>
          have hno := HSt.out.1 ho
          have d0 := hr1.c 0; have d1 := hr1.c 1; have d2 := hr1.c 2; have d3 := hr1.c 3; have d4 := hr1.c 4; have d5 := hr1.c 5; have d6 := hr1.c 6
          simp only [lnCells, List.getElem?_cons_zero, List.getElem?_cons_succ] at d0 d1 d2 d3 d4 d5 d6
          have e0 := hr1.fz 0; have e1 := hr1.fz 1; have e2 := hr1.fz 2; have e3 := hr1.fz 3; have e4 := hr1.fz 4; have e5 := hr1.fz 5; have e6 := hr1.fz 6
          have HNO : Hid (fillL l s.data.toList L = none) := hno
          clear hno
          go_wp2
          have hq := set7_blk hr1 (.int .i64 0) (.int .i64 0) (.string ⟨#[]⟩) (.slice none 0 0) (.int .i64 0) (.string ⟨#[]⟩) (.string ⟨#[]⟩)
          have q0 := hq 0; have q1 := hq 1; have q2 := hq 2; have q3 := hq 3; have q4 := hq 4; have q5 := hq 5; have q6 := hq 6
          simp only [set7, List.getElem?_cons_zero, List.getElem?_cons_succ] at q0 q1 q2 q3 q4 q5 q6
          refine bodyPost_ret (v := .tuple #[.agg #[.int .i64 0, .int .i64 0, .string ⟨#[]⟩, .slice none 0 0, .int .i64 0, .string ⟨#[]⟩, .string ⟨#[]⟩], .bool false]) (by simp [results, Try.results58, go_sem, q0, q1, q2, q3, q4, q5, q6]) rfl ⟨?_, ?_⟩
          · exact .inl ⟨HNO.out, rfl⟩
          · exact ((F2_below w l).trans (hkk.below (by omega))).trans (set7_below (by omega) _ _ _ _ _ _ _)
        | some l2 =>
          have HF2 := HSt.out.2 l2 ho
          have HF3 : Hid (FillAt l l2 s.data.toList L (k + 1)) := HF2
          obtain ⟨u2, hl2, hown2⟩ := HT3.out l2 ho
          clear HF2 ho
          go_wp2
          go_roundw
          case rel => exact ⟨k + 1, l2, u2, by go_num, by omega, HF3, hl2, hown2, hkk⟩
          case measure => simp [intOf]; omega
      · have hke : k = L.length := by omega
        have hend : fillL l s.data.toList L = some l' := by
          rw [HF.out.1, hke, List.drop_of_length_le (by rw [HS.out]; omega), List.drop_of_length_le (Nat.le_refl _)]; rfl
        have HEND : Hid (fillL l s.data.toList L = some l') := hend
        have d0 := hrr.c 0; have d1 := hrr.c 1; have d2 := hrr.c 2; have d3 := hrr.c 3; have d4 := hrr.c 4; have d5 := hrr.c 5; have d6 := hrr.c 6
        have b0 := hln.c 0; have b1 := hln.c 1; have b2 := hln.c 2; have b3 := hln.c 3; have b4 := hln.c 4; have b5 := hln.c 5; have b6 := hln.c 6
        simp only [lnCells, List.getElem?_cons_zero, List.getElem?_cons_succ] at d0 d1 d2 d3 d4 d5 d6 b0 b1 b2 b3 b4 b5 b6
        have e0 := hrr.fz 0; have e1 := hrr.fz 1; have e2 := hrr.fz 2; have e3 := hrr.fz 3; have e4 := hrr.fz 4; have e5 := hrr.fz 5; have e6 := hrr.fz 6
        obtain ⟨up, un, uc, hu'⟩ : ∃ up un uc, u = .slice up un uc := by
          rcases hown.2 with ⟨h, _⟩ | ⟨g, cap, cur, h, _⟩
          · exact ⟨_, _, _, h⟩
          · exact ⟨_, _, _, h⟩
        subst hu'
        clear hend hrow
        go_wp2
        have hq := set7_blk hrr (.int .i64 l'.no) (.int .i64 l'.kind) (.string (S l'.name)) (.slice up un uc) (.int .i64 l'.num) (.string (bs l'.wd.1)) (.string (bs l'.wd.2))
        have q0 := hq 0; have q1 := hq 1; have q2 := hq 2; have q3 := hq 3; have q4 := hq 4; have q5 := hq 5; have q6 := hq 6
        simp only [set7, List.getElem?_cons_zero, List.getElem?_cons_succ] at q0 q1 q2 q3 q4 q5 q6
        refine bodyPost_ret (v := .tuple #[.agg #[.int .i64 l'.no, .int .i64 l'.kind, .string (S l'.name), .slice up un uc, .int .i64 l'.num, .string (bs l'.wd.1), .string (bs l'.wd.2)], .bool true]) (by simp [results, Try.results58, go_sem, q0, q1, q2, q3, q4, q5, q6]) rfl ⟨?_, ?_⟩
        · exact .inr ⟨l', _, HEND.out, rfl, own_mono (set7_own (r := w.heap.size + 1) (by omega) _ _ _ _ _ _ _ hown) (by omega)⟩
        · exact ((F2_below w l).trans (hkeep.below (by omega))).trans (set7_below (by omega) _ _ _ _ _ _ _)
  · have hno : fillL l s.data.toList L = none := fillL_len (by rw [HS.out]; omega)
    have HNO : Hid (fillL l s.data.toList L = none) := hno
    have hcr := F2_r w l
    clear hno hrow
    go_enter Try.func58, Try.ntmps58
    go_wp2
    have q0 := hcr.c 0; have q1 := hcr.c 1; have q2 := hcr.c 2; have q3 := hcr.c 3; have q4 := hcr.c 4; have q5 := hcr.c 5; have q6 := hcr.c 6
    simp only [lnCells, F2, Ln.zero, List.getElem?_cons_zero, List.getElem?_cons_succ] at q0 q1 q2 q3 q4 q5 q6
    refine bodyPost_ret (v := .tuple #[.agg #[.int .i64 0, .int .i64 0, .string ⟨#[]⟩, .slice none 0 0, .int .i64 0, .string ⟨#[]⟩, .string ⟨#[]⟩], .bool false]) (by simp [results, Try.results58, go_sem]) rfl ⟨?_, ?_⟩
    · exact .inl ⟨HNO.out, rfl⟩
    · exact F2_below w l

/-- What operation gives. -/
def OperIs (l : List UInt8) (e : Ending) : Prop := ∃ (k : Nat) (sh : ByteArray), e = .returned (.tuple #[.int .i64 k, .string sh]) ∧ operL l = (k, sh.data.toList)

set_option maxRecDepth 50000 in
set_option maxHeartbeats 1000000 in
theorem operation_any (s : ByteArray) (w : World) :
    Calls Try.prog 59 #[.string s] w fun e w' => OperIs s.data.toList e ∧ w' = w := by
  have hlt : s.toList = s.data.toList := ByteArray.toList_eq _
  by_cases h0 : s.data.toList = [99, 111, 110, 115, 116]
  · have hs : s = ⟨#[99, 111, 110, 115, 116]⟩ := by rw [← S_of s, h0]; rfl
    subst hs
    clear hlt h0
    go_enter Try.func59, Try.ntmps59
    go_wp2
    go_ret2
    exact ⟨⟨_, _, rfl, rfl⟩, rfl⟩
  by_cases h1 : s.data.toList = [97, 100, 100]
  · have hs : s = ⟨#[97, 100, 100]⟩ := by rw [← S_of s, h1]; rfl
    subst hs
    clear hlt h1 h0
    go_enter Try.func59, Try.ntmps59
    go_wp2
    go_ret2
    exact ⟨⟨_, _, rfl, rfl⟩, rfl⟩
  by_cases h2 : s.data.toList = [115, 117, 98]
  · have hs : s = ⟨#[115, 117, 98]⟩ := by rw [← S_of s, h2]; rfl
    subst hs
    clear hlt h2 h0 h1
    go_enter Try.func59, Try.ntmps59
    go_wp2
    go_ret2
    exact ⟨⟨_, _, rfl, rfl⟩, rfl⟩
  by_cases h3 : s.data.toList = [109, 117, 108]
  · have hs : s = ⟨#[109, 117, 108]⟩ := by rw [← S_of s, h3]; rfl
    subst hs
    clear hlt h3 h0 h1 h2
    go_enter Try.func59, Try.ntmps59
    go_wp2
    go_ret2
    exact ⟨⟨_, _, rfl, rfl⟩, rfl⟩
  by_cases h4 : s.data.toList = [100, 105, 118]
  · have hs : s = ⟨#[100, 105, 118]⟩ := by rw [← S_of s, h4]; rfl
    subst hs
    clear hlt h4 h0 h1 h2 h3
    go_enter Try.func59, Try.ntmps59
    go_wp2
    go_ret2
    exact ⟨⟨_, _, rfl, rfl⟩, rfl⟩
  by_cases h5 : s.data.toList = [108, 101, 115, 115]
  · have hs : s = ⟨#[108, 101, 115, 115]⟩ := by rw [← S_of s, h5]; rfl
    subst hs
    clear hlt h5 h0 h1 h2 h3 h4
    go_enter Try.func59, Try.ntmps59
    go_wp2
    go_ret2
    exact ⟨⟨_, _, rfl, rfl⟩, rfl⟩
  by_cases h6 : s.data.toList = [105, 102]
  · have hs : s = ⟨#[105, 102]⟩ := by rw [← S_of s, h6]; rfl
    subst hs
    clear hlt h6 h0 h1 h2 h3 h4 h5
    go_enter Try.func59, Try.ntmps59
    go_wp2
    go_ret2
    exact ⟨⟨_, _, rfl, rfl⟩, rfl⟩
  by_cases h7 : s.data.toList = [102, 98, 121]
  · have hs : s = ⟨#[102, 98, 121]⟩ := by rw [← S_of s, h7]; rfl
    subst hs
    clear hlt h7 h0 h1 h2 h3 h4 h5 h6
    go_enter Try.func59, Try.ntmps59
    go_wp2
    go_ret2
    exact ⟨⟨_, _, rfl, rfl⟩, rfl⟩
  by_cases h8 : s.data.toList = [119, 104, 101, 110]
  · have hs : s = ⟨#[119, 104, 101, 110]⟩ := by rw [← S_of s, h8]; rfl
    subst hs
    clear hlt h8 h0 h1 h2 h3 h4 h5 h6 h7
    go_enter Try.func59, Try.ntmps59
    go_wp2
    go_ret2
    exact ⟨⟨_, _, rfl, rfl⟩, rfl⟩
  by_cases h9 : s.data.toList = [109, 101, 114, 103, 101]
  · have hs : s = ⟨#[109, 101, 114, 103, 101]⟩ := by rw [← S_of s, h9]; rfl
    subst hs
    clear hlt h9 h0 h1 h2 h3 h4 h5 h6 h7 h8
    go_enter Try.func59, Try.ntmps59
    go_wp2
    go_ret2
    exact ⟨⟨_, _, rfl, rfl⟩, rfl⟩
  by_cases h10 : s.data.toList = [98, 117, 102, 102, 101, 114]
  · have hs : s = ⟨#[98, 117, 102, 102, 101, 114]⟩ := by rw [← S_of s, h10]; rfl
    subst hs
    clear hlt h10 h0 h1 h2 h3 h4 h5 h6 h7 h8 h9
    go_enter Try.func59, Try.ntmps59
    go_wp2
    go_ret2
    exact ⟨⟨_, _, rfl, rfl⟩, rfl⟩
  have g0 : (s.toList == [99, 111, 110, 115, 116]) = false := by rw [hlt]; exact beq_eq_false_iff_ne.2 h0
  have g1 : (s.toList == [97, 100, 100]) = false := by rw [hlt]; exact beq_eq_false_iff_ne.2 h1
  have g2 : (s.toList == [115, 117, 98]) = false := by rw [hlt]; exact beq_eq_false_iff_ne.2 h2
  have g3 : (s.toList == [109, 117, 108]) = false := by rw [hlt]; exact beq_eq_false_iff_ne.2 h3
  have g4 : (s.toList == [100, 105, 118]) = false := by rw [hlt]; exact beq_eq_false_iff_ne.2 h4
  have g5 : (s.toList == [108, 101, 115, 115]) = false := by rw [hlt]; exact beq_eq_false_iff_ne.2 h5
  have g6 : (s.toList == [105, 102]) = false := by rw [hlt]; exact beq_eq_false_iff_ne.2 h6
  have g7 : (s.toList == [102, 98, 121]) = false := by rw [hlt]; exact beq_eq_false_iff_ne.2 h7
  have g8 : (s.toList == [119, 104, 101, 110]) = false := by rw [hlt]; exact beq_eq_false_iff_ne.2 h8
  have g9 : (s.toList == [109, 101, 114, 103, 101]) = false := by rw [hlt]; exact beq_eq_false_iff_ne.2 h9
  have g10 : (s.toList == [98, 117, 102, 102, 101, 114]) = false := by rw [hlt]; exact beq_eq_false_iff_ne.2 h10
  have i0 : (s.data.toList == [99, 111, 110, 115, 116]) = false := beq_eq_false_iff_ne.2 h0
  have i1 : (s.data.toList == [97, 100, 100]) = false := beq_eq_false_iff_ne.2 h1
  have i2 : (s.data.toList == [115, 117, 98]) = false := beq_eq_false_iff_ne.2 h2
  have i3 : (s.data.toList == [109, 117, 108]) = false := beq_eq_false_iff_ne.2 h3
  have i4 : (s.data.toList == [100, 105, 118]) = false := beq_eq_false_iff_ne.2 h4
  have i5 : (s.data.toList == [108, 101, 115, 115]) = false := beq_eq_false_iff_ne.2 h5
  have i6 : (s.data.toList == [105, 102]) = false := beq_eq_false_iff_ne.2 h6
  have i7 : (s.data.toList == [102, 98, 121]) = false := beq_eq_false_iff_ne.2 h7
  have i8 : (s.data.toList == [119, 104, 101, 110]) = false := beq_eq_false_iff_ne.2 h8
  have i9 : (s.data.toList == [109, 101, 114, 103, 101]) = false := beq_eq_false_iff_ne.2 h9
  have i10 : (s.data.toList == [98, 117, 102, 102, 101, 114]) = false := beq_eq_false_iff_ne.2 h10
  have HE : Hid (operL s.data.toList = (0, [])) := by show operL s.data.toList = (0, []); simp only [operL, i0, i1, i2, i3, i4, i5, i6, i7, i8, i9, i10]; rfl
  clear hlt h0 i0 h1 i1 h2 i2 h3 i3 h4 i4 h5 i5 h6 i6 h7 i7 h8 i8 h9 i9 h10 i10
  go_enter Try.func59, Try.ntmps59
  go_wp2
  go_ret2
  exact ⟨⟨0, ⟨#[]⟩, rfl, HE.out⟩, rfl⟩
end Go.Proofs.Ytfbkjopidjojeab

namespace Go.Proofs.Ytfbkjopidjojeab
open Go.RowKit

/-- The world with a line of nothing. -/
def F1 (w : World) : World := w.alloc (Obj.cells #[.int .i64 0, .int .i64 0, .string ⟨#[]⟩, .slice none 0 0, .int .i64 0, .string ⟨#[]⟩, .string ⟨#[]⟩] 85)
theorem F1_size (w : World) : (F1 w).heap.size = w.heap.size + 1 := by simp [F1]
theorem F1_below (w : World) : Below w.heap.size w (F1 w) := (Below.refl w.heap.size w).alloc (Nat.le_refl _) _
theorem F1_r (w : World) : LnB (F1 w) w.heap.size Ln.zero (.slice none 0 0) := by
  unfold LnB F1
  rw [heap_alloc_new]
  rfl
theorem Reads.below {w w' : World} {B : Nat} {v : Value} {size n : Nat} {xs : List Value} (h : Reads w v size n xs) (hb : Below B w w') (hB : w.heap.size ≤ B) : Reads w' v size n xs := by
  obtain ⟨h1, p, cap, h2, h3, h4⟩ := h
  refine ⟨h1, p, cap, h2, h3, h4.imp id fun ⟨b, off, e, hr⟩ => ⟨b, off, e, hr.below hb (by have := hr.1; omega)⟩⟩
theorem own_isSlice {w : World} {B : Nat} {e : TypeId} {size : Nat} {v : Value} {n : Nat} {xs : List Value} (h : w.ownsRow B e size v n xs) : ∃ up un uc, v = .slice up un uc := by
  rcases h.2 with ⟨h, _⟩ | ⟨g, cap, cur, h, _⟩
  · exact ⟨_, _, _, h⟩
  · exact ⟨_, _, _, h⟩

set_option maxRecDepth 50000 in
set_option maxHeartbeats 1000000 in
theorem parseOwn_any (kind : Nat) (own s : ByteArray) (L : List (List UInt8)) (v : Value) (w : World) (ho : own.size ≤ 1048576) (hs : s.size ≤ 1048576) (hL : L.length ≤ 1048576) (hLs : ∀ p ∈ L, p.length ≤ 1048576) (hv : Reads w v 1 L.length (strs L)) :
    Calls Try.prog 57 #[.int .i64 kind, .string own, .string s, v] w fun e w' => Filled w.heap.size (ownL kind own.data.toList s.data.toList L) e w' ∧ Below w.heap.size w w' := by
  have hv1 := hv.below (F1_below w) (Nat.le_refl _)
  have hr0 := F1_r w
  go_enter Try.func57, Try.ntmps57
  cases hok : okN own.data.toList with
  | false =>
    have HO : Hid (ownL kind own.data.toList s.data.toList L = none) := by show ownL _ _ _ _ = none; simp [ownL, hok]
    go_wp2_with (go_at_call 76; refine (readName_any own _ ho).mono ?_; rintro e w1 ⟨hN, hb1⟩; unfold NameIs at hN; rw [hok, if_neg (by simp)] at hN; subst hN; have hb1' : Below (F1 w).heap.size (F1 w) w1 := hb1; have hr1 := hr0.below hb1' (by rw [F1_size]; omega); have d0 := hr1.c 0; have d1 := hr1.c 1; have d2 := hr1.c 2; have d3 := hr1.c 3; have d4 := hr1.c 4; have d5 := hr1.c 5; have d6 := hr1.c 6; simp only [lnCells, Ln.zero, List.getElem?_cons_zero, List.getElem?_cons_succ] at d0 d1 d2 d3 d4 d5 d6; have e0 := hr1.fz 0; have e1 := hr1.fz 1; have e2 := hr1.fz 2; have e3 := hr1.fz 3; have e4 := hr1.fz 4; have e5 := hr1.fz 5; have e6 := hr1.fz 6)
    have hq := set7_blk hr1 (.int .i64 0) (.int .i64 0) (.string ⟨#[]⟩) (.slice none 0 0) (.int .i64 0) (.string ⟨#[]⟩) (.string ⟨#[]⟩)
    have q0 := hq 0; have q1 := hq 1; have q2 := hq 2; have q3 := hq 3; have q4 := hq 4; have q5 := hq 5; have q6 := hq 6
    simp only [set7, List.getElem?_cons_zero, List.getElem?_cons_succ] at q0 q1 q2 q3 q4 q5 q6
    refine bodyPost_ret (v := .tuple #[.agg #[.int .i64 0, .int .i64 0, .string ⟨#[]⟩, .slice none 0 0, .int .i64 0, .string ⟨#[]⟩, .string ⟨#[]⟩], .bool false]) (by simp [results, Try.results57, go_sem, q0, q1, q2, q3, q4, q5, q6]) rfl ⟨?_, ?_⟩
    · exact .inl ⟨HO.out, rfl⟩
    · exact ((F1_below w).trans (hb1'.mono (by rw [F1_size]; omega))).trans (set7_below (Nat.le_refl _) _ _ _ _ _ _ _)
  | true =>
    have HO : Hid (ownL kind own.data.toList s.data.toList L = fillL { Ln.zero with kind := kind, name := own.data.toList } s.data.toList L) := by show ownL _ _ _ _ = _; simp [ownL, hok]
    go_wp2_with (go_at_call 76; refine (readName_any own _ ho).mono ?_; rintro e w1 ⟨hN, hb1⟩; unfold NameIs at hN; rw [hok, if_pos rfl, S_of] at hN; subst hN; have hb1' : Below (F1 w).heap.size (F1 w) w1 := hb1; have hr1 := hr0.below hb1' (by rw [F1_size]; omega); have hv2 := hv1.below hb1' (Nat.le_refl _))
    have hcall := fill_any { Ln.zero with kind := kind, name := own.data.toList } s L v w1 hs hL hLs rfl hv2
    rw [S_of] at hcall
    refine hcall.mono ?_
    rintro e w2 ⟨hF, hb2⟩
    have hz := hb1'.size
    rw [F1_size] at hz
    have hbel : Below w.heap.size w w2 := ((F1_below w).trans (hb1'.mono (by rw [F1_size]; omega))).trans (hb2.mono (by omega))
    have hr2 := hr1.below hb2 (by omega)
    have HF : Hid (Filled w1.heap.size (fillL { Ln.zero with kind := kind, name := own.data.toList } s.data.toList L) e w2) := hF
    have d0 := hr2.c 0; have d1 := hr2.c 1; have d2 := hr2.c 2; have d3 := hr2.c 3; have d4 := hr2.c 4; have d5 := hr2.c 5; have d6 := hr2.c 6
    simp only [lnCells, Ln.zero, List.getElem?_cons_zero, List.getElem?_cons_succ] at d0 d1 d2 d3 d4 d5 d6
    have e0 := hr2.fz 0; have e1 := hr2.fz 1; have e2 := hr2.fz 2; have e3 := hr2.fz 3; have e4 := hr2.fz 4; have e5 := hr2.fz 5; have e6 := hr2.fz 6
    clear hF hcall
    rcases HF.out with ⟨h1, rfl⟩ | ⟨l, u, h1, rfl, hown⟩
    · have H1 : Hid (fillL { Ln.zero with kind := kind, name := own.data.toList } s.data.toList L = none) := h1
      clear h1 HF
      go_wp2
      have hq := set7_blk hr2 (.int .i64 0) (.int .i64 0) (.string ⟨#[]⟩) (.slice none 0 0) (.int .i64 0) (.string ⟨#[]⟩) (.string ⟨#[]⟩)
      have q0 := hq 0; have q1 := hq 1; have q2 := hq 2; have q3 := hq 3; have q4 := hq 4; have q5 := hq 5; have q6 := hq 6
      simp only [set7, List.getElem?_cons_zero, List.getElem?_cons_succ] at q0 q1 q2 q3 q4 q5 q6
      refine bodyPost_ret (v := .tuple #[.agg #[.int .i64 0, .int .i64 0, .string ⟨#[]⟩, .slice none 0 0, .int .i64 0, .string ⟨#[]⟩, .string ⟨#[]⟩], .bool false]) (by simp [results, Try.results57, go_sem, q0, q1, q2, q3, q4, q5, q6]) rfl ⟨?_, ?_⟩
      · exact .inl ⟨HO.out.trans H1.out, rfl⟩
      · exact hbel.trans (set7_below (Nat.le_refl _) _ _ _ _ _ _ _)
    · have H1 : Hid (fillL { Ln.zero with kind := kind, name := own.data.toList } s.data.toList L = some l) := h1
      obtain ⟨up, un, uc, rfl⟩ := own_isSlice hown
      clear h1 HF
      go_wp2
      have hq := set7_blk hr2 (.int .i64 l.no) (.int .i64 l.kind) (.string (S l.name)) (.slice up un uc) (.int .i64 l.num) (.string (bs l.wd.1)) (.string (bs l.wd.2))
      have q0 := hq 0; have q1 := hq 1; have q2 := hq 2; have q3 := hq 3; have q4 := hq 4; have q5 := hq 5; have q6 := hq 6
      simp only [set7, List.getElem?_cons_zero, List.getElem?_cons_succ] at q0 q1 q2 q3 q4 q5 q6
      refine bodyPost_ret (v := .tuple #[.agg #[.int .i64 l.no, .int .i64 l.kind, .string (S l.name), .slice up un uc, .int .i64 l.num, .string (bs l.wd.1), .string (bs l.wd.2)], .bool true]) (by simp [results, Try.results57, go_sem, q0, q1, q2, q3, q4, q5, q6]) rfl ⟨?_, ?_⟩
      · exact .inr ⟨l, _, HO.out.trans H1.out, rfl, own_mono (set7_own (r := w.heap.size) (by omega) _ _ _ _ _ _ _ hown) (by omega)⟩
      · exact hbel.trans (set7_below (Nat.le_refl _) _ _ _ _ _ _ _)
end Go.Proofs.Ytfbkjopidjojeab

namespace Go.Proofs.Ytfbkjopidjojeab
open Go.RowKit

/-- What fill gives, in one form. -/
theorem Filled.gen {B : Nat} {o : Option Ln} {e : Ending} {w' : World} (h : Filled B o e w') : ∃ (n1 n2 : Int) (nm : ByteArray) (up : Option Addr) (un uc : Nat) (n3 : Int) (y1 y2 : ByteArray) (ok : Bool), e = .returned (.tuple #[.agg #[.int .i64 n1, .int .i64 n2, .string nm, .slice up un uc, .int .i64 n3, .string y1, .string y2], .bool ok]) ∧ Hid (Filled B o (.returned (.tuple #[.agg #[.int .i64 n1, .int .i64 n2, .string nm, .slice up un uc, .int .i64 n3, .string y1, .string y2], .bool ok])) w') := by
  rcases h with ⟨h1, rfl⟩ | ⟨l, u, h1, rfl, hown⟩
  · exact ⟨_, _, _, _, _, _, _, _, _, _, rfl, .inl ⟨h1, rfl⟩⟩
  · obtain ⟨up, un, uc, rfl⟩ := own_isSlice hown
    exact ⟨_, _, _, _, _, _, _, _, _, _, rfl, .inr ⟨l, _, h1, rfl, hown⟩⟩
theorem Filled.move {B B' : Nat} {o : Option Ln} {e : Ending} {w1 w2 : World} (h : Filled B o e w1) (hm : ∀ v n xs, w1.ownsRow B 9 1 v n xs → w2.ownsRow B' 9 1 v n xs) : Filled B' o e w2 := by
  rcases h with ⟨h1, h2⟩ | ⟨l, u, h1, h2, hown⟩
  · exact .inl ⟨h1, h2⟩
  · exact .inr ⟨l, u, h1, h2, hm _ _ _ hown⟩

theorem operL_len (c : List UInt8) : (operL c).2.length ≤ 3 := by
  unfold operL
  by_cases h0 : (c == [99, 111, 110, 115, 116]) = true
  · rw [if_pos h0]; decide
  rw [if_neg h0]
  by_cases h1 : (c == [97, 100, 100]) = true
  · rw [if_pos h1]; decide
  rw [if_neg h1]
  by_cases h2 : (c == [115, 117, 98]) = true
  · rw [if_pos h2]; decide
  rw [if_neg h2]
  by_cases h3 : (c == [109, 117, 108]) = true
  · rw [if_pos h3]; decide
  rw [if_neg h3]
  by_cases h4 : (c == [100, 105, 118]) = true
  · rw [if_pos h4]; decide
  rw [if_neg h4]
  by_cases h5 : (c == [108, 101, 115, 115]) = true
  · rw [if_pos h5]; decide
  rw [if_neg h5]
  by_cases h6 : (c == [105, 102]) = true
  · rw [if_pos h6]; decide
  rw [if_neg h6]
  by_cases h7 : (c == [102, 98, 121]) = true
  · rw [if_pos h7]; decide
  rw [if_neg h7]
  by_cases h8 : (c == [119, 104, 101, 110]) = true
  · rw [if_pos h8]; decide
  rw [if_neg h8]
  by_cases h9 : (c == [109, 101, 114, 103, 101]) = true
  · rw [if_pos h9]; decide
  rw [if_neg h9]
  by_cases h10 : (c == [98, 117, 102, 102, 101, 114]) = true
  · rw [if_pos h10]; decide
  rw [if_neg h10]
  decide

theorem Reads.drew {w : World} {v : Value} {size n : Nat} {xs : List Value} (h : Reads w v size n xs) : Reads w.drew v size n xs := h

/-- A part of what can be read. -/
theorem Row.reads {w : World} {b off : Nat} {L : List (List UInt8)} (h : Row w b off (strs L)) (k m cap : Nat) (hk : k ≤ L.length) (hm : m = L.length - k) (hc : L.length ≤ cap) : Reads w (.slice (if cap = k then some ⟨b, off, none⟩ else some ⟨b, off + k, none⟩) m (cap - k)) 1 (L.drop k).length (strs (L.drop k)) := by
  subst hm
  refine ⟨by rw [strs_length]; simp, _, cap - k, by rw [List.length_drop], by rw [List.length_drop]; omega, ?_⟩
  by_cases hck : cap = k
  · exact .inl (by rw [List.length_drop]; omega)
  · right
    rw [if_neg hck]
    refine ⟨b, off + k, rfl, ?_⟩
    have := h.drop k (by rw [strs_length]; exact hk)
    simpa [strs] using this

set_option maxRecDepth 50000 in
set_option maxHeartbeats 1000000 in
theorem parse_short (L : List (List UInt8)) (v : Value) (w : World) (h : L.length < 2) (hv : Reads w v 1 L.length (strs L)) :
    Calls Try.prog 40 #[v] w fun e w' => Filled w.heap.size (parseL L) e w' ∧ Below w.heap.size w w' := by
  obtain ⟨_, p, cap, rfl, hcap, hrow⟩ := hv
  have HP : Hid (parseL L = none) := by
    show parseL L = none
    match L, h with
    | [], _ => rfl
    | [a], _ => rfl
    | a :: b :: r, h => simp at h; omega
  clear hrow
  go_enter Try.func40, Try.ntmps40
  go_wp2
  refine bodyPost_ret (v := .tuple #[.agg #[.int .i64 0, .int .i64 0, .string ⟨#[]⟩, .slice none 0 0, .int .i64 0, .string ⟨#[]⟩, .string ⟨#[]⟩], .bool false]) (by simp [results, Try.results40, go_sem]) rfl ⟨?_, ?_⟩
  · exact .inl ⟨HP.out, rfl⟩
  · exact F1_below w


set_option maxRecDepth 50000 in
set_option maxHeartbeats 1000000 in
theorem parse_long (a b : List UInt8) (r : List (List UInt8)) (blk off cap : Nat) (w : World) (hL : (a :: b :: r).length ≤ 1048576) (hLs : ∀ p ∈ a :: b :: r, p.length ≤ 1048576) (hcap : (a :: b :: r).length ≤ cap) (hr : Row w blk off (strs (a :: b :: r))) :
    Calls Try.prog 40 #[.slice (some ⟨blk, off, none⟩) (a :: b :: r).length cap] w fun e w' => Filled w.heap.size (parseL (a :: b :: r)) e w' ∧ Below w.heap.size w w' := by
  have hr0 := F1_r w
  have hrf := hr.below (F1_below w) hr.1
  have hlen : (a :: b :: r).length = r.length + 2 := by simp
  have c0 : w.cell? ⟨blk, off, none⟩ = some (.string (S a)) := by have := hr.2 0 (by simp [strs]); simpa [strs] using this
  have c1 : w.cell? ⟨blk, off + 1, none⟩ = some (.string (S b)) := by have := hr.2 1 (by simp [strs]); simpa [strs] using this
  have hblk : blk < w.heap.size := hr.1
  have hnw0 : w.heap.size ≠ blk := by omega
  have hta : (S a).toList = a := by rw [ByteArray.toList_eq, S_data]
  have htb : (S b).toList = b := by rw [ByteArray.toList_eq, S_data]
  have hsa : (S a).size ≤ 1048576 := by rw [S_size]; exact hLs a (by simp)
  have hsb : (S b).size ≤ 1048576 := by rw [S_size]; exact hLs b (by simp)
  obtain ⟨n, hn⟩ : ∃ n, n = (a :: b :: r).length := ⟨_, rfl⟩
  rw [hlen] at hn hL hcap
  rw [hlen, ← hn]
  rw [← hn] at hcap
  have hn2 : 2 ≤ n := by omega
  have HN : Hid (n = r.length + 2) := hn
  have hn1 : n ≤ 1048576 := by omega
  have hI0 : 0 < n := by omega
  have hI1 : (1 : Int) < (n : Int) := by omega
  have hI2 : (2 : Int) ≤ (n : Int) := by omega
  have hI3 : (n : Int) ≤ (cap : Int) := by omega
  have hI4 : (2 : Int) ≤ (cap : Int) := by omega
  clear hn hlen hL
  by_cases hin : a = [105, 110]
  · have HP : Hid (parseL (a :: b :: r) = ownL 1 b [119] r) := by show parseL _ = _; simp [parseL, hin]
    have g0 : ((S a).toList == [105, 110]) = true := by rw [hta]; simp [hin]
    have hrd := hrf.reads 2 (n - 2) cap (by simp) (by have := HN.out; simp; omega) (by have := HN.out; simp; omega)
    clear hin hta htb
    · obtain ⟨P, hP⟩ : ∃ P, (if cap = 2 then some (⟨blk, off, none⟩ : Addr) else some ⟨blk, off + 2, none⟩) = P := ⟨_, rfl⟩
      rw [hP] at hrd
      go_enter Try.func40, Try.ntmps40
      go_wp2
      go_region_held3 (fun w' => w'.cell? ⟨blk, off + 1, none⟩ = some (.string (S b))) (go_keep)
        (first | (go_at_call 57; refine (parseOwn_any 1 (S b) ⟨#[119]⟩ r _ _ hsb (by decide) (by have := HN.out; omega) (fun p hp => hLs p (by simp [hp])) (Reads.drew hrd)).mono ?_; rintro e w1 ⟨hF, hb1⟩; obtain ⟨n1, n2, nm, up, un, uc, n3, y1, y2, ok, rfl, HF⟩ := hF.gen; have hb1' : Below (F1 w).heap.size (F1 w) w1 := below_undrew (W := F1 w) hb1; have hr1 := hr0.below hb1' (by rw [F1_size]; omega); have d0 := hr1.c 0; have d1 := hr1.c 1; have d2 := hr1.c 2; have d3 := hr1.c 3; have d4 := hr1.c 4; have d5 := hr1.c 5; have d6 := hr1.c 6; simp only [lnCells, Ln.zero, List.getElem?_cons_zero, List.getElem?_cons_succ] at d0 d1 d2 d3 d4 d5 d6; have e0 := hr1.fz 0; have e1 := hr1.fz 1; have e2 := hr1.fz 2; have e3 := hr1.fz 3; have e4 := hr1.fz 4; have e5 := hr1.fz 5; have e6 := hr1.fz 6; have c1' : w1.cell? ⟨blk, off + 1, none⟩ = some (.string (S b)) := (by rw [hb1'.cell (p := ⟨blk, off + 1, none⟩) hrf.1, (F1_below w).cell (p := ⟨blk, off + 1, none⟩) hblk]; exact c1); clear hF hb1))
      go_wp2
      have hq := set7_blk hr1 (.int .i64 n1) (.int .i64 n2) (.string nm) (.slice up un uc) (.int .i64 n3) (.string y1) (.string y2)
      have q0 := hq 0; have q1 := hq 1; have q2 := hq 2; have q3 := hq 3; have q4 := hq 4; have q5 := hq 5; have q6 := hq 6
      simp only [set7, List.getElem?_cons_zero, List.getElem?_cons_succ] at q0 q1 q2 q3 q4 q5 q6
      refine bodyPost_ret (v := .tuple #[.agg #[.int .i64 n1, .int .i64 n2, .string nm, .slice up un uc, .int .i64 n3, .string y1, .string y2], .bool ok]) (by simp [results, Try.results40, go_sem, q0, q1, q2, q3, q4, q5, q6]) rfl ⟨?_, ?_⟩
      · rw [HP.out]
        exact HF.out.move fun v n xs h => own_mono (set7_own (r := w.heap.size) (by have := hb1'.size; rw [F1_size] at this; show w.heap.size < (F1 w).drew.heap.size; show w.heap.size < (F1 w).heap.size; rw [F1_size]; omega) _ _ _ _ _ _ _ h) (by show w.heap.size ≤ (F1 w).heap.size; rw [F1_size]; omega)
      · exact ((F1_below w).trans (hb1'.mono (by rw [F1_size]; omega))).trans (set7_below (Nat.le_refl _) _ _ _ _ _ _ _)
  have g0 : ((S a).toList == [105, 110]) = false := by rw [hta]; exact beq_eq_false_iff_ne.2 hin
  by_cases hout : a = [111, 117, 116]
  · have HP : Hid (parseL (a :: b :: r) = fillL { Ln.zero with kind := 13 } [97] (b :: r)) := by show parseL _ = _; simp [parseL, hout]
    have g1 : ((S a).toList == [111, 117, 116]) = true := by rw [hta]; simp [hout]
    have hrd := hrf.reads 1 (n - 1) cap (by simp) (by have := HN.out; simp; omega) (by have := HN.out; simp; omega)
    clear hin hta htb hout
    obtain ⟨P, hP⟩ : ∃ P, (if cap = 1 then some (⟨blk, off, none⟩ : Addr) else some ⟨blk, off + 1, none⟩) = P := ⟨_, rfl⟩
    rw [hP] at hrd
    go_enter Try.func40, Try.ntmps40
    go_wp2_with fail
    have hcall := fill_any { Ln.zero with kind := 13 } ⟨#[97]⟩ (b :: r) _ (F1 w) (by decide) (by have := HN.out; simp; omega) (fun p hp => hLs p (by simp at hp ⊢; exact .inr hp)) rfl hrd
    refine hcall.mono ?_
    rintro e w1 ⟨hF, hb1'⟩
    obtain ⟨n1, n2, nm, up, un, uc, n3, y1, y2, ok, rfl, HF⟩ := hF.gen
    have hr1 := hr0.below hb1' (by rw [F1_size]; omega)
    have d0 := hr1.c 0; have d1 := hr1.c 1; have d2 := hr1.c 2; have d3 := hr1.c 3; have d4 := hr1.c 4; have d5 := hr1.c 5; have d6 := hr1.c 6
    simp only [lnCells, Ln.zero, List.getElem?_cons_zero, List.getElem?_cons_succ] at d0 d1 d2 d3 d4 d5 d6
    have e0 := hr1.fz 0; have e1 := hr1.fz 1; have e2 := hr1.fz 2; have e3 := hr1.fz 3; have e4 := hr1.fz 4; have e5 := hr1.fz 5; have e6 := hr1.fz 6
    clear hF hcall
    go_wp2
    have hq := set7_blk hr1 (.int .i64 n1) (.int .i64 n2) (.string nm) (.slice up un uc) (.int .i64 n3) (.string y1) (.string y2)
    have q0 := hq 0; have q1 := hq 1; have q2 := hq 2; have q3 := hq 3; have q4 := hq 4; have q5 := hq 5; have q6 := hq 6
    simp only [set7, List.getElem?_cons_zero, List.getElem?_cons_succ] at q0 q1 q2 q3 q4 q5 q6
    refine bodyPost_ret (v := .tuple #[.agg #[.int .i64 n1, .int .i64 n2, .string nm, .slice up un uc, .int .i64 n3, .string y1, .string y2], .bool ok]) (by simp [results, Try.results40, go_sem, q0, q1, q2, q3, q4, q5, q6]) rfl ⟨?_, ?_⟩
    · rw [HP.out]
      exact HF.out.move fun v n xs h => own_mono (set7_own (r := w.heap.size) (by show w.heap.size < (F1 w).heap.size; rw [F1_size]; omega) _ _ _ _ _ _ _ h) (by show w.heap.size ≤ (F1 w).heap.size; rw [F1_size]; omega)
    · exact ((F1_below w).trans (hb1'.mono (by rw [F1_size]; omega))).trans (set7_below (Nat.le_refl _) _ _ _ _ _ _ _)
  have g1 : ((S a).toList == [111, 117, 116]) = false := by rw [hta]; exact beq_eq_false_iff_ne.2 hout
  by_cases h3 : n < 3
  · have HP : Hid (parseL (a :: b :: r) = none) := by
      show parseL _ = _
      have : r = [] := List.length_eq_zero_iff.1 (by have := HN.out; omega)
      subst this
      simp [parseL, hin, hout]
    clear hin hta htb hout
    go_enter Try.func40, Try.ntmps40
    go_wp2
    refine bodyPost_ret (v := .tuple #[.agg #[.int .i64 0, .int .i64 0, .string ⟨#[]⟩, .slice none 0 0, .int .i64 0, .string ⟨#[]⟩, .string ⟨#[]⟩], .bool false]) (by simp [results, Try.results40, go_sem]) rfl ⟨?_, ?_⟩
    · exact .inl ⟨HP.out, rfl⟩
    · exact F1_below w
  by_cases heq : b = [61]
  case neg =>
    have HP : Hid (parseL (a :: b :: r) = none) := by
      show parseL _ = _
      simp only [parseL, beq_eq_false_iff_ne.2 hin, beq_eq_false_iff_ne.2 hout, beq_eq_false_iff_ne.2 heq]
      cases r <;> rfl
    have g2 : ((S b).toList == [61]) = false := by rw [htb]; exact beq_eq_false_iff_ne.2 heq
    have g3 : ((S b).toList != [61]) = true := by rw [htb]; simpa using heq
    clear hin hta htb hout heq
    go_enter Try.func40, Try.ntmps40
    go_wp2
    refine bodyPost_ret (v := .tuple #[.agg #[.int .i64 0, .int .i64 0, .string ⟨#[]⟩, .slice none 0 0, .int .i64 0, .string ⟨#[]⟩, .string ⟨#[]⟩], .bool false]) (by simp [results, Try.results40, go_sem]) rfl ⟨?_, ?_⟩
    · exact .inl ⟨HP.out, rfl⟩
    · exact F1_below w
  have g2 : ((S b).toList == [61]) = true := by rw [htb]; simpa using heq
  have g3 : ((S b).toList != [61]) = false := by rw [htb]; simpa using heq
  obtain ⟨c, r', rfl⟩ : ∃ c r', r = c :: r' := by
    cases r with
    | nil => have := HN.out; simp at this; omega
    | cons c r' => exact ⟨c, r', rfl⟩
  have c2 : w.cell? ⟨blk, off + 2, none⟩ = some (.string (S c)) := by have := hr.2 2 (by simp [strs]); simpa [strs] using this
  have hI5 : (2 : Int) < (n : Int) := by omega
  have hI6 : (3 : Int) ≤ (n : Int) := by omega
  have hI7 : (3 : Int) ≤ (cap : Int) := by omega
  have hP0 : parseL (a :: b :: c :: r') = if (operL c).1 == 0 then none else ownL (operL c).1 a (operL c).2 r' := by
    simp only [parseL, beq_eq_false_iff_ne.2 hin, beq_eq_false_iff_ne.2 hout, heq]; rfl
  have HP0 : Hid (parseL (a :: b :: c :: r') = if (operL c).1 == 0 then none else ownL (operL c).1 a (operL c).2 r') := hP0
  have hrd := hrf.reads 3 (n - 3) cap (by simp) (by have := HN.out; simp at this ⊢; omega) (by have := HN.out; simp at this ⊢; omega)
  clear hin hta htb hout heq hP0
  obtain ⟨P, hP⟩ : ∃ P, (if cap = 3 then some (⟨blk, off, none⟩ : Addr) else some ⟨blk, off + 3, none⟩) = P := ⟨_, rfl⟩
  rw [hP] at hrd
  go_enter Try.func40, Try.ntmps40
  go_wp2_with (go_at_call 59; refine (operation_any (S c) _).mono ?_; rintro e w1 ⟨⟨k, sh, rfl, hop⟩, hw1⟩; subst w1; have HOP : Hid (operL c = (k, sh.data.toList)) := hop; clear hop; by_cases hk0 : (k : Int) = 0)
  · have HP : Hid (parseL (a :: b :: c :: r') = none) := by
      show parseL _ = _
      rw [HP0.out, HOP.out]
      have : k = 0 := by omega
      subst this; rfl
    refine bodyPost_ret (v := .tuple #[.agg #[.int .i64 0, .int .i64 0, .string ⟨#[]⟩, .slice none 0 0, .int .i64 0, .string ⟨#[]⟩, .string ⟨#[]⟩], .bool false]) (by simp [results, Try.results40, go_sem]) rfl ⟨?_, ?_⟩
    · exact .inl ⟨HP.out, rfl⟩
    · exact F1_below w
  · have HP : Hid (parseL (a :: b :: c :: r') = ownL k a sh.data.toList r') := by
      show parseL _ = _
      rw [HP0.out, HOP.out]
      have : (k == 0) = false := beq_eq_false_iff_ne.2 (by intro h; apply hk0; omega)
      simp [this]
    have hsh : sh.size ≤ 1048576 := by
      have := operL_len c
      rw [HOP.out] at this
      have h2 : sh.data.toList.length = sh.size := by simp
      simp only at this
      omega
    go_region_held3 (fun w' => w'.cell? ⟨blk, off, none⟩ = some (.string (S a))) (go_keep)
      (first | (go_at_call 57; refine (parseOwn_any k (S a) sh r' _ _ hsa hsh (by have := HN.out; simp at this; omega) (fun p hp => hLs p (by simp [hp])) (Reads.drew hrd)).mono ?_; rintro e w1 ⟨hF, hb1⟩; obtain ⟨n1, n2, nm, up, un, uc, n3, y1, y2, ok, rfl, HF⟩ := hF.gen; have hb1' : Below (F1 w).heap.size (F1 w) w1 := below_undrew (W := F1 w) hb1; have hr1 := hr0.below hb1' (by rw [F1_size]; omega); have d0 := hr1.c 0; have d1 := hr1.c 1; have d2 := hr1.c 2; have d3 := hr1.c 3; have d4 := hr1.c 4; have d5 := hr1.c 5; have d6 := hr1.c 6; simp only [lnCells, Ln.zero, List.getElem?_cons_zero, List.getElem?_cons_succ] at d0 d1 d2 d3 d4 d5 d6; have e0 := hr1.fz 0; have e1 := hr1.fz 1; have e2 := hr1.fz 2; have e3 := hr1.fz 3; have e4 := hr1.fz 4; have e5 := hr1.fz 5; have e6 := hr1.fz 6; have c1' : w1.cell? ⟨blk, off, none⟩ = some (.string (S a)) := (by rw [hb1'.cell (p := ⟨blk, off, none⟩) hrf.1, (F1_below w).cell (p := ⟨blk, off, none⟩) hblk]; exact c0); clear hF hb1))
    go_wp2
    have hq := set7_blk hr1 (.int .i64 n1) (.int .i64 n2) (.string nm) (.slice up un uc) (.int .i64 n3) (.string y1) (.string y2)
    have q0 := hq 0; have q1 := hq 1; have q2 := hq 2; have q3 := hq 3; have q4 := hq 4; have q5 := hq 5; have q6 := hq 6
    simp only [set7, List.getElem?_cons_zero, List.getElem?_cons_succ] at q0 q1 q2 q3 q4 q5 q6
    refine bodyPost_ret (v := .tuple #[.agg #[.int .i64 n1, .int .i64 n2, .string nm, .slice up un uc, .int .i64 n3, .string y1, .string y2], .bool ok]) (by simp [results, Try.results40, go_sem, q0, q1, q2, q3, q4, q5, q6]) rfl ⟨?_, ?_⟩
    · rw [HP.out]
      exact HF.out.move fun v n xs h => own_mono (set7_own (r := w.heap.size) (by show w.heap.size < (F1 w).heap.size; rw [F1_size]; omega) _ _ _ _ _ _ _ h) (by show w.heap.size ≤ (F1 w).heap.size; rw [F1_size]; omega)
    · exact ((F1_below w).trans (hb1'.mono (by rw [F1_size]; omega))).trans (set7_below (Nat.le_refl _) _ _ _ _ _ _ _)

theorem parse_any (L : List (List UInt8)) (v : Value) (w : World) (hL : L.length ≤ 1048576) (hLs : ∀ p ∈ L, p.length ≤ 1048576) (hv : Reads w v 1 L.length (strs L)) :
    Calls Try.prog 40 #[v] w fun e w' => Filled w.heap.size (parseL L) e w' ∧ Below w.heap.size w w' := by
  match L, hL, hLs, hv with
  | [], _, _, hv => exact parse_short [] v w (by simp) hv
  | [a], _, _, hv => exact parse_short [a] v w (by simp) hv
  | a :: b :: r, hL, hLs, hv =>
    obtain ⟨_, p, cap, rfl, hcap, hrow⟩ := hv
    obtain ⟨blk, off, rfl, hr⟩ : ∃ b' off, p = some ⟨b', off, none⟩ ∧ Row w b' off (strs (a :: b :: r)) := by
      rcases hrow with h | h
      · simp at h
      · exact h
    exact parse_long a b r blk off cap w hL hLs hcap hr
end Go.Proofs.Ytfbkjopidjojeab

namespace Go.Proofs.Ytfbkjopidjojeab
open Go.RowKit

theorem Try.info85 : (Try.prog.info? 85).map (fun i => (i.zero, i.size, i.bytes)) = some (some (.agg #[.int .i64 0, .int .i64 0, .string ⟨#[]⟩, .slice none 0 0, .int .i64 0, .string ⟨#[]⟩, .string ⟨#[]⟩]), 7, 96) := by kernel_rfl
theorem Try.under61 : Try.prog.underlying 61 = some (.slice 85) := by kernel_rfl

/-- Lines, each with where its names lie, as cells. -/
def lnRows (ps : List (Ln × Value)) : List Value := ps.flatMap fun p => lnCells p.1 p.2
theorem lnRows_length (ps : List (Ln × Value)) : (lnRows ps).length = ps.length * 7 := by
  induction ps with
  | nil => rfl
  | cons p ps ih => rw [lnRows, List.flatMap_cons, List.length_append]; rw [lnRows] at ih; rw [ih]; simp [lnCells]; omega
theorem lnRows_get (ps : List (Ln × Value)) : ∀ (k j : Nat) (h : k < ps.length), j < 7 → (lnRows ps)[k * 7 + j]? = (lnCells ps[k].1 ps[k].2)[j]? := by
  induction ps with
  | nil => intro k j h; simp at h
  | cons p ps ih =>
    intro k j h hj
    have e : lnRows (p :: ps) = lnCells p.1 p.2 ++ lnRows ps := by simp [lnRows]
    rw [e]
    cases k with
    | zero => rw [List.getElem?_append_left (by simp [lnCells]; omega)]; simp
    | succ k =>
      rw [List.getElem?_append_right (by simp [lnCells]; omega)]
      have : (k + 1) * 7 + j - (lnCells p.1 p.2).length = k * 7 + j := by simp [lnCells]; omega
      rw [this, ih k j (by simpa using h) hj]; simp

/-- Lines in rows of their own. -/
def LinesAt (w : World) (B : Nat) (v : Value) (ps : List (Ln × Value)) : Prop :=
  w.ownsRow B 85 7 v ps.length (lnRows ps) ∧ ∀ p ∈ ps, w.ownsRow B 9 1 p.2 p.1.uses.length (strs p.1.uses)
theorem own_ne {w : World} {B B' : Nat} {e e' : TypeId} {s s' n n' : Nat} {v v' : Value} {xs xs' : List Value} (h : w.ownsRow B e s v n xs) (h' : w.ownsRow B' e' s' v' n' xs') (he : e ≠ e') : v.ownBlock = none ∨ v.ownBlock ≠ v'.ownBlock := by
  rcases h.2 with ⟨rfl, _⟩ | ⟨g, cap, cur, rfl, _, hg, _⟩
  · exact .inl rfl
  · right
    rcases h'.2 with ⟨rfl, _⟩ | ⟨g', cap', cur', rfl, _, hg', _⟩
    · simp [Value.ownBlock]
    · simp only [Value.ownBlock, ne_eq, Option.some.injEq]
      intro hgg
      have hgg : g = g' := hgg
      subst hgg
      rw [hg] at hg'
      injection hg' with hg'
      injection hg' with _ h2 _
      exact he h2
theorem LinesAt.app {w wr w2 w' : World} {B : Nat} {r v' u : Value} {ps : List (Ln × Value)} {l : Ln} {o1 o2 : Obj} {Bu : Nat} (h : LinesAt wr B r ps) (hB : B ≤ wr.heap.size) (hnx : Below B w wr) (hb2 : Below wr.heap.size wr w2)
    (hu : w2.ownsRow Bu 9 1 u l.uses.length (strs l.uses)) (hBu : wr.heap.size ≤ Bu) (hown' : w'.ownsRow B 85 7 v' (ps.length + 1) (lnRows ps ++ lnCells l u)) (hg : ((w2.alloc o1).alloc o2).grownBy w' r.ownBlock) :
    LinesAt w' B v' (ps ++ [(l, u)]) ∧ Below B w w' := by
  have hz := hb2.size
  have hr2 : ((w2.alloc o1).alloc o2).ownsRow B 85 7 r ps.length (lnRows ps) := ((ownsRow_below h.1 hb2).alloc o1).alloc o2
  refine ⟨⟨by simpa [lnRows] using hown', fun p hp => ?_⟩, ?_⟩
  · rcases List.mem_append.1 hp with hp | hp
    · have h1 := ((ownsRow_below (h.2 p hp) hb2).alloc o1).alloc o2
      exact h1.kept hg (own_ne h1 hr2 (by decide))
    · rw [List.mem_singleton.1 hp]
      have h1 := (((own_mono hu (Nat.le_trans hB hBu)).alloc o1).alloc o2)
      exact h1.kept hg (own_ne h1 hr2 (by decide))
  · exact (((hnx.trans (hb2.mono hB)).alloc (by omega) o1).alloc (by simp; omega) o2).grown hg (by simp; omega) (fun j hj => (h.1.lt j hj).1)
theorem cells_new (W : World) (xs : List Value) (t : TypeId) (b : Nat) (hb : W.heap.size = b) : ∀ j u, xs[j]? = some u → (W.alloc (.cells xs.toArray t)).cell? ((⟨b, 0, none⟩ : Addr).add j) = some u := by
  subst hb
  intro j u hu
  have e : (⟨W.heap.size, 0, none⟩ : Addr).add j = ⟨W.heap.size, j, none⟩ := by unfold Addr.add; split <;> simp_all
  rw [e, cell_of_row _ _ j _ _ _ (heap_alloc_new W _)]
  simpa using hu
theorem cutL_len (m : UInt8) (l : List UInt8) : (cutL m l).length ≤ l.length + 1 ∧ ∀ p ∈ cutL m l, p.length ≤ l.length := by
  induction l with
  | nil => simp [cutL]
  | cons c r ih =>
    unfold cutL
    split
    · refine ⟨by simp; exact ih.1, fun p hp => ?_⟩
      rcases List.mem_cons.1 hp with rfl | hp
      · simp
      · have := ih.2 p hp; simp; omega
    · split
      · simp
      · rename_i h t e
        rw [e] at ih
        refine ⟨by have := ih.1; simp at this ⊢; omega, fun p hp => ?_⟩
        rcases List.mem_cons.1 hp with rfl | hp
        · have := ih.2 h (by simp); simp; omega
        · have := ih.2 p (by simp [hp]); simp; omega
theorem filL_len (L : List (List UInt8)) : (filL L).length ≤ L.length ∧ ∀ p ∈ filL L, p ∈ L := ⟨List.length_filter_le _ _, fun _ hp => (List.mem_filter.1 hp).1⟩
theorem pieces_len {r : List UInt8} (h : r.length ≤ 800) : (filL (cutL 32 r)).length ≤ 1048576 ∧ ∀ p ∈ filL (cutL 32 r), p.length ≤ 1048576 := by
  have h1 := cutL_len 32 r
  have h2 := filL_len (cutL 32 r)
  exact ⟨by omega, fun p hp => by have := h1.2 p (h2.2 p hp); omega⟩

/-- How far Read has come. -/
def ReadAt (R : List (List UInt8)) (k : Nat) (ls : List Ln) : Prop := readL 0 R = match readL k (R.drop k) with
  | .error e => .error e
  | .ok m => .ok (ls ++ m)
theorem ReadAt.start (R : List (List UInt8)) : ReadAt R 0 [] := by
  unfold ReadAt; rw [List.drop_zero]; cases readL 0 R <;> simp
theorem ReadAt.skip {R : List (List UInt8)} {k : Nat} {ls : List Ln} (h : ReadAt R k ls) (hk : k < R.length) (he : filL (cutL 32 R[k]) = []) : ReadAt R (k + 1) ls := by
  unfold ReadAt at h ⊢
  rw [List.drop_eq_getElem_cons hk, readL, he] at h
  exact h
theorem ReadAt.bad {R : List (List UInt8)} {k : Nat} {ls : List Ln} (h : ReadAt R k ls) (hk : k < R.length) (he : (filL (cutL 32 R[k])).isEmpty = false) (hp : parseL (filL (cutL 32 R[k])) = none) : readL 0 R = .error (k + 1) := by
  unfold ReadAt at h
  rw [List.drop_eq_getElem_cons hk, readL] at h
  rw [h]
  simp only [he, hp]
  rfl
theorem ReadAt.good {R : List (List UInt8)} {k : Nat} {ls : List Ln} {l : Ln} (h : ReadAt R k ls) (hk : k < R.length) (he : (filL (cutL 32 R[k])).isEmpty = false) (hp : parseL (filL (cutL 32 R[k])) = some l) : ReadAt R (k + 1) (ls ++ [{ l with no := k + 1 }]) := by
  unfold ReadAt at h ⊢
  rw [List.drop_eq_getElem_cons hk, readL] at h
  rw [h]
  simp only [he, hp]
  cases readL (k + 1) (R.drop (k + 1)) <;> simp
theorem ReadAt.fin {R : List (List UInt8)} {k : Nat} {ls : List Ln} (h : ReadAt R k ls) (hk : ¬ k < R.length) : readL 0 R = .ok ls := by
  unfold ReadAt at h
  rw [List.drop_of_length_le (by omega)] at h
  rw [h]; simp [readL]

/-- What Read gives. -/
def SrcIs (B : Nat) (o : Except Flt (List Ln)) (e : Ending) (w' : World) : Prop :=
  (∃ f : Flt, o = .error f ∧ e = .returned (.tuple #[.slice none 0 0, .agg #[.int .i64 f.1, .int .i64 f.2]])) ∨
  ∃ ps v, o = .ok (ps.map Prod.fst) ∧ ps.length ≤ 24 ∧ e = .returned (.tuple #[v, .agg #[.int .i64 0, .int .i64 0]]) ∧ LinesAt w' B v ps

/-- A fault in a block of its own. -/
def FltB (w : World) (b : Nat) (x y : Int) : Prop := w.heap[b]? = some (.cells #[.int .i64 x, .int .i64 y] 30 (0, 0))
theorem FltB.c {w : World} {b : Nat} {x y : Int} (h : FltB w b x y) : w.cell? ⟨b, 0, none⟩ = some (.int .i64 x) ∧ w.cell? ⟨b, 1, none⟩ = some (.int .i64 y) ∧ w.frozen? ⟨b, 0, none⟩ = false ∧ w.frozen? ⟨b, 1, none⟩ = false :=
  ⟨by rw [cell_of_row w b 0 _ _ _ h]; rfl, by rw [cell_of_row w b 1 _ _ _ h]; rfl, frozen_of_row w b 0 _ _ h, frozen_of_row w b 1 _ _ h⟩
theorem FltB.below {w w' : World} {B b : Nat} {x y : Int} (h : FltB w b x y) (hb : Below B w w') (hB : b < B) : FltB w' b x y := by
  unfold FltB; rw [hb.block b hB]; exact h
/-- The world with a fault of nothing. -/
def G1 (w : World) : World := w.alloc (Obj.cells #[.int .i64 0, .int .i64 0] 30)
theorem G1_size (w : World) : (G1 w).heap.size = w.heap.size + 1 := by simp [G1]
theorem G1_below (w : World) : Below w.heap.size w (G1 w) := (Below.refl w.heap.size w).alloc (Nat.le_refl _) _
theorem G1_f (w : World) : FltB (G1 w) w.heap.size 0 0 := by
  unfold FltB G1; rw [heap_alloc_new]
theorem FltB.set {w : World} {b : Nat} {x y : Int} (h : FltB w b x y) (x' y' : Int) : FltB ((w.setCell ⟨b, 0, none⟩ (.int .i64 x')).setCell ⟨b, 1, none⟩ (.int .i64 y')) b x' y' := by
  have h1 : w.heap[b]? = some (.cells [Value.int .i64 x, .int .i64 y].toArray 30 (0, 0)) := h
  exact blk_set (j := 1) (blk_set (j := 0) h1 (.int .i64 x')) (.int .i64 y')

set_option maxRecDepth 50000 in
set_option maxHeartbeats 1000000 in
theorem Read_long (s : ByteArray) (w : World) (hs : 800 < s.size) (hs2 : s.size ≤ maxLen) :
    Calls Try.prog 30 #[.string s] w fun e w' => SrcIs w.heap.size (sourceL s.data.toList) e w' ∧ Below w.heap.size w w' := by
  unfold maxLen at hs2
  have hl : s.data.toList.length = s.size := by simp
  have HP : Hid (sourceL s.data.toList = .error (4, 0)) := by show sourceL _ = _; simp [sourceL]; omega
  clear hl
  go_enter Try.func30, Try.ntmps30
  go_wp2
  refine bodyPost_ret (v := .tuple #[.slice none 0 0, .agg #[.int .i64 4, .int .i64 0]]) (by simp [results, Try.results30, go_sem]) rfl ⟨?_, ?_⟩
  · exact .inl ⟨(4, 0), HP.out, rfl⟩
  · exact (Below.refl _ _).alloc (Nat.le_refl _) _

set_option maxRecDepth 50000 in
set_option maxHeartbeats 2000000 in
theorem Read_short (s : ByteArray) (w : World) (hs : s.size ≤ 800) :
    Calls Try.prog 30 #[.string s] w fun e w' => SrcIs w.heap.size (sourceL s.data.toList) e w' ∧ Below w.heap.size w w' := by
  obtain ⟨i0, hi, hz0, hz1, hz2⟩ := info_parts Try.info85
  have hl : s.data.toList.length = s.size := by simp
  obtain ⟨R, hR⟩ : ∃ R, R = cutL 10 s.data.toList := ⟨_, rfl⟩
  have hRl : R.length ≤ 801 := by rw [hR]; have := (cutL_len 10 s.data.toList).1; omega
  have hRs : ∀ p ∈ R, p.length ≤ 800 := fun p hp => by rw [hR] at hp; have := (cutL_len 10 s.data.toList).2 p hp; omega
  have HP : Hid (sourceL s.data.toList = finL (readL 0 R)) := by
    show sourceL _ = _
    unfold sourceL
    rw [if_neg (by omega), hR]
  have hcut := cut_any s 10 10 (G1 w) (by omega) rfl
  rw [← hR] at hcut
  clear hl hR
  have hf0 := G1_f w
  go_enter Try.func30, Try.ntmps30
  go_wp2_with fail
  refine hcut.mono ?_
  rintro e w1 ⟨⟨v, rfl, hrows⟩, hb1⟩
  clear hcut
  have hz1' := hb1.size
  rw [G1_size] at hz1'
  have hf1 := hf0.below hb1 (by rw [G1_size]; omega)
  obtain ⟨_, p, cap, rfl, hcap, hrow⟩ := Reads.of hrows
  clear hrows hf0
  go_wp2
  go_loopw [5, 6] (fun r i wr => ∃ (k : Nat) (ps : List (Ln × Value)), i = .int .i64 k ∧ k ≤ R.length ∧ ps.length ≤ k ∧ Hid (ReadAt R k (ps.map Prod.fst)) ∧ LinesAt wr w1.heap.size r ps ∧ Below w1.heap.size w1 wr)
    (fun _ i _ => R.length - (intOf i).toNat)
  case atStart => exact ⟨0, [], rfl, Nat.zero_le _, Nat.le_refl _, ReadAt.start R, ⟨World.ownsRow_made w1 #[] 0 (Nat.le_refl _) (by unfold maxLen; omega) rfl, fun p hp => by simp at hp⟩, (Below.refl _ _).alloc (Nat.le_refl _) _⟩
  case round =>
    obtain ⟨k, ps, rfl, hk, hpk, HR, hlines, hnx⟩ := hrel
    have hsz := hnx.size
    have hfr := hf1.below hnx (by omega)
    by_cases hlt : k < R.length
    · obtain ⟨b, off, rfl, hr⟩ : ∃ b off, p = some ⟨b, off, none⟩ ∧ Row w1 b off (strs R) := by
        rcases hrow with h | h
        · omega
        · exact h
      have hc : wr.cell? ⟨b, off + k, none⟩ = some (.string (S R[k])) := by
        rw [(hr.below hnx hr.1).2 k (by rw [strs_length]; exact hlt), strs_get hlt]
      have hRk : R[k].length ≤ 800 := hRs _ (List.getElem_mem _)
      obtain ⟨hp1, hp2⟩ := pieces_len hRk
      clear hrow
      go_wp2_with fail
      refine (cut_any (S R[k]) 32 32 wr (by rw [S_size]; omega) rfl).mono ?_
      rintro e w2 ⟨⟨v2, rfl, hrows2⟩, hb2⟩
      rw [S_data] at hrows2
      go_wp2_with fail
      refine (filled_any (cutL 32 R[k]) v2 w2 (by have := (cutL_len 32 R[k]).1; omega) (Reads.of hrows2)).mono ?_
      rintro e w3 ⟨⟨v3, rfl, hrows3⟩, hb3⟩
      obtain ⟨Q, hQ⟩ : ∃ Q, Q = filL (cutL 32 R[k]) := ⟨_, rfl⟩
      rw [← hQ] at hrows3 hp1 hp2
      have HQ : Hid (Q = filL (cutL 32 R[k])) := hQ
      have hb13 : Below wr.heap.size wr w3 := hb2.trans (hb3.mono hb2.size)
      have hrd3 := Reads.of hrows3
      obtain ⟨_, p3, cap3, rfl, hcap3, hrow3⟩ := hrd3
      have hrd3 := Reads.of hrows3
      clear hQ hrows2 hb2 hb3 hrow3
      by_cases hQ0 : Q.length = 0
      · have hQe : Q = [] := List.length_eq_zero_iff.1 hQ0
        have HR2 := HR.out.skip hlt (by rw [← HQ.out]; exact hQe)
        have HR3 : Hid (ReadAt R (k + 1) (ps.map Prod.fst)) := HR2
        have hlines3 : LinesAt w3 w1.heap.size _ ps := ⟨ownsRow_below hlines.1 hb13, fun p hp => ownsRow_below (hlines.2 p hp) hb13⟩
        clear hlines hrd3 hrows3 hQe
        go_wp2
        go_roundw
        case rel => exact ⟨k + 1, ps, by go_num, by omega, by omega, HR3, hlines3, hnx.trans (hb13.mono (by omega))⟩
        case measure => simp [intOf]; omega
      · have hQ1 : (Q.isEmpty) = false := by
          cases Q with
          | nil => simp at hQ0
          | cons _ _ => rfl
        go_wp2_with fail
        refine (parse_any Q _ w3 hp1 hp2 hrd3).mono ?_
        rintro e w4 ⟨hF, hb4⟩
        have hb14 : Below wr.heap.size wr w4 := hb13.trans (hb4.mono hb13.size)
        have hf4 := hfr.below hb14 (by omega)
        obtain ⟨fc0, fc1, ff0, ff1⟩ := hf4.c
        have hz4 := hb14.size
        have hlt4 : w.heap.size < w4.heap.size := by omega
        have HF : Hid (Filled w3.heap.size (parseL Q) e w4) := hF
        have hz3 := hb13.size
        clear hF hrd3 hrows3 hb4
        rcases HF.out with ⟨h1, rfl⟩ | ⟨l, u, h1, rfl, hown⟩
        · have HN := HR.out.bad hlt (by rw [← HQ.out]; exact hQ1) (by rw [← HQ.out]; exact h1)
          have HN2 : Hid (readL 0 R = .error (k + 1)) := HN
          clear HF h1 HN hQ1
          go_wp2
          have hfs := (hf4.set 5 (k + 1)).below ((Below.refl _ _).alloc (Nat.le_refl _) (Obj.cells #[Value.int IntKind.i64 0, Value.int IntKind.i64 0, Value.string { data := #[] }, Value.slice none 0 0, Value.int IntKind.i64 0, Value.string { data := #[] }, Value.string { data := #[] }] 85)) (by simpa [World.setCell] using hlt4)
          obtain ⟨q0, q1, _, _⟩ := hfs.c
          refine bodyPost_ret (v := .tuple #[.slice none 0 0, .agg #[.int .i64 5, .int .i64 (k + 1)]]) (by simp [results, Try.results30, go_sem, q0, q1]) rfl ⟨?_, ?_⟩
          · exact .inl ⟨(5, k + 1), by rw [HP.out, HN2.out]; rfl, rfl⟩
          · have hbb : Below w.heap.size w w4 := (((G1_below w).trans (hb1.mono (by rw [G1_size]; omega))).trans (hnx.mono (by omega))).trans (hb14.mono (by omega))
            exact ((hbb.setCell (Nat.le_refl _) _).setCell (Nat.le_refl _) _).alloc (by simp [World.setCell]; omega) _
        · have HN := HR.out.good hlt (by rw [← HQ.out]; exact hQ1) (by rw [← HQ.out]; exact h1)
          have HN2 : Hid (ReadAt R (k + 1) (ps.map Prod.fst ++ [{ l with no := k + 1 }])) := HN
          obtain ⟨up, un, uc, rfl⟩ := own_isSlice hown
          have hlines4 := ownsRow_below hlines.1 hb14
          clear HF h1 HN hQ1
          have hps : ps.length ≤ 801 := by omega
          go_wp2_with (at_builtin; refine wpList_append_own _ rfl _ _ 61 rfl w1.heap.size 85 i0 (.agg #[.int .i64 0, .int .i64 0, .string ⟨#[]⟩, .slice none 0 0, .int .i64 0, .string ⟨#[]⟩, .string ⟨#[]⟩]) 7 96 Try.under61 hi hz0 hz1 hz2 rfl (by decide) _ _ _ rfl ((hlines4.alloc _).alloc _) ⟨w4.heap.size + 1, 0, none⟩ 1 1 [.int .i64 (k + 1), .int .i64 l.kind, .string (S l.name), .slice up un uc, .int .i64 l.num, .string (bs l.wd.1), .string (bs l.wd.2)] rfl rfl (cells_new _ _ _ _ (by simp)) (by intro x hx; simp at hx; rcases hx with rfl | rfl | rfl | rfl | rfl | rfl | rfl <;> rfl) (by unfold maxLen; omega) (by omega) (by simp; omega) ?_; intro v' w' hown' hgrow _)
          have R2 := hlines.app (l := { l with no := k + 1 }) (by omega) hnx hb14 hown (by omega) hown' hgrow
          clear hown' hgrow hlines hlines4 hown
          go_wp2
          go_roundw
          case rel => exact ⟨k + 1, ps ++ [({ l with no := k + 1 }, .slice up un uc)], by go_num, by omega, by simp; omega, by rw [List.map_append]; exact HN2, R2.1, R2.2⟩
          case measure => simp [intOf]; omega
    · have HN := HR.out.fin hlt
      have HN2 : Hid (sourceL s.data.toList = finL (.ok (ps.map Prod.fst))) := by show sourceL _ = _; rw [HP.out, HN]
      have hbb : Below w.heap.size w wr := ((G1_below w).trans (hb1.mono (by rw [G1_size]; omega))).trans (hnx.mono (by omega))
      obtain ⟨fc0, fc1, ff0, ff1⟩ := hfr.c
      have hltr : w.heap.size < wr.heap.size := by omega
      clear HN hrow
      obtain ⟨_, pp, pc, hpe, hpc, hprow⟩ := Reads.of hlines.1
      have hq := (hf1.below hnx (by omega))
      by_cases h24 : 24 < ps.length
      · obtain ⟨g, gc, hge⟩ := own_form hlines.1 (by omega)
        subst hge
        have hcg : wr.cell? ⟨g, 168, none⟩ = some (.int .i64 (ps[24].1.no : Int)) := by
          have h1 := hlines.1.cellAt 168 (by omega)
          rw [h1]
          have h2 := lnRows_get ps 24 0 h24 (by omega)
          exact h2
        have hI : (24 : Int) < (ps.length : Int) := by omega
        have HN3 : Hid (sourceL s.data.toList = .error (6, ps[24].1.no)) := by
          show sourceL _ = _
          rw [HN2.out]
          have : (ps.map Prod.fst)[24]? = some ps[24].1 := by simp [h24]
          simp only [finL, this]
        obtain ⟨no, hno⟩ : ∃ no, no = ps[24].1.no := ⟨_, rfl⟩
        rw [← hno] at hcg HN3
        clear hprow hpe hno
        go_wp2
        go_region
        go_wp2
        have hset := hq.set 6 no
        obtain ⟨q0, q1, _, _⟩ := FltB.c (w := ((wr.setCell ⟨w.heap.size, 0, none⟩ (.int .i64 6)).setCell ⟨w.heap.size, 1, none⟩ (.int .i64 no)).drew) hset
        refine bodyPost_ret (v := .tuple #[.slice none 0 0, .agg #[.int .i64 6, .int .i64 no]]) (by simp [results, Try.results30, go_sem, q0, q1]) rfl ⟨?_, ?_⟩
        · exact .inl ⟨(6, no), HN3.out, rfl⟩
        · exact ((hbb.setCell (Nat.le_refl _) _).setCell (Nat.le_refl _) _).drew
      · have hno : (ps.map Prod.fst)[24]? = none := by rw [List.getElem?_eq_none]; simp; omega
        have HN3 : Hid (sourceL s.data.toList = .ok (ps.map Prod.fst)) := by
          show sourceL _ = _
          rw [HN2.out]
          simp only [finL, hno]
        rw [hpe]
        clear hno
        go_wp2
        obtain ⟨q0, q1, _, _⟩ := (hq.set 0 0).c
        refine bodyPost_ret (v := .tuple #[.slice pp ps.length pc, .agg #[.int .i64 0, .int .i64 0]]) (by simp [results, Try.results30, go_sem, q0, q1]) rfl ⟨?_, ?_⟩
        · refine .inr ⟨ps, _, HN3.out, by omega, rfl, ?_, fun p hp => ?_⟩
          · rw [← hpe]
            exact own_mono (ownsRow_setCell_below (ownsRow_setCell_below hlines.1 (by show w.heap.size < _; omega) _) (by show w.heap.size < _; omega) _) (by omega)
          · exact own_mono (ownsRow_setCell_below (ownsRow_setCell_below (hlines.2 p hp) (by show w.heap.size < _; omega) _) (by show w.heap.size < _; omega) _) (by omega)
        · exact (hbb.setCell (Nat.le_refl _) _).setCell (Nat.le_refl _) _

theorem Read_any (s : ByteArray) (w : World) (hs : s.size ≤ maxLen) :
    Calls Try.prog 30 #[.string s] w fun e w' => SrcIs w.heap.size (sourceL s.data.toList) e w' ∧ Below w.heap.size w w' := by
  by_cases h : 800 < s.size
  · exact Read_long s w h hs
  · exact Read_short s w (by omega)
end Go.Proofs.Ytfbkjopidjojeab

