/-
  Joined: Wk Wl Wm.
-/
import Derived.Test.YtfbkjopidjojeabP1
namespace Go.Proofs.Ytfbkjopidjojeab
open Go.RowKit

/-- The value of a word that comes out. -/
def toldS (u v : List Bool) : ByteArray := if 64 < u.length ∨ 64 < v.length then ⟨#[]⟩ else txt (bs u) (bs v)
/-- The error beside it. -/
def toldE (u v : List Bool) : Int := if 64 < u.length ∨ 64 < v.length then 2 else 0

theorem Parse_no (s : ByteArray) (w : World) (hs : s.size ≤ maxLen) (h : okW s.data.toList = false) :
    Calls Try.prog 96 #[.string s] w fun e w' => e = .returned (.tuple #[.agg #[.string ⟨#[]⟩, .string ⟨#[]⟩], .bool false]) ∧ Below w.heap.size w w' := by
  refine (Parse_any s w hs).mono ?_
  rintro e w' ⟨⟨_, he⟩ | ⟨hy, _⟩, hb⟩
  · exact ⟨he, hb⟩
  · rw [h] at hy; cases hy
/-- The stream of a text that is a word. -/
def st (s : ByteArray) : Nat → Bool := bitAt (toB (pU s.data.toList)) (toB (pV s.data.toList))
theorem Parse_yes (s : ByteArray) (w : World) (hs : s.size ≤ maxLen) (h : okW s.data.toList = true) :
    Calls Try.prog 96 #[.string s] w fun e w' => (∃ u v : List Bool, e = .returned (.tuple #[.agg #[.string (bs u), .string (bs v)], .bool true]) ∧ NF (st s) u v ∧ u.length ≤ 12 ∧ v.length ≤ 12) ∧ Below w.heap.size w w' := by
  refine (Parse_any s w hs).mono ?_
  rintro e w' ⟨⟨hn, _⟩ | ⟨_, hy⟩, hb⟩
  · rw [h] at hn; cases hn
  · exact ⟨hy, hb⟩

/-- The world ahead of parseBoth's first call. -/
def P2 (w : World) : World := (w.alloc (Obj.cells #[Value.string ⟨#[]⟩, Value.string ⟨#[]⟩] 74)).alloc (Obj.cells #[Value.string ⟨#[]⟩, Value.string ⟨#[]⟩] 74)
theorem P2_size (w : World) : (P2 w).heap.size = w.heap.size + 1 + 1 := by simp [P2]
theorem P2_below (w : World) : Below w.heap.size w (P2 w) := ((Below.refl w.heap.size w).alloc (Nat.le_refl _) _).alloc (by simp) _
theorem P2_a (w : World) : Boxed (P2 w) w.heap.size ⟨#[]⟩ ⟨#[]⟩ := (Boxed.new w _ _ _ _ rfl).alloc _
theorem P2_b (w : World) : Boxed (P2 w) (w.heap.size + 1) ⟨#[]⟩ ⟨#[]⟩ := Boxed.new _ _ _ _ _ (by simp)

/-- What a text's word is. -/
def ParseV (s x y : ByteArray) : Prop := okW s.data.toList = true → ∃ u v : List Bool, x = bs u ∧ y = bs v ∧ NF (st s) u v ∧ u.length ≤ 12 ∧ v.length ≤ 12
theorem Parse_uni (s : ByteArray) (r : Bool) (w : World) (hs : s.size ≤ maxLen) (hr : okW s.data.toList = r) :
    Calls Try.prog 96 #[.string s] w fun e w' => (∃ x y : ByteArray, e = .returned (.tuple #[.agg #[.string x, .string y], .bool r]) ∧ ParseV s x y) ∧ Below w.heap.size w w' := by
  refine (Parse_any s w hs).mono ?_
  rintro e w' ⟨⟨hn, rfl⟩ | ⟨hy, u, v, rfl, h⟩, hb⟩
  · rw [hn] at hr; subst hr
    exact ⟨⟨_, _, rfl, fun h => by rw [hn] at h; cases h⟩, hb⟩
  · rw [hy] at hr; subst hr
    exact ⟨⟨_, _, rfl, fun _ => ⟨u, v, rfl, rfl, h⟩⟩, hb⟩

theorem Boxed.store_other {w : World} {b c : Nat} {x y : ByteArray} (h : Boxed w b x y) (hb : c ≠ b) (p q : Value) : Boxed ((w.setCell ⟨c, 0, none⟩ p).setCell ⟨c, 1, none⟩ q) b x y := by
  have n : ∀ i j, (⟨c, i, none⟩ : Addr) ≠ ⟨b, j, none⟩ := fun i j e => by injection e with e; exact hb e
  refine ⟨?_, ?_, ?_, ?_⟩
  · rw [World.cell?_setCell_other _ _ _ _ (n 1 0), World.cell?_setCell_other _ _ _ _ (n 0 0)]; exact h.c0
  · rw [World.cell?_setCell_other _ _ _ _ (n 1 1), World.cell?_setCell_other _ _ _ _ (n 0 1)]; exact h.c1
  · rw [World.frozen?_setCell, World.frozen?_setCell]; exact h.f0
  · rw [World.frozen?_setCell, World.frozen?_setCell]; exact h.f1
/-- Two results, stored one behind the other. -/
theorem boxed_both {w : World} {b c : Nat} {x y x' y' : ByteArray} (hA : Boxed w b x y) (hB : Boxed w c x' y') (hb : c ≠ b) (p q p' q' : ByteArray) :
    Boxed ((((w.setCell ⟨b, 0, none⟩ (.string p)).setCell ⟨b, 1, none⟩ (.string q)).setCell ⟨c, 0, none⟩ (.string p')).setCell ⟨c, 1, none⟩ (.string q')) b p q ∧
    Boxed ((((w.setCell ⟨b, 0, none⟩ (.string p)).setCell ⟨b, 1, none⟩ (.string q)).setCell ⟨c, 0, none⟩ (.string p')).setCell ⟨c, 1, none⟩ (.string q')) c p' q' :=
  ⟨(hA.store p q).store_other hb _ _, (hB.store_other (fun e => hb e.symm) _ _).store p' q'⟩
end Go.Proofs.Ytfbkjopidjojeab

namespace Go.Proofs.Ytfbkjopidjojeab
open Go.RowKit

/-- The word of a stream comes out. -/
def TextIs (f : Nat → Bool) (e : Ending) : Prop := ∃ u v : List Bool, e = .returned (.tuple #[.string (toldS u v), .int .i64 (toldE u v)]) ∧ NF f u v

/-- The worlds behind two words that were read. -/
theorem two_boxes {w w1 : World} (hb1 : Below w.heap.size w w1) (o o' : Obj) : Below w.heap.size w ((w1.alloc o).alloc o') := (hb1.alloc hb1.size _).alloc (by have := hb1.size; simp; omega) _

theorem ones_fun {f g : Nat → Bool} (h : ∀ n, f n = g n) : f = g := funext h

/-- The answer of Size: 3: they do not adapt. -/
def SizeOf (f g : Nat → Bool) (s e : Int) : Prop := (e = 0 ∧ AdaptsS f g ∧ Most f g s) ∨ (e = 3 ∧ ¬ AdaptsS f g ∧ s = 0)
end Go.Proofs.Ytfbkjopidjojeab

namespace Go.Proofs.Ytfbkjopidjojeab
open Go.RowKit

set_option maxRecDepth 50000 in
set_option maxHeartbeats 400000 in
theorem pick_any (c : Int) (n : Nat) (w : World) (hc : (Lit.int .i64 c).wf = true) (hn0 : 0 < n) (hn : n ≤ 1099511627776) :
    Calls Try.prog 11 #[.int .i64 c, .int .i64 n] w fun e w' => (∃ r : Nat, e = .returned (.int .i64 r) ∧ r < n) ∧ w' = w := by
  have hb : -9223372036854775808 ≤ c ∧ c ≤ 9223372036854775807 := by
    simp only [Lit.wf, Bool.and_eq_true, decide_eq_true_eq] at hc
    have e1 : IntKind.i64.min = -9223372036854775808 := by decide
    have e2 : IntKind.i64.max = 9223372036854775807 := by decide
    rw [e1, e2] at hc; exact hc
  obtain ⟨hb1, hb2⟩ := hb
  have hn1 : (1 : Int) ≤ (n : Int) := by omega
  clear hc
  by_cases h : c < 0
  · go_enter Try.func11, Try.ntmps11
    go_wp2
    go_ret
    refine ⟨⟨((-(c + 1)).tmod n).toNat, ret_int ?_, ?_⟩, rfl⟩
    · have : 0 ≤ (-(c + 1)).tmod (n : Int) := Int.tmod_nonneg _ (by omega)
      rw [Int.neg_tmod] at this ⊢
      omega
    · have h1 : (-(c + 1)).tmod (n : Int) < n := Int.tmod_lt_of_pos _ (by omega)
      omega
  · have h' : (0 : Int) ≤ c := by omega
    go_enter Try.func11, Try.ntmps11
    go_wp2
    go_ret
    have h1 : 0 ≤ c % (n : Int) := Int.emod_nonneg _ (by omega)
    have h2 : c % (n : Int) < n := Int.emod_lt_of_pos _ (by omega)
    exact ⟨⟨(c % (n : Int)).toNat, ret_int (by omega), by omega⟩, rfl⟩

theorem i64_and1 (n : Int) : bits .and .i64 n 1 = n % 2 := by
  have h1 : (BitVec.ofInt 64 1).toNat = 2 ^ 1 - 1 := by decide
  have key : (BitVec.ofInt 64 n &&& BitVec.ofInt 64 1).toNat = (n % ((2 ^ 64 : Nat) : Int)).toNat % 2 ^ 1 := by
    rw [BitVec.toNat_and, BitVec.toNat_ofInt, h1, Nat.and_two_pow_sub_one_eq_mod]
  show IntKind.i64.wrap ((BitVec.ofInt 64 n &&& BitVec.ofInt 64 1).toNat : Nat) = n % 2
  rw [key, IntKind.wrap_i64]
  omega
/-- The byte of a bit of a number. -/
theorem bit_byte (x : Int) : ∃ z : Bool, wrap64 (48 + bits .and .i64 x 1) % 256 = ((bb z).toNat : Int) := by
  rw [i64_and1]
  rcases (show x % 2 = 0 ∨ x % 2 = 1 by omega) with e | e
  · exact ⟨false, by rw [e]; show wrap64 (48 + 0) % 256 = 48; unfold wrap64; omega⟩
  · exact ⟨true, by rw [e]; show wrap64 (48 + 1) % 256 = 49; unfold wrap64; omega⟩

/-- A row of its own that holds bits, as a string. -/
theorem own_string {w : World} {base n : Nat} {v : Value} {l : List Bool} (h : w.ownsRow base 5 1 v n (cellsOf l)) : (convert 81 9 v).run Try.prog w = .ok (.string (bs l)) w := by
  by_cases hn : 0 < n
  · obtain ⟨g, cap, hr, _, _, _, hl, hheld⟩ := own_held h hn
    rw [hr, ← hl]; exact hheld.string
  · obtain ⟨h1, h2⟩ := h
    have hl : l = [] := List.length_eq_zero_iff.1 (by rw [← cellsOf_length, h1]; omega)
    subst hl
    rcases h2 with ⟨rfl, _⟩ | ⟨g, cap, cur, rfl, _⟩
    · exact run_convert_bytes_nil w 81 5 Try.under81 Try.under5 0 0 9 Try.under9
    · have : n = 0 := by omega
      subst this
      exact Held.string (l := []) (fun i hi => by simp at hi)

theorem rel_grow {wr w' w : World} {B k : Nat} {r v' : Value} {l : List Bool} {x : Bool} {o : Obj} (hB : B ≤ wr.heap.size) (hown : wr.ownsRow B 5 1 r k (cellsOf l)) (hnx : Below B w wr)
    (hown' : w'.ownsRow B 5 1 v' (k + 1) (cellsOf l ++ [.int .u8 ((bb x).toNat : Int)])) (hg : (wr.alloc o).grownBy w' r.ownBlock) :
    w'.ownsRow B 5 1 v' (k + 1) (cellsOf (l ++ [x])) ∧ Below B w w' := by
  refine ⟨by simpa [cellsOf] using hown', ?_⟩
  exact (hnx.alloc hB o).grown hg (by simp; omega) (fun j hj => (hown.lt j hj).1)

set_option maxRecDepth 50000 in
set_option maxHeartbeats 400000 in
theorem spelt_any (v n : Nat) (w : World) (_hv : v ≤ 1099511627776) (hn : n ≤ 12) :
    Calls Try.prog 37 #[.int .i64 v, .int .i64 n] w fun e w' => (∃ l : List Bool, e = .returned (.string (bs l)) ∧ l.length = n) ∧ Below w.heap.size w w' := by
  obtain ⟨i0, hi, hz0, hz1, hz2⟩ := info_parts Try.info5
  go_enter Try.func37, Try.ntmps37
  go_wp2
  go_loopw [5, 6] (fun r i wr => ∃ (k : Nat) (l : List Bool), k ≤ n ∧ i = .int .i64 k ∧ l.length = k ∧ wr.ownsRow w.heap.size 5 1 r k (cellsOf l) ∧ Below w.heap.size w wr) (fun _ i _ => n - (intOf i).toNat)
  case atStart => exact ⟨0, [], by omega, rfl, rfl, World.ownsRow_nil _ _ _ _, Below.refl _ _⟩
  case round =>
    obtain ⟨k, l, hk, rfl, hl, hown, hnx⟩ := hrel
    have hsz := hnx.size
    by_cases hlt : k < n
    · obtain ⟨z, hz⟩ := bit_byte ((v : Int) / 2 ^ k)
      go_wp2_with (at_builtin; refine wpList_append_own _ rfl _ _ 81 rfl w.heap.size 5 i0 (.int .u8 0) 1 1 Try.under81 hi hz0 hz1 hz2 rfl (by decide) _ _ _ rfl (hown.alloc _) ⟨wr.heap.size, 0, none⟩ 1 1 [.int .u8 ((bb z).toNat : Int)] rfl rfl (cell_one_new _ _ _) (by intro x hx; simp at hx; subst hx; rfl) (by unfold maxLen; omega) (by omega) (by simp; omega) ?_; intro v' w' hown' hgrow _)
      have R := rel_grow hsz hown hnx hown' hgrow
      clear hown' hgrow hown hnx
      go_wp2
      go_roundw
      case rel => exact ⟨k + 1, l ++ [z], by omega, by go_num, by simp [hl], R.1, R.2⟩
      case measure => simp [intOf]; omega
    · have hke : k = n := by omega
      have kv := own_string hown
      clear hown
      go_wp2
      go_ret
      exact ⟨⟨l, rfl, by omega⟩, hnx⟩

/-- What word gives: the text of a word. -/
def WordText (most : Nat) (e : Ending) : Prop := ∃ u v : List Bool, e = .returned (.string (txt (bs u) (bs v))) ∧ u.length ≤ most ∧ v.length ≤ most ∧ v ≠ []

theorem spelt_int (a b : Int) (w : World) (ha : 0 ≤ a) (ha2 : a ≤ 1099511627776) (hb : 0 ≤ b) (hb2 : b ≤ 12) :
    Calls Try.prog 37 #[.int .i64 a, .int .i64 b] w fun e w' => (∃ l : List Bool, e = .returned (.string (bs l)) ∧ (l.length : Int) = b) ∧ Below w.heap.size w w' := by
  obtain ⟨n, rfl⟩ := Int.eq_ofNat_of_zero_le ha
  obtain ⟨m, rfl⟩ := Int.eq_ofNat_of_zero_le hb
  exact (spelt_any n m w (by omega) (by omega)).mono fun e w' ⟨⟨l, h1, h2⟩, h3⟩ => ⟨⟨l, h1, by omega⟩, h3⟩

set_option maxRecDepth 50000 in
set_option maxHeartbeats 400000 in
theorem word_any (c : Int) (most : Nat) (w : World) (hc : (Lit.int .i64 c).wf = true) (h0 : 0 < most) (h12 : most ≤ 12) :
    Calls Try.prog 24 #[.int .i64 c, .int .i64 most] w fun e w' => WordText most e ∧ Below w.heap.size w w' := by
  have hm1 : (1 : Int) ≤ (most : Int) := by omega
  go_enter Try.func24, Try.ntmps24
  go_wp2_with (first
    | (go_at_call 11; refine (pick_any c 1099511627776 w hc (by omega) (by omega)).mono ?_; rintro e w1 ⟨⟨r, rfl, hr⟩, hw1⟩; subst w1; have g1 : 0 ≤ (r : Int) % ((most : Int) + 1) := Int.emod_nonneg _ (by omega); have g2 : (r : Int) % ((most : Int) + 1) < (most : Int) + 1 := Int.emod_lt_of_pos _ (by omega); have g3 : 0 ≤ (r : Int) / 16 % (most : Int) := Int.emod_nonneg _ (by omega); have g4 : (r : Int) / 16 % (most : Int) < (most : Int) := Int.emod_lt_of_pos _ (by omega)))
  refine (spelt_int _ _ w (by omega) (by omega) (by omega) (by omega)).mono ?_
  rintro e w1 ⟨⟨u, rfl, hu⟩, hb1⟩
  have s1 : (bs u).size = u.length := bs_size u
  have hu2 : u.length ≤ most := by omega
  go_wp2_with fail
  refine (spelt_int _ _ w1 (by omega) (by omega) (by omega) (by omega)).mono ?_
  rintro e w2 ⟨⟨v, rfl, hv⟩, hb2⟩
  have s2 : (bs v).size = v.length := bs_size v
  have hv2 : v.length ≤ most := by omega
  have hv3 : v ≠ [] := by intro h; rw [h] at hv; simp at hv; omega
  go_wp2
  go_ret
  exact ⟨⟨u, v, rfl, hu2, hv2, hv3⟩, hb1.trans (hb2.mono hb1.size)⟩
end Go.Proofs.Ytfbkjopidjojeab

