/-
  Walks, part l: the calls on words of package streams: Normal, Not, Either, On, Ahead, Size.
-/
import Derived.Test.YtfbkjopidjojeaaWk
namespace Go.Proofs.Ytfbkjopidjojeaa
open Go.RowKit

/-- The word of a stream comes out. -/
def TextIs (f : Nat → Bool) (e : Ending) : Prop := ∃ u v : List Bool, e = .returned (.tuple #[.string (toldS u v), .int .i64 (toldE u v)]) ∧ NF f u v

set_option maxRecDepth 50000 in
set_option maxHeartbeats 400000 in
theorem sNormal_no (s : ByteArray) (w : World) (hs : s.size ≤ maxLen) (h : okW s.data.toList = false) :
    Calls Try.prog 12 #[.string s] w fun e w' => e = .returned (.tuple #[.string ⟨#[]⟩, .int .i64 1]) ∧ Below w.heap.size w w' := by
  go_enter Try.func12, Try.ntmps12
  go_wp2_with (go_at_call 30; refine (Parse_no s w hs h).mono ?_; rintro e w1 ⟨rfl, hb1⟩)
  go_ret2
  exact ⟨rfl, hb1.alloc hb1.size _⟩

set_option maxRecDepth 50000 in
set_option maxHeartbeats 400000 in
theorem sNormal_yes (s : ByteArray) (w : World) (hs : s.size ≤ maxLen) (h : okW s.data.toList = true) :
    Calls Try.prog 12 #[.string s] w fun e w' => TextIs (st s) e ∧ Below w.heap.size w w' := by
  go_enter Try.func12, Try.ntmps12
  go_wp2_with (first
    | (go_at_call 30; refine (Parse_yes s w hs h).mono ?_; rintro e w1 ⟨⟨u, v, rfl, hn, hu, hv⟩, hb1⟩; have hz1 := hb1.size)
    | (go_at_call 31; refine (tell_any u v _ (by omega) (by omega)).mono ?_; rintro e w2 ⟨rfl, hb2⟩))
  go_ret2
  exact ⟨⟨u, v, rfl, hn⟩, (hb1.alloc hz1 _).trans (hb2.mono (by simp; omega))⟩

set_option maxRecDepth 50000 in
set_option maxHeartbeats 400000 in
theorem sNot_no (s : ByteArray) (w : World) (hs : s.size ≤ maxLen) (h : okW s.data.toList = false) :
    Calls Try.prog 13 #[.string s] w fun e w' => e = .returned (.tuple #[.string ⟨#[]⟩, .int .i64 1]) ∧ Below w.heap.size w w' := by
  go_enter Try.func13, Try.ntmps13
  go_wp2_with (go_at_call 30; refine (Parse_no s w hs h).mono ?_; rintro e w1 ⟨rfl, hb1⟩)
  go_ret2
  exact ⟨rfl, hb1.alloc hb1.size _⟩

set_option maxRecDepth 50000 in
set_option maxHeartbeats 400000 in
theorem sNot_yes (s : ByteArray) (w : World) (hs : s.size ≤ maxLen) (h : okW s.data.toList = true) :
    Calls Try.prog 13 #[.string s] w fun e w' => TextIs (fun n => !st s n) e ∧ Below w.heap.size w w' := by
  go_enter Try.func13, Try.ntmps13
  go_wp2_with (first
    | (go_at_call 30; refine (Parse_yes s w hs h).mono ?_; rintro e w1 ⟨⟨u, v, rfl, hn, hu, hv⟩, hb1⟩; have hz1 := hb1.size)
    | (go_at_call 32; refine (Not_any u v _ hn.ne (by omega) (by omega)).mono ?_; rintro e w2 ⟨⟨x, y, rfl, hm, hx, hy⟩, hb2⟩; have hz2 := hb2.size)
    | (go_at_call 31; refine (tell_any x y _ (by omega) (by omega)).mono ?_; rintro e w3 ⟨rfl, hb3⟩))
  go_ret2
  simp at hz2
  exact ⟨⟨x, y, rfl, hm.congr fun n => by rw [hn.bits]⟩, ((hb1.alloc hz1 _).trans (hb2.mono (by simp; omega))).trans (hb3.mono (by omega))⟩

/-- The worlds behind two words that were read. -/
theorem two_boxes {w w1 : World} (hb1 : Below w.heap.size w w1) (o o' : Obj) : Below w.heap.size w ((w1.alloc o).alloc o') := (hb1.alloc hb1.size _).alloc (by have := hb1.size; simp; omega) _

set_option maxRecDepth 50000 in
set_option maxHeartbeats 400000 in
theorem sEither_no (s t : ByteArray) (w : World) (hs : s.size ≤ maxLen) (ht : t.size ≤ maxLen) (h : okW s.data.toList = false ∨ okW t.data.toList = false) :
    Calls Try.prog 14 #[.string s, .string t] w fun e w' => e = .returned (.tuple #[.string ⟨#[]⟩, .int .i64 1]) ∧ Below w.heap.size w w' := by
  go_enter Try.func14, Try.ntmps14
  go_wp2_with (go_at_call 33; refine (parseBoth_no s t w hs ht h).mono ?_; rintro e w1 ⟨rfl, hb1⟩)
  go_ret2
  exact ⟨rfl, two_boxes hb1 _ _⟩

set_option maxRecDepth 50000 in
set_option maxHeartbeats 400000 in
theorem sOn_no (s t : ByteArray) (w : World) (hs : s.size ≤ maxLen) (ht : t.size ≤ maxLen) (h : okW s.data.toList = false ∨ okW t.data.toList = false) :
    Calls Try.prog 15 #[.string s, .string t] w fun e w' => e = .returned (.tuple #[.string ⟨#[]⟩, .int .i64 1]) ∧ Below w.heap.size w w' := by
  go_enter Try.func15, Try.ntmps15
  go_wp2_with (go_at_call 33; refine (parseBoth_no s t w hs ht h).mono ?_; rintro e w1 ⟨rfl, hb1⟩)
  go_ret2
  exact ⟨rfl, two_boxes hb1 _ _⟩

set_option maxRecDepth 50000 in
set_option maxHeartbeats 400000 in
theorem sAhead_no (s t : ByteArray) (w : World) (hs : s.size ≤ maxLen) (ht : t.size ≤ maxLen) (h : okW s.data.toList = false ∨ okW t.data.toList = false) :
    Calls Try.prog 17 #[.string s, .string t] w fun e w' => e = .returned (.tuple #[.bool false, .int .i64 1]) ∧ Below w.heap.size w w' := by
  go_enter Try.func17, Try.ntmps17
  go_wp2_with (go_at_call 33; refine (parseBoth_no s t w hs ht h).mono ?_; rintro e w1 ⟨rfl, hb1⟩)
  go_ret2
  exact ⟨rfl, two_boxes hb1 _ _⟩

set_option maxRecDepth 50000 in
set_option maxHeartbeats 400000 in
theorem sSize_no (s t : ByteArray) (w : World) (hs : s.size ≤ maxLen) (ht : t.size ≤ maxLen) (h : okW s.data.toList = false ∨ okW t.data.toList = false) :
    Calls Try.prog 18 #[.string s, .string t] w fun e w' => e = .returned (.tuple #[.int .i64 0, .int .i64 1]) ∧ Below w.heap.size w w' := by
  go_enter Try.func18, Try.ntmps18
  go_wp2_with (go_at_call 33; refine (parseBoth_no s t w hs ht h).mono ?_; rintro e w1 ⟨rfl, hb1⟩)
  go_ret2
  exact ⟨rfl, two_boxes hb1 _ _⟩

set_option maxRecDepth 50000 in
set_option maxHeartbeats 400000 in
theorem sEither_yes (s t : ByteArray) (w : World) (hs : s.size ≤ maxLen) (ht : t.size ≤ maxLen) (h : okW s.data.toList = true) (h' : okW t.data.toList = true) :
    Calls Try.prog 14 #[.string s, .string t] w fun e w' => TextIs (fun n => st s n || st t n) e ∧ Below w.heap.size w w' := by
  go_enter Try.func14, Try.ntmps14
  go_wp2_with (first
    | (go_at_call 33; refine (parseBoth_yes s t w hs ht h h').mono ?_; rintro e w1 ⟨⟨u, v, x, y, rfl, ⟨hn, hu, hv⟩, hn', hx, hy⟩, hb1⟩; have hz1 := hb1.size)
    | (go_at_call 34; refine (Either_any u v x y _ hn.ne hn'.ne (by omega) (by omega) (by omega) (by omega)).mono ?_; rintro e w2 ⟨⟨p, q, rfl, hm, hp, hq⟩, hb2⟩; have hz2 := hb2.size; have hq2 : q.length ≤ 12 * 12 := Nat.le_trans hq (Nat.le_trans (lcm_le_mul _ _) (Nat.mul_le_mul hv hy)))
    | (go_at_call 31; refine (tell_any p q _ (by omega) (by omega)).mono ?_; rintro e w3 ⟨rfl, hb3⟩))
  go_ret2
  simp at hz2
  exact ⟨⟨p, q, rfl, hm.congr fun n => by rw [hn.bits, hn'.bits]⟩, ((two_boxes hb1 _ _).trans (hb2.mono (by simp; omega))).trans (hb3.mono (by omega))⟩

theorem ones_fun {f g : Nat → Bool} (h : ∀ n, f n = g n) : f = g := funext h

set_option maxRecDepth 50000 in
set_option maxHeartbeats 400000 in
theorem sOn_yes (s t : ByteArray) (w : World) (hs : s.size ≤ maxLen) (ht : t.size ≤ maxLen) (h : okW s.data.toList = true) (h' : okW t.data.toList = true) :
    Calls Try.prog 15 #[.string s, .string t] w fun e w' => TextIs (onS (st s) (st t)) e ∧ Below w.heap.size w w' := by
  go_enter Try.func15, Try.ntmps15
  go_wp2_with (first
    | (go_at_call 33; refine (parseBoth_yes s t w hs ht h h').mono ?_; rintro e w1 ⟨⟨u, v, x, y, rfl, ⟨hn, hu, hv⟩, hn', hx, hy⟩, hb1⟩; have hz1 := hb1.size)
    | (go_at_call 35; refine (On_any u v x y _ hn.ne hn'.ne (by omega) (by omega) (by omega) (by omega)).mono ?_; rintro e w2 ⟨⟨p, q, rfl, hm, hp, hq⟩, hb2⟩; have hz2 := hb2.size)
    | (go_at_call 31; refine (tell_any p q _ (by omega) (by omega)).mono ?_; rintro e w3 ⟨rfl, hb3⟩))
  go_ret2
  simp at hz2
  exact ⟨⟨p, q, rfl, by rw [← ones_fun hn.bits, ← ones_fun hn'.bits]; exact hm⟩, ((two_boxes hb1 _ _).trans (hb2.mono (by simp; omega))).trans (hb3.mono (by omega))⟩

set_option maxRecDepth 50000 in
set_option maxHeartbeats 400000 in
theorem sAhead_yes (s t : ByteArray) (w : World) (hs : s.size ≤ maxLen) (ht : t.size ≤ maxLen) (h : okW s.data.toList = true) (h' : okW t.data.toList = true) :
    Calls Try.prog 17 #[.string s, .string t] w fun e w' => (∃ r : Bool, e = .returned (.tuple #[.bool r, .int .i64 0]) ∧ Hid (r = true ↔ AheadS (st s) (st t))) ∧ Below w.heap.size w w' := by
  go_enter Try.func17, Try.ntmps17
  go_wp2_with (first
    | (go_at_call 33; refine (parseBoth_yes s t w hs ht h h').mono ?_; rintro e w1 ⟨⟨u, v, x, y, rfl, ⟨hn, hu, hv⟩, hn', hx, hy⟩, hb1⟩; have hz1 := hb1.size)
    | (go_at_call 36; refine (Ahead_any u v x y _ hn.ne hn'.ne (by omega) (by omega) (by omega) (by omega)).mono ?_; rintro e w2 ⟨⟨r, rfl, hr⟩, hb2⟩; have hz2 := hb2.size))
  go_ret2
  exact ⟨⟨r, rfl, by rw [← ones_fun hn.bits, ← ones_fun hn'.bits]; exact hr⟩, (two_boxes hb1 _ _).trans (hb2.mono (by simp; omega))⟩

/-- The answer of Size: 3: they do not adapt. -/
def SizeOf (f g : Nat → Bool) (s e : Int) : Prop := (e = 0 ∧ AdaptsS f g ∧ Most f g s) ∨ (e = 3 ∧ ¬ AdaptsS f g ∧ s = 0)

set_option maxRecDepth 50000 in
set_option maxHeartbeats 400000 in
theorem sSize_yes (s t : ByteArray) (w : World) (hs : s.size ≤ maxLen) (ht : t.size ≤ maxLen) (h : okW s.data.toList = true) (h' : okW t.data.toList = true) :
    Calls Try.prog 18 #[.string s, .string t] w fun e w' => (∃ z k : Int, e = .returned (.tuple #[.int .i64 z, .int .i64 k]) ∧ Hid (SizeOf (st s) (st t) z k)) ∧ Below w.heap.size w w' := by
  go_enter Try.func18, Try.ntmps18
  go_wp2_with (first
    | (go_at_call 33; refine (parseBoth_yes s t w hs ht h h').mono ?_; rintro e w1 ⟨⟨u, v, x, y, rfl, ⟨hn, hu, hv⟩, hn', hx, hy⟩, hb1⟩; have hz1 := hb1.size)
    | (go_at_call 37; refine (Size_any u v x y _ hn.ne hn'.ne (by omega) (by omega) (by omega) (by omega)).mono ?_; rintro e w2 ⟨⟨z, r, rfl, hr⟩, hb2⟩; have hz2 := hb2.size; rw [ones_fun hn.bits, ones_fun hn'.bits] at hr))
  · have hr1 : (!r) = true := by assumption
    have hr2 : r = false := by simpa using hr1
    have hh := hr.out
    go_ret2
    refine ⟨⟨0, 3, rfl, .inr ⟨rfl, fun ha => ?_, rfl⟩⟩, (two_boxes hb1 _ _).trans (hb2.mono (by simp; omega))⟩
    have := hh.1.2 ha
    rw [hr2] at this; cases this
  · have hr1 : (!r) = false := by assumption
    have hr2 : r = true := by simpa using hr1
    have hh := hr.out
    go_ret2
    exact ⟨⟨z, 0, rfl, .inl ⟨rfl, hh.1.1 hr2, hh.2.1 hr2⟩⟩, (two_boxes hb1 _ _).trans (hb2.mono (by simp; omega))⟩
end Go.Proofs.Ytfbkjopidjojeaa
