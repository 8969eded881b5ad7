/-
  Walks, part k: tell, parseBoth of package streams.
-/
import Derived.Test.YtfbkjopidjojeaaWj
namespace Go.Proofs.Ytfbkjopidjojeaa
open Go.RowKit

/-- The value of a word that comes out. -/
def toldS (u v : List Bool) : ByteArray := if 64 < u.length ∨ 64 < v.length then ⟨#[]⟩ else txt (bs u) (bs v)
/-- The error beside it. -/
def toldE (u v : List Bool) : Int := if 64 < u.length ∨ 64 < v.length then 2 else 0

set_option maxRecDepth 50000 in
set_option maxHeartbeats 400000 in
theorem tell_any (u v : List Bool) (w : World) (hu : u.length ≤ 1099511627776000) (hv : v.length ≤ 1099511627776000) :
    Calls Try.prog 31 #[.agg #[.string (bs u), .string (bs v)]] w fun e w' => e = .returned (.tuple #[.string (toldS u v), .int .i64 (toldE u v)]) ∧ Below w.heap.size w w' := by
  have s1 : (bs u).size = u.length := bs_size u
  have s2 : (bs v).size = v.length := bs_size v
  have hA := Boxed.new w w.heap.size (bs u) (bs v) 49 rfl
  by_cases h : 64 < u.length ∨ 64 < v.length
  · have e1 : toldS u v = ⟨#[]⟩ ∧ toldE u v = 2 := by unfold toldS toldE; rw [if_pos h, if_pos h]; exact ⟨rfl, rfl⟩
    have e2 : (decide (64 < (bs u).size) || decide (64 < (bs v).size)) = true := by rw [s1, s2]; simpa using h
    rw [s1, s2] at e2
    have E1 : Hid _ := e1
    clear e1 h
    go_enter Try.func31, Try.ntmps31
    go_wp2_with (first
      | (go_at_call 49; refine (Long_any (bs u) (bs v) _ (by omega) (by omega)).mono ?_; rintro e w1 ⟨rfl, hb1⟩))
    go_ret2
    exact ⟨by rw [E1.out.1, E1.out.2]; rfl, (((Below.refl w.heap.size w).alloc (Nat.le_refl _) _).trans (hb1.mono (by simp)))⟩
  · have e1 : toldS u v = txt (bs u) (bs v) ∧ toldE u v = 0 := by unfold toldS toldE; rw [if_neg h, if_neg h]; exact ⟨rfl, rfl⟩
    have e2 : (decide (64 < u.length) || decide (64 < v.length)) = false := by simp; omega
    have E1 : Hid _ := e1
    clear e1 h
    go_enter Try.func31, Try.ntmps31
    go_wp2_with (first
      | (go_at_call 49; refine (Long_any (bs u) (bs v) _ (by omega) (by omega)).mono ?_; rintro e w1 ⟨rfl, hb1⟩; obtain ⟨a0, a1, _, _⟩ := hA.below hb1 (by simp); have hz1 := hb1.size)
      | (go_at_call 50; refine (Text_any (bs u) (bs v) w1 (by omega) (by omega)).mono ?_; rintro e w2 ⟨rfl, hb2⟩))
    go_ret2
    exact ⟨by rw [E1.out.1, E1.out.2]; rfl, ((((Below.refl w.heap.size w).alloc (Nat.le_refl _) _).trans (hb1.mono (by simp))).trans (hb2.mono (by simp at hz1; omega)))⟩

theorem Parse_no (s : ByteArray) (w : World) (hs : s.size ≤ maxLen) (h : okW s.data.toList = false) :
    Calls Try.prog 30 #[.string s] w fun e w' => e = .returned (.tuple #[.agg #[.string ⟨#[]⟩, .string ⟨#[]⟩], .bool false]) ∧ Below w.heap.size w w' := by
  refine (Parse_any s w hs).mono ?_
  rintro e w' ⟨⟨_, he⟩ | ⟨hy, _⟩, hb⟩
  · exact ⟨he, hb⟩
  · rw [h] at hy; cases hy
/-- The stream of a text that is a word. -/
def st (s : ByteArray) : Nat → Bool := bitAt (toB (pU s.data.toList)) (toB (pV s.data.toList))
theorem Parse_yes (s : ByteArray) (w : World) (hs : s.size ≤ maxLen) (h : okW s.data.toList = true) :
    Calls Try.prog 30 #[.string s] w fun e w' => (∃ u v : List Bool, e = .returned (.tuple #[.agg #[.string (bs u), .string (bs v)], .bool true]) ∧ NF (st s) u v ∧ u.length ≤ 12 ∧ v.length ≤ 12) ∧ Below w.heap.size w w' := by
  refine (Parse_any s w hs).mono ?_
  rintro e w' ⟨⟨hn, _⟩ | ⟨_, hy⟩, hb⟩
  · rw [h] at hn; cases hn
  · exact ⟨hy, hb⟩

/-- The world ahead of parseBoth's first call. -/
def P2 (w : World) : World := (w.alloc (Obj.cells #[Value.string ⟨#[]⟩, Value.string ⟨#[]⟩] 49)).alloc (Obj.cells #[Value.string ⟨#[]⟩, Value.string ⟨#[]⟩] 49)
theorem P2_size (w : World) : (P2 w).heap.size = w.heap.size + 1 + 1 := by simp [P2]
theorem P2_below (w : World) : Below w.heap.size w (P2 w) := ((Below.refl w.heap.size w).alloc (Nat.le_refl _) _).alloc (by simp) _
theorem P2_a (w : World) : Boxed (P2 w) w.heap.size ⟨#[]⟩ ⟨#[]⟩ := (Boxed.new w _ _ _ _ rfl).alloc _
theorem P2_b (w : World) : Boxed (P2 w) (w.heap.size + 1) ⟨#[]⟩ ⟨#[]⟩ := Boxed.new _ _ _ _ _ (by simp)

/-- What a text's word is. -/
def ParseV (s x y : ByteArray) : Prop := okW s.data.toList = true → ∃ u v : List Bool, x = bs u ∧ y = bs v ∧ NF (st s) u v ∧ u.length ≤ 12 ∧ v.length ≤ 12
theorem Parse_uni (s : ByteArray) (r : Bool) (w : World) (hs : s.size ≤ maxLen) (hr : okW s.data.toList = r) :
    Calls Try.prog 30 #[.string s] w fun e w' => (∃ x y : ByteArray, e = .returned (.tuple #[.agg #[.string x, .string y], .bool r]) ∧ ParseV s x y) ∧ Below w.heap.size w w' := by
  refine (Parse_any s w hs).mono ?_
  rintro e w' ⟨⟨hn, rfl⟩ | ⟨hy, u, v, rfl, h⟩, hb⟩
  · rw [hn] at hr; subst hr
    exact ⟨⟨_, _, rfl, fun h => by rw [hn] at h; cases h⟩, hb⟩
  · rw [hy] at hr; subst hr
    exact ⟨⟨_, _, rfl, fun _ => ⟨u, v, rfl, rfl, h⟩⟩, hb⟩

theorem Boxed.store_other {w : World} {b c : Nat} {x y : ByteArray} (h : Boxed w b x y) (hb : c ≠ b) (p q : Value) : Boxed ((w.setCell ⟨c, 0, none⟩ p).setCell ⟨c, 1, none⟩ q) b x y := by
  have n : ∀ i j, (⟨c, i, none⟩ : Addr) ≠ ⟨b, j, none⟩ := fun i j e => by injection e with e; exact hb e
  refine ⟨?_, ?_, ?_, ?_⟩
  · rw [World.cell?_setCell_other _ _ _ _ (n 1 0), World.cell?_setCell_other _ _ _ _ (n 0 0)]; exact h.c0
  · rw [World.cell?_setCell_other _ _ _ _ (n 1 1), World.cell?_setCell_other _ _ _ _ (n 0 1)]; exact h.c1
  · rw [World.frozen?_setCell, World.frozen?_setCell]; exact h.f0
  · rw [World.frozen?_setCell, World.frozen?_setCell]; exact h.f1
/-- Two results, stored one behind the other. -/
theorem boxed_both {w : World} {b c : Nat} {x y x' y' : ByteArray} (hA : Boxed w b x y) (hB : Boxed w c x' y') (hb : c ≠ b) (p q p' q' : ByteArray) :
    Boxed ((((w.setCell ⟨b, 0, none⟩ (.string p)).setCell ⟨b, 1, none⟩ (.string q)).setCell ⟨c, 0, none⟩ (.string p')).setCell ⟨c, 1, none⟩ (.string q')) b p q ∧
    Boxed ((((w.setCell ⟨b, 0, none⟩ (.string p)).setCell ⟨b, 1, none⟩ (.string q)).setCell ⟨c, 0, none⟩ (.string p')).setCell ⟨c, 1, none⟩ (.string q')) c p' q' :=
  ⟨(hA.store p q).store_other hb _ _, (hB.store_other (fun e => hb e.symm) _ _).store p' q'⟩

set_option maxRecDepth 50000 in
set_option maxHeartbeats 400000 in
theorem parseBoth_no (s t : ByteArray) (w : World) (hs : s.size ≤ maxLen) (ht : t.size ≤ maxLen) (h : okW s.data.toList = false ∨ okW t.data.toList = false) :
    Calls Try.prog 33 #[.string s, .string t] w fun e w' => e = .returned (.tuple #[.agg #[.string ⟨#[]⟩, .string ⟨#[]⟩], .agg #[.string ⟨#[]⟩, .string ⟨#[]⟩], .bool false]) ∧ Below w.heap.size w w' := by
  have hA := P2_a w
  have hB := P2_b w
  cases hs1 : okW s.data.toList <;> cases ht1 : okW t.data.toList
  case true.true => rw [hs1, ht1] at h; simp at h
  all_goals
    clear h
    go_enter Try.func33, Try.ntmps33
    go_wp2_with (first
      | (go_at_call_of 30 s; refine (Parse_uni s _ (P2 w) hs hs1).mono ?_; rintro e w1 ⟨⟨x, y, rfl, hx⟩, hb1⟩; rw [P2_size] at hb1; have hz1 := hb1.size; rw [P2_size] at hz1)
      | (go_at_call_of 30 t; refine (Parse_uni t _ _ ht ht1).mono ?_; rintro e w2 ⟨⟨x', y', rfl, hx'⟩, hb2⟩; have hz2 := hb2.size; have hb12 := hb1.trans ((((Below.refl w1.heap.size w1).alloc (Nat.le_refl _) _).trans (hb2.mono (by simp))).mono (by omega)); obtain ⟨a0, a1, a2, a3⟩ := (hA.below hb12 (by omega)).alloc (Obj.cells #[Value.string x', Value.string y'] 49); obtain ⟨b0, b1, b2, b3⟩ := (hB.below hb12 (by omega)).alloc (Obj.cells #[Value.string x', Value.string y'] 49)))
    have hbo := boxed_both ⟨a0, a1, a2, a3⟩ ⟨b0, b1, b2, b3⟩ (by omega) ⟨#[]⟩ ⟨#[]⟩ ⟨#[]⟩ ⟨#[]⟩
    have q0 := hbo.1.c0
    have q1 := hbo.1.c1
    have q2 := hbo.2.c0
    have q3 := hbo.2.c1
    refine bodyPost_ret (v := .tuple #[.agg #[.string ⟨#[]⟩, .string ⟨#[]⟩], .agg #[.string ⟨#[]⟩, .string ⟨#[]⟩], .bool false]) (by simp [results, Try.results33, go_sem, q0, q1, q2, q3]) rfl ⟨rfl, ?_⟩
    exact ((((((P2_below w).trans (hb12.mono (by omega))).alloc (by simp at hz2; omega) _).setCell (Nat.le_refl _) _).setCell (Nat.le_refl _) _).setCell (Nat.le_succ _) _).setCell (Nat.le_succ _) _

set_option maxRecDepth 50000 in
set_option maxHeartbeats 400000 in
theorem parseBoth_yes (s t : ByteArray) (w : World) (hs : s.size ≤ maxLen) (ht : t.size ≤ maxLen) (hs1 : okW s.data.toList = true) (ht1 : okW t.data.toList = true) :
    Calls Try.prog 33 #[.string s, .string t] w fun e w' => (∃ u v x y : List Bool, e = .returned (.tuple #[.agg #[.string (bs u), .string (bs v)], .agg #[.string (bs x), .string (bs y)], .bool true]) ∧ (NF (st s) u v ∧ u.length ≤ 12 ∧ v.length ≤ 12) ∧ (NF (st t) x y ∧ x.length ≤ 12 ∧ y.length ≤ 12)) ∧ Below w.heap.size w w' := by
  have hA := P2_a w
  have hB := P2_b w
  go_enter Try.func33, Try.ntmps33
  go_wp2_with (first
    | (go_at_call_of 30 s; refine (Parse_uni s _ (P2 w) hs hs1).mono ?_; rintro e w1 ⟨⟨x, y, rfl, hx⟩, hb1⟩; rw [P2_size] at hb1; have hz1 := hb1.size; rw [P2_size] at hz1)
    | (go_at_call_of 30 t; refine (Parse_uni t _ _ ht ht1).mono ?_; rintro e w2 ⟨⟨x', y', rfl, hx'⟩, hb2⟩; have hz2 := hb2.size; have hb12 := hb1.trans ((((Below.refl w1.heap.size w1).alloc (Nat.le_refl _) _).trans (hb2.mono (by simp))).mono (by omega)); obtain ⟨a0, a1, a2, a3⟩ := (hA.below hb12 (by omega)).alloc (Obj.cells #[Value.string x', Value.string y'] 49); obtain ⟨b0, b1, b2, b3⟩ := (hB.below hb12 (by omega)).alloc (Obj.cells #[Value.string x', Value.string y'] 49); obtain ⟨c0, c1, c2, c3⟩ := ((Boxed.new w1 _ x y 49 rfl).below hb2 (by simp)).alloc (Obj.cells #[Value.string x', Value.string y'] 49)))
  obtain ⟨d0, d1, _, _⟩ := Boxed.new w2 _ x' y' 49 rfl
  simp at hz2
  have hbW : Below (w.heap.size + 1 + 1) (P2 w) (w2.alloc (Obj.cells #[Value.string x', Value.string y'] 49)) := hb12.alloc (by omega) _
  have n1 : ¬ w.heap.size = w1.heap.size := by omega
  have n2 : ¬ w.heap.size + 1 = w1.heap.size := by omega
  have n3 : ¬ w.heap.size = w2.heap.size := by omega
  have n4 : ¬ w.heap.size + 1 = w2.heap.size := by omega
  clear hb1 hb2 hb12 hz1 hz2 hA hB
  generalize w2.alloc (Obj.cells #[Value.string x', Value.string y'] 49) = W at *
  generalize w1.heap.size = K1 at *
  generalize w2.heap.size = K2 at *
  go_region_held3 (fun w' => w'.cell? ⟨K1, 0, none⟩ = some (.string x) ∧ w'.cell? ⟨K1, 1, none⟩ = some (.string y) ∧ w'.cell? ⟨K2, 0, none⟩ = some (.string x') ∧ w'.cell? ⟨K2, 1, none⟩ = some (.string y')) (go_keep) (fail)
  go_wp2
  have hbo := boxed_both ⟨a0, a1, a2, a3⟩ ⟨b0, b1, b2, b3⟩ (by omega) x y x' y'
  have q0 := hbo.1.c0
  have q1 := hbo.1.c1
  have q2 := hbo.2.c0
  have q3 := hbo.2.c1
  obtain ⟨u, v, rfl, rfl, h1⟩ := hx hs1
  obtain ⟨u', v', rfl, rfl, h2⟩ := hx' ht1
  refine bodyPost_ret (v := .tuple #[.agg #[.string (bs u), .string (bs v)], .agg #[.string (bs u'), .string (bs v')], .bool true]) (by simp [results, Try.results33, go_sem, q0, q1, q2, q3]) rfl ⟨⟨u, v, u', v', rfl, h1, h2⟩, ?_⟩
  exact ((((((P2_below w).trans (hbW.mono (by omega))).setCell (Nat.le_refl _) _).setCell (Nat.le_refl _) _).setCell (Nat.le_succ _) _).setCell (Nat.le_succ _) _).drew
end Go.Proofs.Ytfbkjopidjojeaa
