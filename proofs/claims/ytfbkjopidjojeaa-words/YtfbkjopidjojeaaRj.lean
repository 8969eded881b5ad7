/-
  Walks over package streamslaw: pick, told, words.
-/
import Derived.Test.YtfbkjopidjojeaaRi
namespace Go.Proofs.Ytfbkjopidjojeaa
open Go.RowKit

set_option maxRecDepth 50000 in
set_option maxHeartbeats 400000 in
theorem lpick_any (c : Int) (n : Nat) (w : World) (hc : (Lit.int .i64 c).wf = true) (hn0 : 0 < n) (hn : n ≤ 1099511627776) :
    Calls Try.prog 21 #[.int .i64 c, .int .i64 n] w fun e w' => (∃ r : Nat, e = .returned (.int .i64 r) ∧ r < n) ∧ w' = w := by
  have hb : -9223372036854775808 ≤ c ∧ c ≤ 9223372036854775807 := by
    simp only [Lit.wf, Bool.and_eq_true, decide_eq_true_eq] at hc
    have e1 : IntKind.i64.min = -9223372036854775808 := by decide
    have e2 : IntKind.i64.max = 9223372036854775807 := by decide
    rw [e1, e2] at hc; exact hc
  obtain ⟨hb1, hb2⟩ := hb
  have hn1 : (1 : Int) ≤ (n : Int) := by omega
  clear hc
  by_cases h : c < 0
  · go_enter Try.func21, Try.ntmps21
    go_wp2
    go_ret
    refine ⟨⟨((-(c + 1)).tmod n).toNat, ret_int ?_, ?_⟩, rfl⟩
    · have : 0 ≤ (-(c + 1)).tmod (n : Int) := Int.tmod_nonneg _ (by omega)
      rw [Int.neg_tmod] at this ⊢
      omega
    · have h1 : (-(c + 1)).tmod (n : Int) < n := Int.tmod_lt_of_pos _ (by omega)
      omega
  · have h' : (0 : Int) ≤ c := by omega
    go_enter Try.func21, Try.ntmps21
    go_wp2
    go_ret
    have h1 : 0 ≤ c % (n : Int) := Int.emod_nonneg _ (by omega)
    have h2 : c % (n : Int) < n := Int.emod_lt_of_pos _ (by omega)
    exact ⟨⟨(c % (n : Int)).toNat, ret_int (by omega), by omega⟩, rfl⟩


theorem told_cases (u v : List Bool) : ((decide (u.length ≤ 64) && decide (v.length ≤ 64)) = false ∧ toldS u v = ⟨#[]⟩ ∧ toldE u v = 2) ∨ ((decide (u.length ≤ 64) && decide (v.length ≤ 64)) = true ∧ toldS u v = txt (bs u) (bs v) ∧ toldE u v = 0) := by
  unfold toldS toldE
  by_cases h : 64 < u.length ∨ 64 < v.length
  · rw [if_pos h, if_pos h]
    refine .inl ⟨?_, rfl, rfl⟩
    rw [Bool.and_eq_false_iff]; simp; omega
  · rw [if_neg h, if_neg h]
    refine .inr ⟨?_, rfl, rfl⟩
    simp; omega

set_option maxRecDepth 50000 in
set_option maxHeartbeats 400000 in
theorem told_any (x y u v : List Bool) (s : ByteArray) (k : Int) (w : World) (hn : NF (bitAt u v) x y) (hs : s = toldS x y) (hk : k = toldE x y) (hv0 : v ≠ []) (hu : u.length ≤ 1048576) (hv : v.length ≤ 1048576) :
    Calls Try.prog 22 #[.string s, .int .i64 k, .agg #[.string (bs u), .string (bs v)]] w fun e w' => e = .returned (.bool true) ∧ Below w.heap.size w w' := by
  have hA := R1_a w u v
  rcases told_cases x y with ⟨hf, e1, e2⟩ | ⟨hf, e1, e2⟩ <;> rw [e1] at hs <;> rw [e2] at hk <;> clear e1 e2 <;> subst hs hk
  · go_enter Try.func22, Try.ntmps22
    go_wp2_with fail
    refine (rFits_any u v (R1 w u v) hv0 hu hv).mono ?_
    rintro e w1 ⟨⟨x', y', rfl, hn'⟩, hb1⟩
    obtain ⟨rfl, rfl⟩ := hn.unique hn'
    rw [hf]
    rw [R1_size] at hb1
    go_wp2
    go_ret
    exact ⟨rfl, (R1_below w u v).trans (hb1.mono (by omega))⟩
  · go_enter Try.func22, Try.ntmps22
    go_wp2_with fail
    refine (rFits_any u v (R1 w u v) hv0 hu hv).mono ?_
    rintro e w1 ⟨⟨x', y', rfl, hn'⟩, hb1⟩
    obtain ⟨rfl, rfl⟩ := hn.unique hn'
    rw [hf]
    rw [R1_size] at hb1
    have hz1 := hb1.size
    rw [R1_size] at hz1
    obtain ⟨a0, a1, _, _⟩ := hA.below hb1 (by omega)
    have hl : x.length ≤ 64 ∧ y.length ≤ 64 := by simpa using hf
    have t1 : (bs x).size = x.length := bs_size x
    have t2 : (bs y).size = y.length := bs_size y
    go_wp2_with fail
    refine (rNormal_any u v w1 hv0 hu hv).mono ?_
    rintro e w2 ⟨⟨x', y', rfl, hn', _, _⟩, hb2⟩
    obtain ⟨rfl, rfl⟩ := hn.unique hn'
    have hz2 := hb2.size
    go_wp2_with fail
    refine (rText_any (bs x) (bs y) _ (by omega) (by omega)).mono ?_
    rintro e w3 ⟨rfl, hb3⟩
    go_wp2
    go_ret
    exact ⟨rfl, ((((R1_below w u v).trans (hb1.mono (by omega))).trans (hb2.mono (by omega))).alloc (by omega) _).trans (hb3.mono (by simp; omega))⟩

set_option maxRecDepth 100000 in
set_option maxRecDepth 50000 in
set_option maxHeartbeats 8000000 in
theorem words_head (r0 : Int) (s t : ByteArray) (w : World) (hw : (Lit.int .i64 r0).wf = true) (hs : s.size ≤ maxLen) (ht : t.size ≤ maxLen) :
    Calls Try.prog 10 #[.int .i64 r0, .string s, .string t] w fun e w' => e = .returned (.bool true) ∧ Below w.heap.size w w' := by
  go_enter Try.func10, Try.ntmps10
  go_wp2_with fail
  refine (rParse_any s w hs).mono ?_
  rintro e w1 ⟨⟨U, V, rfl, hUV⟩, hb1⟩
  have hz1 := hb1.size
  go_wp2_with fail
  refine (rParse_any t _ ht).mono ?_
  rintro e w2 ⟨⟨X, Y, rfl, hXY⟩, hb2⟩
  have hz2 := hb2.size
  go_wp2_with fail
  refine (lpick_any r0 6 _ hw (by omega) (by omega)).mono ?_
  rintro e w3 ⟨⟨r, rfl, hr⟩, hw3⟩
  subst w3
  have hBs := ((Boxed.new w1 _ U V 39 rfl).below hb2 (by simp)).alloc (Obj.cells #[Value.string X, Value.string Y] 39)
  have hBt := Boxed.new w2 _ X Y 39 rfl
  have hbW : Below w.heap.size w (w2.alloc (Obj.cells #[Value.string X, Value.string Y] 39)) := ((hb1.alloc hz1 _).trans (hb2.mono (by simp; omega))).alloc (by simp at hz2; omega) _
  have hK1 : w1.heap.size < (w2.alloc (Obj.cells #[Value.string X, Value.string Y] 39)).heap.size := by simp at hz2; simp; omega
  have hK2 : w2.heap.size < (w2.alloc (Obj.cells #[Value.string X, Value.string Y] 39)).heap.size := by simp
  clear hb1 hb2 hz1 hz2
  generalize w2.alloc (Obj.cells #[Value.string X, Value.string Y] 39) = W at *
  generalize w1.heap.size = K1 at *
  generalize w2.heap.size = K2 at *
  have hWz := hbW.size
  have hr6 : r = 0 ∨ r = 1 ∨ r = 2 ∨ r = 3 ∨ r = 4 ∨ r = 5 := by omega
  clear hr
  rcases hr6 with rfl | rfl | rfl | rfl | rfl | rfl
  · cases hok : okW s.data.toList
    · go_wp2_with fail
      refine (sNormal_no s W hs hok).mono ?_
      rintro e w4 ⟨rfl, hb4⟩
      go_wp2
      go_ret
      exact ⟨rfl, hbW.trans (hb4.mono hWz)⟩
    · obtain ⟨rfl, rfl⟩ := hUV.out hok
      obtain ⟨_, l1, l2, l3⟩ := okW_len hok
      go_wp2_with fail
      refine (sNormal_yes s W hs hok).mono ?_
      rintro e w4 ⟨⟨x, y, rfl, hn⟩, hb4⟩
      obtain ⟨a0, a1, _, _⟩ := hBs.below hb4 hK1
      have hz4 := hb4.size
      go_wp2_with fail
      refine (told_any x y _ _ _ _ w4 hn rfl rfl l3 (by omega) (by omega)).mono ?_
      rintro e w5 ⟨rfl, hb5⟩
      go_wp2
      go_ret
      exact ⟨rfl, (hbW.trans (hb4.mono hWz)).trans (hb5.mono (by omega))⟩
  · cases hok : okW s.data.toList
    · go_wp2_with fail
      refine (sNot_no s W hs hok).mono ?_
      rintro e w4 ⟨rfl, hb4⟩
      go_wp2
      go_ret
      exact ⟨rfl, hbW.trans (hb4.mono hWz)⟩
    · obtain ⟨rfl, rfl⟩ := hUV.out hok
      obtain ⟨_, l1, l2, l3⟩ := okW_len hok
      have hE := EP_map (g := fun b => !b) (EP_bitAt (toB (pU s.data.toList)) _ l3)
      go_wp2_with fail
      refine (sNot_yes s W hs hok).mono ?_
      rintro e w4 ⟨⟨x, y, rfl, hn⟩, hb4⟩
      obtain ⟨a0, a1, _, _⟩ := hBs.below hb4 hK1
      have hz4 := hb4.size
      have hn2 := hn.congr fun n => (bitAt_tab hE n).symm
      go_wp2_with fail
      refine (rNot_any _ _ w4 (by omega) (by omega)).mono ?_
      rintro e w5 ⟨rfl, hb5⟩
      have hz5 := hb5.size
      have htn : tab (fun n => !bitAt (toB (pU s.data.toList)) (toB (pV s.data.toList)) n) (toB (pU s.data.toList)).length (toB (pV s.data.toList)).length ≠ [] := by
        intro h; have := tab_length (fun n => !bitAt (toB (pU s.data.toList)) (toB (pV s.data.toList)) n) (toB (pU s.data.toList)).length (toB (pV s.data.toList)).length
        rw [h] at this; simp at this; exact l3 (List.length_eq_zero_iff.1 this.symm)
      go_wp2_with fail
      refine (told_any x y _ _ _ _ _ hn2 rfl rfl htn (by rw [tab_length]; omega) (by rw [tab_length]; omega)).mono ?_
      rintro e w6 ⟨rfl, hb6⟩
      go_wp2
      go_ret
      exact ⟨rfl, (((hbW.trans (hb4.mono hWz)).trans (hb5.mono (by omega))).alloc (by omega) _).trans (hb6.mono (by simp; omega))⟩
  · cases hok : okW s.data.toList
    · go_wp2_with fail
      refine (sEither_no s t W hs ht (.inl hok)).mono ?_
      rintro e w4 ⟨rfl, hb4⟩
      go_wp2
      go_ret
      exact ⟨rfl, hbW.trans (hb4.mono hWz)⟩
    cases hok' : okW t.data.toList
    · go_wp2_with fail
      refine (sEither_no s t W hs ht (.inr hok')).mono ?_
      rintro e w4 ⟨rfl, hb4⟩
      go_wp2
      go_ret
      exact ⟨rfl, hbW.trans (hb4.mono hWz)⟩
    · obtain ⟨rfl, rfl⟩ := hUV.out hok
      obtain ⟨rfl, rfl⟩ := hXY.out hok'
      obtain ⟨_, l1, l2, l3⟩ := okW_len hok
      obtain ⟨_, l1', l2', l3'⟩ := okW_len hok'
      have m1 : (toB (pV s.data.toList)).length * (toB (pV t.data.toList)).length ≤ 12 * 12 := Nat.mul_le_mul l2 l2'
      have m2 : (toB (pV s.data.toList)).length * (toB (pU t.data.toList)).length ≤ 12 * 12 := Nat.mul_le_mul l2 l1'
      have m3 : 0 < (toB (pV s.data.toList)).length * (toB (pV t.data.toList)).length := Nat.mul_pos (List.length_pos_iff.2 l3) (List.length_pos_iff.2 l3')
      have hE := EP_or_mul (EP_bitAt (toB (pU s.data.toList)) (toB (pV s.data.toList)) l3) (EP_bitAt (toB (pU t.data.toList)) (toB (pV t.data.toList)) l3')
      go_wp2_with fail
      refine (sEither_yes s t W hs ht hok hok').mono ?_
      rintro e w4 ⟨⟨x, y, rfl, hn⟩, hb4⟩
      obtain ⟨a0, a1, _, _⟩ := hBs.below hb4 hK1
      obtain ⟨b0, b1, _, _⟩ := hBt.below hb4 hK2
      have hz4 := hb4.size
      have hn2 := hn.congr fun n => (bitAt_tab hE n).symm
      have htn : tab (fun n => bitAt (toB (pU s.data.toList)) (toB (pV s.data.toList)) n || bitAt (toB (pU t.data.toList)) (toB (pV t.data.toList)) n) (max (toB (pU s.data.toList)).length (toB (pU t.data.toList)).length) ((toB (pV s.data.toList)).length * (toB (pV t.data.toList)).length) ≠ [] := by
        intro h
        have := congrArg List.length h
        rw [tab_length] at this; simp only [List.length_nil] at this; omega
      go_wp2_with fail
      refine (rEither_any _ _ _ _ w4 l3 l3' (by omega) (by omega) (by omega) (by omega)).mono ?_
      rintro e w5 ⟨rfl, hb5⟩
      have hz5 := hb5.size
      go_wp2_with fail
      refine (told_any x y _ _ _ _ _ hn2 rfl rfl htn (by rw [tab_length]; omega) (by rw [tab_length]; omega)).mono ?_
      rintro e w6 ⟨rfl, hb6⟩
      go_wp2
      go_ret
      exact ⟨rfl, (((hbW.trans (hb4.mono hWz)).trans (hb5.mono (by omega))).alloc (by omega) _).trans (hb6.mono (by simp; omega))⟩
  · cases hok : okW s.data.toList
    · go_wp2_with fail
      refine (sOn_no s t W hs ht (.inl hok)).mono ?_
      rintro e w4 ⟨rfl, hb4⟩
      go_wp2
      go_ret
      exact ⟨rfl, hbW.trans (hb4.mono hWz)⟩
    cases hok' : okW t.data.toList
    · go_wp2_with fail
      refine (sOn_no s t W hs ht (.inr hok')).mono ?_
      rintro e w4 ⟨rfl, hb4⟩
      go_wp2
      go_ret
      exact ⟨rfl, hbW.trans (hb4.mono hWz)⟩
    · obtain ⟨rfl, rfl⟩ := hUV.out hok
      obtain ⟨rfl, rfl⟩ := hXY.out hok'
      obtain ⟨_, l1, l2, l3⟩ := okW_len hok
      obtain ⟨_, l1', l2', l3'⟩ := okW_len hok'
      have m1 : (toB (pV s.data.toList)).length * (toB (pV t.data.toList)).length ≤ 12 * 12 := Nat.mul_le_mul l2 l2'
      have m2 : (toB (pV s.data.toList)).length * (toB (pU t.data.toList)).length ≤ 12 * 12 := Nat.mul_le_mul l2 l1'
      have m3 : 0 < (toB (pV s.data.toList)).length * (toB (pV t.data.toList)).length := Nat.mul_pos (List.length_pos_iff.2 l3) (List.length_pos_iff.2 l3')
      have hE := EP_on_mul (u := (toB (pU s.data.toList))) (x := (toB (pU t.data.toList))) l3 l3'
      go_wp2_with fail
      refine (sOn_yes s t W hs ht hok hok').mono ?_
      rintro e w4 ⟨⟨x, y, rfl, hn⟩, hb4⟩
      obtain ⟨a0, a1, _, _⟩ := hBs.below hb4 hK1
      obtain ⟨b0, b1, _, _⟩ := hBt.below hb4 hK2
      have hz4 := hb4.size
      have hn2 := hn.congr fun n => (bitAt_tab hE n).symm
      have htn : tab (onS (bitAt (toB (pU s.data.toList)) (toB (pV s.data.toList))) (bitAt (toB (pU t.data.toList)) (toB (pV t.data.toList)))) ((toB (pU s.data.toList)).length + (toB (pV s.data.toList)).length * (toB (pU t.data.toList)).length) ((toB (pV s.data.toList)).length * (toB (pV t.data.toList)).length) ≠ [] := by
        intro h
        have := congrArg List.length h
        rw [tab_length] at this; simp only [List.length_nil] at this; omega
      go_wp2_with fail
      refine (rOn_any _ _ _ _ w4 l3 l3' (by omega) (by omega) (by omega) (by omega)).mono ?_
      rintro e w5 ⟨rfl, hb5⟩
      have hz5 := hb5.size
      go_wp2_with fail
      refine (told_any x y _ _ _ _ _ hn2 rfl rfl htn (by rw [tab_length]; omega) (by rw [tab_length]; omega)).mono ?_
      rintro e w6 ⟨rfl, hb6⟩
      go_wp2
      go_ret
      exact ⟨rfl, (((hbW.trans (hb4.mono hWz)).trans (hb5.mono (by omega))).alloc (by omega) _).trans (hb6.mono (by simp; omega))⟩
  · cases hok : okW s.data.toList
    · go_wp2_with fail
      refine (sAhead_no s t W hs ht (.inl hok)).mono ?_
      rintro e w4 ⟨rfl, hb4⟩
      go_wp2
      go_ret
      exact ⟨rfl, hbW.trans (hb4.mono hWz)⟩
    cases hok' : okW t.data.toList
    · go_wp2_with fail
      refine (sAhead_no s t W hs ht (.inr hok')).mono ?_
      rintro e w4 ⟨rfl, hb4⟩
      go_wp2
      go_ret
      exact ⟨rfl, hbW.trans (hb4.mono hWz)⟩
    · obtain ⟨rfl, rfl⟩ := hUV.out hok
      obtain ⟨rfl, rfl⟩ := hXY.out hok'
      obtain ⟨_, l1, l2, l3⟩ := okW_len hok
      obtain ⟨_, l1', l2', l3'⟩ := okW_len hok'
      have m1 : (toB (pV s.data.toList)).length * (toB (pV t.data.toList)).length ≤ 12 * 12 := Nat.mul_le_mul l2 l2'
      have m2 : (toB (pV s.data.toList)).length * (toB (pU t.data.toList)).length ≤ 12 * 12 := Nat.mul_le_mul l2 l1'
      have m3 : 0 < (toB (pV s.data.toList)).length * (toB (pV t.data.toList)).length := Nat.mul_pos (List.length_pos_iff.2 l3) (List.length_pos_iff.2 l3')
      go_wp2_with fail
      refine (sAhead_yes s t W hs ht hok hok').mono ?_
      rintro e w4 ⟨⟨q, rfl, hq⟩, hb4⟩
      obtain ⟨a0, a1, _, _⟩ := hBs.below hb4 hK1
      obtain ⟨b0, b1, _, _⟩ := hBt.below hb4 hK2
      have hz4 := hb4.size
      go_wp2_with fail
      refine (rAhead_any _ _ _ _ w4 l3 l3' (by omega) (by omega) (by omega) (by omega)).mono ?_
      rintro e w5 ⟨⟨q', rfl, hq'⟩, hb5⟩
      have hqq : q = q' := by
        rw [Bool.eq_iff_iff, hq.out, hq'.out]; exact Iff.rfl
      subst hqq
      clear hq hq' a0 a1 b0 b1
      cases q
      all_goals
        go_wp2
        go_ret
        exact ⟨rfl, (hbW.trans (hb4.mono hWz)).trans (hb5.mono (by omega))⟩
  · cases hok : okW s.data.toList
    · go_wp2_with fail
      refine (sSize_no s t W hs ht (.inl hok)).mono ?_
      rintro e w4 ⟨rfl, hb4⟩
      go_wp2
      go_ret
      exact ⟨rfl, hbW.trans (hb4.mono hWz)⟩
    cases hok' : okW t.data.toList
    · go_wp2_with fail
      refine (sSize_no s t W hs ht (.inr hok')).mono ?_
      rintro e w4 ⟨rfl, hb4⟩
      go_wp2
      go_ret
      exact ⟨rfl, hbW.trans (hb4.mono hWz)⟩
    · obtain ⟨rfl, rfl⟩ := hUV.out hok
      obtain ⟨rfl, rfl⟩ := hXY.out hok'
      obtain ⟨_, l1, l2, l3⟩ := okW_len hok
      obtain ⟨_, l1', l2', l3'⟩ := okW_len hok'
      have m1 : (toB (pV s.data.toList)).length * (toB (pV t.data.toList)).length ≤ 12 * 12 := Nat.mul_le_mul l2 l2'
      have m2 : (toB (pV s.data.toList)).length * (toB (pU t.data.toList)).length ≤ 12 * 12 := Nat.mul_le_mul l2 l1'
      have m3 : 0 < (toB (pV s.data.toList)).length * (toB (pV t.data.toList)).length := Nat.mul_pos (List.length_pos_iff.2 l3) (List.length_pos_iff.2 l3')
      have v1 := List.length_pos_iff.2 l3
      have v2 := List.length_pos_iff.2 l3'
      go_wp2_with fail
      refine (sSize_yes s t W hs ht hok hok').mono ?_
      rintro e w4 ⟨⟨z, k, rfl, hzk⟩, hb4⟩
      obtain ⟨a0, a1, _, _⟩ := hBs.below hb4 hK1
      obtain ⟨b0, b1, _, _⟩ := hBt.below hb4 hK2
      have hz4 := hb4.size
      go_wp2_with fail
      refine (rAdapts_any _ _ _ _ w4 l3 l3' (by omega) (by omega) (by omega) (by omega)).mono ?_
      rintro e w5 ⟨⟨q, rfl, hq⟩, hb5⟩
      have hz5 := hb5.size
      rcases hzk.out with ⟨rfl, had, hmo⟩ | ⟨rfl, hno, rfl⟩
      · have hq1 : q = true := hq.out.2 had
        subst hq1
        obtain ⟨c0, c1, _, _⟩ := (hBs.below hb4 hK1).below hb5 (by omega)
        obtain ⟨d0, d1, _, _⟩ := (hBt.below hb4 hK2).below hb5 (by omega)
        have hme := hmo.unique (most_of l3 l3' (Nat.dvd_mul_right _ _) (Nat.dvd_mul_left _ _) m3 had)
        have HME : Hid _ := hme
        clear hme hmo had hzk hq a0 a1 b0 b1
        go_wp2_with fail
        refine (rSize_any _ _ _ _ w5 l3 l3' (by omega) (by omega) (by omega) (by omega)).mono ?_
        rintro e w6 ⟨rfl, hb6⟩
        rw [← HME.out]
        go_wp2
        go_ret
        exact ⟨rfl, ((hbW.trans (hb4.mono hWz)).trans (hb5.mono (by omega))).trans (hb6.mono (by omega))⟩
      · have hq1 : q = false := by
          cases q
          · rfl
          · exact absurd (hq.out.1 rfl) hno
        subst hq1
        clear hno hzk hq a0 a1 b0 b1
        go_wp2
        go_ret
        exact ⟨rfl, (hbW.trans (hb4.mono hWz)).trans (hb5.mono (by omega))⟩
end Go.Proofs.Ytfbkjopidjojeaa
