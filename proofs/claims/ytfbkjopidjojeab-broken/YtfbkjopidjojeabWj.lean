/-
  Walks, part j: Parse of package word.
-/
import Derived.Test.YtfbkjopidjojeabWi
import Derived.Test.YtfbkjopidjojeabMe
namespace Go.Proofs.Ytfbkjopidjojeab
open Go.RowKit

/-- What Parse gives. -/
def ParseIs (l : List UInt8) (e : Ending) : Prop :=
  (okW l = false ∧ e = .returned (.tuple #[.agg #[.string ⟨#[]⟩, .string ⟨#[]⟩], .bool false])) ∨
  (okW l = true ∧ ∃ u v : List Bool, e = .returned (.tuple #[.agg #[.string (bs u), .string (bs v)], .bool true]) ∧ NF (bitAt (toB (pU l)) (toB (pV l))) u v ∧ u.length ≤ 12 ∧ v.length ≤ 12)

theorem okW_eq {s : ByteArray} {k : Nat} (hk : foN s.data.toList = k) : okW s.data.toList = (decide (k + 3 ≤ s.size) && (s.data.toList.getD (s.size - 1) 0 == 41) && isP (s.data.toList.take k) && isP ((s.data.toList.drop (k + 1)).take (s.size - 1 - (k + 1)))) := by
  unfold okW pU pV
  have hl : s.data.toList.length = s.size := by simp
  have e : s.size - k - 2 = s.size - 1 - (k + 1) := by omega
  rw [hk, hl, e]
theorem ext_toList (s : ByteArray) (a b : Nat) : (s.extract a b).data.toList = (s.data.toList.drop a).take (b - a) := by simp
theorem ext_nil {s : ByteArray} {a b : Nat} (h : (s.extract a b).toList = []) (hb : b ≤ s.size) : b ≤ a := by
  rw [ByteArray.toList_eq, ext_toList] at h
  have := congrArg List.length h
  rw [List.length_take, List.length_drop] at this
  simp at this
  omega
theorem last_get {s : ByteArray} (h : s.size - 1 < s.size) : s.data.toList.getD (s.size - 1) 0 = s[s.size - 1] := by
  rw [List.getD_eq_getElem?_getD, List.getElem?_eq_getElem (by simpa using h), Option.getD_some, get_toList s _ h]
theorem no_end {s : ByteArray} {k : Nat} (hk : foN s.data.toList = k) (h0 : s.size - 1 < s.size) (h : (((s[s.size - 1].toNat : Nat) : Int) != 41) = true) : okW s.data.toList = false := by
  have h2 : ¬ s[s.size - 1] = 41 := by
    intro e
    rw [e] at h
    exact absurd h (by decide)
  rw [okW_eq hk, last_get h0]
  simp [h2]
theorem no_round {s : ByteArray} {k : Nat} (hk : foN s.data.toList = k) (h : (s.extract (k + 1) (s.size - 1)).toList = []) : okW s.data.toList = false := by
  have := ext_nil h (by omega)
  rw [okW_eq hk, show decide (k + 3 ≤ s.size) = false by simp; omega]
  rfl
theorem no_short {s : ByteArray} {k : Nat} (hk : foN s.data.toList = k) (h : s.size - 1 ≤ k) : okW s.data.toList = false := by
  rw [okW_eq hk, show decide (k + 3 ≤ s.size) = false by simp; omega]
  rfl
theorem no_lead {s : ByteArray} {k : Nat} (hk : foN s.data.toList = k) (h : ¬ isP (s.data.toList.take k) = true) : okW s.data.toList = false := by
  rw [okW_eq hk, show isP (s.data.toList.take k) = false by simpa using h]; simp
theorem no_part {s : ByteArray} {k : Nat} (hk : foN s.data.toList = k) (h : (s.extract (k + 1) (s.size - 1)).toList.isEmpty = true ∨ (!isP ((s.data.toList.drop (k + 1)).take (s.size - 1 - (k + 1)))) = true) (h2 : ¬ (s.extract (k + 1) (s.size - 1)).toList = []) : okW s.data.toList = false := by
  rcases h with h | h
  · exact absurd (List.isEmpty_iff.1 h) h2
  · rw [okW_eq hk, show isP ((s.data.toList.drop (k + 1)).take (s.size - 1 - (k + 1))) = false by simpa using h]; simp
theorem okW_yes {s : ByteArray} {k : Nat} (hk : foN s.data.toList = k) (h0 : s.size - 1 < s.size) (h3 : (((s[s.size - 1].toNat : Nat) : Int) != 41) = false) (h2 : ¬ (s.extract (k + 1) (s.size - 1)).toList = []) (h1 : isP (s.data.toList.take k) = true) (h : (!isP ((s.data.toList.drop (k + 1)).take (s.size - 1 - (k + 1)))) = false) : okW s.data.toList = true ∧ k + 3 ≤ s.size := by
  have h4 : s[s.size - 1] = 41 := by
    apply UInt8.toNat_inj.1
    simp at h3
    have : (s[s.size - 1].toNat : Int) = 41 := h3
    have e : (41 : UInt8).toNat = 41 := rfl
    omega
  have h5 : k + 3 ≤ s.size := by
    rcases Nat.lt_or_ge (k + 1) (s.size - 1) with g | g
    · omega
    · exfalso; apply h2
      rw [ByteArray.toList_eq, ext_toList, show s.size - 1 - (k + 1) = 0 by omega, List.take_zero]
  refine ⟨?_, h5⟩
  rw [okW_eq hk, last_get h0, h4, h1, show isP ((s.data.toList.drop (k + 1)).take (s.size - 1 - (k + 1))) = true by simpa using h]
  simp [h5]

theorem isP_bits {l : List UInt8} (h : isP l = true) : allBits l = true ∧ l.length ≤ 12 := by
  unfold isP at h; simp at h; exact ⟨h.2, h.1⟩

/-- What '[]byte(s)' lays, of bits. -/
theorem row_held (W : World) (t : ByteArray) (l : List Bool) (cap b : Nat) (m : Nat × Nat) (ht : t = bs l) (hb : W.heap.size = b) : Held (W.alloc (.cells (bytesRow t cap) 5 m)).drew b 0 l := by
  subst hb
  intro i hi
  have e : (W.alloc (.cells (bytesRow t cap) 5 m)).drew.cell? ⟨W.heap.size, 0 + i, none⟩ = (bytesRow t cap)[0 + i]? := World.cell?_alloc_mark W _ _ _ _
  rw [e, ht]
  unfold bytesRow
  rw [Nat.zero_add, Array.getElem?_append_left (by simp [bs]; exact hi)]
  simp [bs, hi]

theorem normal_txt (s : ByteArray) (k N cap b m : Nat) (r : Nat × Nat) (W : World) (hb : W.heap.size = b) (h26 : s.size ≤ 26) (hk3 : k + 3 ≤ s.size) (h1 : isP (s.data.toList.take k) = true) (h2 : isP ((s.data.toList.drop (k + 1)).take (s.size - 1 - (k + 1))) = true) (hN : N = s.size - 2) (hm : m = k) (hcap : N ≤ cap) :
    Calls Try.prog 100 #[.slice (some ⟨b, 0, none⟩) N cap, .int .i64 m] (W.alloc (.cells (bytesRow (s.extract 0 k ++ s.extract (k + 1) (s.size - 1)) cap) 5 r)).drew fun e w' =>
      WordIs (bitAt (toB (s.data.toList.take k)) (toB ((s.data.toList.drop (k + 1)).take (s.size - 1 - (k + 1))))) 12 12 e ∧ Below (W.alloc (.cells (bytesRow (s.extract 0 k ++ s.extract (k + 1) (s.size - 1)) cap) 5 r)).drew.heap.size (W.alloc (.cells (bytesRow (s.extract 0 k ++ s.extract (k + 1) (s.size - 1)) cap) 5 r)).drew w' := by
  subst hm
  have hl : s.data.toList.length = s.size := by simp
  have hp : (toB (s.data.toList.take m)).length = m := by rw [toB_length, List.length_take]; omega
  have hq : (toB ((s.data.toList.drop (m + 1)).take (s.size - 1 - (m + 1)))).length = s.size - 2 - m := by rw [toB_length, List.length_take, List.length_drop]; omega
  have ht : s.extract 0 m ++ s.extract (m + 1) (s.size - 1) = bs (toB (s.data.toList.take m) ++ toB ((s.data.toList.drop (m + 1)).take (s.size - 1 - (m + 1)))) := by
    apply WideShapes.bytes_inj
    rw [bs_toList, List.map_append, toB_bb (isP_bits h1).1, toB_bb (isP_bits h2).1]
    simp
  have hn : (toB (s.data.toList.take m) ++ toB ((s.data.toList.drop (m + 1)).take (s.size - 1 - (m + 1)))).length = N := by rw [List.length_append, hp, hq]; omega
  have h := normal_any (toB (s.data.toList.take m) ++ toB ((s.data.toList.drop (m + 1)).take (s.size - 1 - (m + 1)))) m b 0 cap _ (by omega) (by omega) (by omega) (by show b < (W.alloc _).heap.size; simp; omega) (row_held W _ _ cap b r ht hb)
  rw [hn] at h
  refine h.mono fun e w' ⟨⟨u, v, he, hnf, hu, hv⟩, hbel⟩ => ⟨⟨u, v, he, ?_, ?_, ?_⟩, hbel⟩
  · rw [List.take_left' hp, List.drop_left' hp] at hnf; exact hnf
  · have := (isP_bits h1).2; rw [← toB_length, hp] at this; omega
  · have := (isP_bits h2).2; rw [← toB_length, hq] at this; omega

set_option maxRecDepth 50000 in
set_option maxHeartbeats 400000 in
theorem Parse_long (s : ByteArray) (w : World) (hs : s.size ≤ maxLen) (h26 : 26 < s.size) :
    Calls Try.prog 96 #[.string s] w fun e w' => ParseIs s.data.toList e ∧ Below w.heap.size w w' := by
  unfold maxLen at hs
  have hl : s.data.toList.length = s.size := by simp
  have hno : okW s.data.toList = false := by
    rcases h : okW s.data.toList with _ | _
    · rfl
    · have := (okW_len h).1; omega
  go_enter Try.func96, Try.ntmps96
  go_wp2
  exact bodyPost_ret (v := .tuple #[.agg #[.string ⟨#[]⟩, .string ⟨#[]⟩], .bool false]) (by simp [results, Try.results96, go_sem]) rfl ⟨.inl ⟨hno, rfl⟩, (Below.refl _ _).alloc (Nat.le_refl _) _⟩

set_option maxRecDepth 50000 in
set_option maxHeartbeats 400000 in
theorem Parse_short (s : ByteArray) (k : Nat) (w : World) (h26 : s.size ≤ 26) (hfo : k < s.size) (ef : fo s.data.toList = (k : Int)) (hk : foN s.data.toList = k) (hlast : s.size - 1 ≤ k) :
    Calls Try.prog 96 #[.string s] w fun e w' => ParseIs s.data.toList e ∧ Below w.heap.size w w' := by
  have hno := no_short hk hlast
  have HN : Hid (okW s.data.toList = false) := hno
  clear hno
  go_enter Try.func96, Try.ntmps96
  go_wp2_with (first
    | (go_at_call 105; refine (findOpen_any s _ (by unfold maxLen; omega)).mono ?_; rintro e w1 ⟨rfl, hw1⟩; subst w1))
  exact bodyPost_ret (v := .tuple #[.agg #[.string ⟨#[]⟩, .string ⟨#[]⟩], .bool false]) (by simp [results, Try.results96, go_sem]) rfl ⟨.inl ⟨HN.out, rfl⟩, (Below.refl _ _).alloc (Nat.le_refl _) _⟩

set_option maxRecDepth 50000 in
set_option maxHeartbeats 400000 in
theorem Parse_open (s : ByteArray) (w : World) (h26 : s.size ≤ 26) (hfo : ¬ foN s.data.toList < s.size) :
    Calls Try.prog 96 #[.string s] w fun e w' => ParseIs s.data.toList e ∧ Below w.heap.size w w' := by
  have hl : s.data.toList.length = s.size := by simp
  have ef : fo s.data.toList = -1 := by unfold fo; rw [if_neg (by omega)]
  have hno := no_short (s := s) rfl (by omega)
  have HN : Hid (okW s.data.toList = false) := hno
  clear hno
  go_enter Try.func96, Try.ntmps96
  go_wp2_with (first
    | (go_at_call 105; refine (findOpen_any s _ (by unfold maxLen; omega)).mono ?_; rintro e w1 ⟨rfl, hw1⟩; subst w1))
  exact bodyPost_ret (v := .tuple #[.agg #[.string ⟨#[]⟩, .string ⟨#[]⟩], .bool false]) (by simp [results, Try.results96, go_sem]) rfl ⟨.inl ⟨HN.out, rfl⟩, (Below.refl _ _).alloc (Nat.le_refl _) _⟩

set_option maxRecDepth 50000 in
set_option maxHeartbeats 400000 in
theorem Parse_mid (s : ByteArray) (k : Nat) (w : World) (h26 : s.size ≤ 26) (hfo : k < s.size) (ef : fo s.data.toList = (k : Int)) (hk : Hid (foN s.data.toList = k)) (hlast : ¬ s.size - 1 ≤ k) :
    Calls Try.prog 96 #[.string s] w fun e w' => ParseIs s.data.toList e ∧ Below w.heap.size w w' := by
  have kc := fun (wx : World) (t : ByteArray) => run_bytes_of_string (P := Try.prog) wx 9 81 5 t Try.under9 Try.under81 Try.under5
  go_enter Try.func96, Try.ntmps96
  go_wp2_with (first
    | (go_at_call 105; refine (findOpen_any s _ (by unfold maxLen; omega)).mono ?_; rintro e w1 ⟨rfl, hw1⟩; subst w1)
    | (go_at_call 106; refine (isPart_any _ _ (by unfold maxLen; simp; omega)).mono ?_; rintro e w1 ⟨rfl, hw1⟩; subst w1)
    | (go_at_call 100; fail))
  · have hh : ((k : Int) < 0 ∨ (s.size : Int) - 1 ≤ k) ∨ (((s[s.size - 1].toNat : Nat) : Int) != 41) = true := by assumption
    rcases hh with hh | hh
    · omega
    · exact bodyPost_ret (v := .tuple #[.agg #[.string ⟨#[]⟩, .string ⟨#[]⟩], .bool false]) (by simp [results, Try.results96, go_sem]) rfl ⟨.inl ⟨no_end hk.out (by omega) hh, rfl⟩, (Below.refl _ _).alloc (Nat.le_refl _) _⟩
  · exact bodyPost_ret (v := .tuple #[.agg #[.string ⟨#[]⟩, .string ⟨#[]⟩], .bool false]) (by simp [results, Try.results96, go_sem]) rfl ⟨.inl ⟨no_round hk.out (by assumption), rfl⟩, (Below.refl _ _).alloc (Nat.le_refl _) _⟩
  · exact bodyPost_ret (v := .tuple #[.agg #[.string ⟨#[]⟩, .string ⟨#[]⟩], .bool false]) (by simp [results, Try.results96, go_sem]) rfl ⟨.inl ⟨no_part hk.out (by assumption) (by assumption), rfl⟩, (Below.refl _ _).alloc (Nat.le_refl _) _⟩
  · have t3 : ((0 : Int) ≤ k ∧ (k : Int) < (s.size : Int) - 1) ∧ (((s[s.size - 1].toNat : Nat) : Int) != 41) = false := by assumption
    have t2 : ¬ (s.extract (k + 1) (s.size - 1)).toList = [] := by assumption
    have t1 : isP (s.data.toList.take k) = true := by assumption
    have t0 : (s.extract (k + 1) (s.size - 1)).toList.isEmpty = false ∧ (!isP ((s.data.toList.drop (k + 1)).take (s.size - 1 - (k + 1)))) = false := by assumption
    have hy := okW_yes hk.out (by omega) t3.2 t2 t1 t0.2
    have hcapg := grownCap_ge (w.alloc (Obj.cells #[Value.string { data := #[] }, Value.string { data := #[] }] 74)) (min k s.size + (s.size - 1 - (k + 1))) 0 5
    refine (normal_txt s k _ _ _ _ _ _ (by simp) h26 hy.2 t1 (by simpa using t0.2) (by omega) (by omega) hcapg).mono ?_
    rintro e w1 ⟨⟨u, v, rfl, hn, hu, hv⟩, hb1⟩
    have hbx := ((Boxed.new w w.heap.size ⟨#[]⟩ ⟨#[]⟩ 74 rfl).below (((Below.refl (w.heap.size + 1) _).alloc (by simp) _).drew) (by omega)).below hb1 (by show w.heap.size < (World.alloc _ _).heap.size; simp; omega)
    have hbel : Below w.heap.size w w1 := ((((Below.refl w.heap.size w).alloc (Nat.le_refl _) _).alloc (by simp) _).drew).trans (hb1.mono (by show w.heap.size ≤ (World.alloc _ _).heap.size; simp; omega))
    obtain ⟨d0, d1, e0, e1⟩ := hbx
    clear hb1 hcapg
    go_wp2
    have hst := Boxed.store ⟨d0, d1, e0, e1⟩ (bs u) (bs v)
    have q0 := hst.c0
    have q1 := hst.c1
    refine bodyPost_ret (v := .tuple #[.agg #[.string (bs u), .string (bs v)], .bool true]) (by simp [results, Try.results96, go_sem, q0, q1]) rfl ⟨.inr ⟨hy.1, u, v, rfl, ?_, hu, hv⟩, (hbel.setCell (Nat.le_refl _) _).setCell (Nat.le_refl _) _⟩
    have e : s.data.toList.length - k - 2 = s.size - 1 - (k + 1) := by rw [show s.data.toList.length = s.size by simp]; omega
    unfold pU pV
    rw [hk.out, e]; exact hn
  · exact bodyPost_ret (v := .tuple #[.agg #[.string ⟨#[]⟩, .string ⟨#[]⟩], .bool false]) (by simp [results, Try.results96, go_sem]) rfl ⟨.inl ⟨no_lead hk.out (by assumption), rfl⟩, (Below.refl _ _).alloc (Nat.le_refl _) _⟩

theorem Parse_any (s : ByteArray) (w : World) (hs : s.size ≤ maxLen) :
    Calls Try.prog 96 #[.string s] w fun e w' => ParseIs s.data.toList e ∧ Below w.heap.size w w' := by
  by_cases h26 : 26 < s.size
  · exact Parse_long s w hs h26
  · by_cases hfo : foN s.data.toList < s.size
    · have hl : s.data.toList.length = s.size := by simp
      have ef : fo s.data.toList = (foN s.data.toList : Int) := by unfold fo; rw [if_pos (by omega)]
      by_cases hlast : s.size - 1 ≤ foN s.data.toList
      · exact Parse_short s _ w (by omega) hfo ef rfl hlast
      · exact Parse_mid s _ w (by omega) hfo ef rfl hlast
    · exact Parse_open s w (by omega) hfo
end Go.Proofs.Ytfbkjopidjojeab
