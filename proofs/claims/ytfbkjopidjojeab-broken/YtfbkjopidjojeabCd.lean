/-
  Walks over package source: numbers.
-/
import Derived.Test.YtfbkjopidjojeabCc
namespace Go.Proofs.Ytfbkjopidjojeab
open Go.RowKit

theorem digN_snoc (l : List UInt8) (c : UInt8) : digN (l ++ [c]) = digN l * 10 + ((c.toNat : Int) - 48) := by simp [digN]
theorem isDig_bd {c : UInt8} (h : isDig c = true) : (48 : Int) ≤ (c.toNat : Int) ∧ (c.toNat : Int) ≤ 57 := by
  simp [isDig] at h; omega
theorem digN_bd (l : List UInt8) : ∀ k, k ≤ l.length → (∀ c ∈ l.take k, isDig c = true) → 0 ≤ digN (l.take k) ∧ digN (l.take k) < (10 : Int) ^ k := by
  intro k
  induction k with
  | zero => intro _ _; simp [digN]
  | succ k ih =>
    intro hk h
    rw [take_one (by omega)] at h ⊢
    obtain ⟨i1, i2⟩ := ih (by omega) (fun c hc => h c (List.mem_append_left _ hc))
    have hd := isDig_bd (h l[k] (List.mem_append_right _ (List.mem_singleton.2 rfl)))
    rw [digN_snoc, Int.pow_succ]
    omega
theorem pow_small {k : Nat} (h : k ≤ 9) : (10 : Int) ^ k ≤ 1000000000 := by
  have : k = 0 ∨ k = 1 ∨ k = 2 ∨ k = 3 ∨ k = 4 ∨ k = 5 ∨ k = 6 ∨ k = 7 ∨ k = 8 ∨ k = 9 := by omega
  rcases this with rfl | rfl | rfl | rfl | rfl | rfl | rfl | rfl | rfl | rfl <;> decide
theorem digN_small {l : List UInt8} {k : Nat} (hk : k < l.length) (h10 : l.length ≤ 10) (h : ∀ c ∈ l.take k, isDig c = true) : 0 ≤ digN (l.take k) ∧ digN (l.take k) < 1000000000 := by
  obtain ⟨h1, h2⟩ := digN_bd l k (by omega) h
  have := pow_small (k := k) (by omega)
  exact ⟨h1, by omega⟩
theorem digN_all {l : List UInt8} (h : okD l = true) : 0 ≤ digN l ∧ digN l < 10000000000 := by
  simp only [okD, Bool.and_eq_true, decide_eq_true_eq, List.all_eq_true] at h
  have e : l.take (l.length - 1 + 1) = l := List.take_of_length_le (by omega)
  rw [take_one (by omega)] at e
  have hm : ∀ c ∈ l.take (l.length - 1), isDig c = true := fun c hc => h.2 c (List.mem_of_mem_take hc)
  obtain ⟨h1, h2⟩ := digN_small (l := l) (k := l.length - 1) (by omega) (by omega) hm
  have hd := isDig_bd (h.2 (l[l.length - 1]'(by omega)) (List.getElem_mem _))
  rw [← e, digN_snoc]
  omega
theorem okD_no {l : List UInt8} (h : l.length = 0 ∨ 10 < l.length) : okD l = false := by
  simp [okD]; omega
theorem okD_bad {l : List UInt8} {c : UInt8} (h : c ∈ l) (hc : isDig c = false) : okD l = false := by
  have : l.all isDig = false := by rw [List.all_eq_false]; exact ⟨c, h, by simp [hc]⟩
  simp [okD, this]
theorem okD_yes {l : List UInt8} (h0 : 0 < l.length) (h10 : l.length ≤ 10) (h : ∀ c ∈ l, isDig c = true) : okD l = true := by
  simp only [okD, Bool.and_eq_true, decide_eq_true_eq, List.all_eq_true]
  exact ⟨⟨h0, h10⟩, h⟩

/-- The number that a piece is. -/
def NumIs (l : List UInt8) (e : Ending) : Prop := e = .returned (.tuple #[.int .i64 ((numL l).getD 0), .bool (numL l).isSome])
theorem num_no {l : List UInt8} (h : numL l = none) : NumIs l (.returned (.tuple #[.int .i64 0, .bool false])) := by simp [NumIs, h]
theorem num_yes {l : List UInt8} {n x : Int} (h : numL l = some n) (e : x = n) : NumIs l (.returned (.tuple #[.int .i64 x, .bool true])) := by subst e; simp [NumIs, h]
theorem numL_plain {l : List UInt8} {c : UInt8} (h : l[0]? = some c) (hc : ¬ (c.toNat : Int) = 45) : numL l = if okD l then some (digN l) else none := by
  cases l with
  | nil => simp at h
  | cons a r =>
    simp at h; subst h
    have : (a == 45) = false := by
      rw [beq_eq_false_iff_ne]; intro e; apply hc; rw [e]; rfl
    simp [numL, this]
theorem numL_minus {l : List UInt8} {c : UInt8} (h : l[0]? = some c) (hc : (c.toNat : Int) = 45) : numL l = if okD (l.drop 1) then some (-digN (l.drop 1)) else none := by
  cases l with
  | nil => simp at h
  | cons a r =>
    simp at h; subst h
    have : (a == 45) = true := by
      rw [beq_iff_eq]; apply UInt8.toNat_inj.1; show a.toNat = 45; omega
    simp [numL, this]

set_option maxRecDepth 50000 in
set_option maxHeartbeats 1000000 in
theorem readNumber_empty (s : ByteArray) (w : World) (h0 : s.toList.isEmpty = true) :
    Calls Try.prog 95 #[.string s] w fun e w' => NumIs s.data.toList e ∧ Below w.heap.size w w' := by
  have hlt : s.toList = s.data.toList := ByteArray.toList_eq _
  have HN := num_no (l := s.data.toList) (by rw [hlt] at h0; rw [List.isEmpty_iff.1 h0]; rfl)
  clear hlt
  go_enter Try.func95, Try.ntmps95
  go_wp2
  go_ret2
  exact ⟨HN, Below.refl _ _⟩

set_option maxRecDepth 50000 in
set_option maxHeartbeats 1000000 in
theorem readNumber_plain (s : ByteArray) (w : World) (hs : s.size ≤ 1048576) (h0 : s.toList.isEmpty = false) (hpos : 0 < s.size) (hc : ¬ (s[0].toNat : Int) = 45) :
    Calls Try.prog 95 #[.string s] w fun e w' => NumIs s.data.toList e ∧ Below w.heap.size w w' := by
  have hl : s.data.toList.length = s.size := by simp
  have g0 : s.data.toList[0]? = some s[0] := by rw [List.getElem?_eq_getElem (by omega), get_toList _ _ hpos]
  have HE : Hid (numL s.data.toList = if okD (s.data.toList) then some (digN s.data.toList) else none) := numL_plain g0 hc
  have hDl : s.data.toList = s.data.toList := rfl
  have HL : Hid (s.data.toList = s.data.toList) := hDl
  have HS : Hid (s.data.toList.length = s.size) := by show s.data.toList.length = s.size; simp
  have hDs := hs
  have hDt : s.toList = s.data.toList := ByteArray.toList_eq _
  clear hDl g0 hl
  by_cases h1 : s.toList.isEmpty = true
  · exfalso; rw [h0] at h1; cases h1
  have h1 := h0
  have hp1 : 0 < s.size := by
    rw [← HS.out]; rw [hDt] at h1
    cases e : s.data.toList with
    | nil => rw [e] at h1; cases h1
    | cons _ _ => simp
  clear hDt
  by_cases h10 : 10 < s.size
  · have HN := num_no (l := s.data.toList) (by rw [HE.out, if_neg]; rw [okD_no (.inr (by rw [HS.out]; exact h10))]; simp)
    go_enter Try.func95, Try.ntmps95
    go_wp2
    go_ret2
    exact ⟨HN, Below.refl _ _⟩
  go_enter Try.func95, Try.ntmps95
  go_wp2
  go_loop [6, 7] (fun x i => ∃ k : Nat, k ≤ s.size ∧ i = .int .i64 k ∧ x = .int .i64 (digN (s.data.toList.take k)) ∧ Hid (∀ c ∈ s.data.toList.take k, isDig c = true)) (fun _ i => s.size - (intOf i).toNat)
  case atStart => exact ⟨0, by omega, rfl, rfl, fun c hc => by simp at hc⟩
  case round =>
    obtain ⟨k, hk, rfl, rfl, HG⟩ := hrel
    by_cases hlt : k < s.size
    · have hkl : k < s.data.toList.length := by rw [HS.out]; exact hlt
      have hsm := digN_small hkl (by rw [HS.out]; omega) HG.out
      have ht := take_one hkl
      rw [get_toList _ _ hlt] at ht
      have HT : Hid (s.data.toList.take (k + 1) = s.data.toList.take k ++ [s[k]]) := ht
      obtain ⟨x, hx⟩ : ∃ x, x = digN (s.data.toList.take k) := ⟨_, rfl⟩
      rw [← hx] at hsm ⊢
      have HX : Hid (x = digN (s.data.toList.take k)) := hx
      obtain ⟨hx0, hx1⟩ := hsm
      clear hx ht
      by_cases q : isDig s[k] = true
      · obtain ⟨d1, d2⟩ := isDig_bd q
        go_wp2_with (go_at_call 94; refine (isDigit_any s[k] _).mono ?_; rintro e w1 ⟨rfl, hw1⟩; subst w1)
        go_round
        case rel => exact ⟨k + 1, by omega, by go_num, by rw [HT.out, digN_snoc, ← HX.out], fun c hc => by
          rw [HT.out] at hc
          rcases List.mem_append.1 hc with h | h
          · exact HG.out c h
          · rw [List.mem_singleton.1 h]; exact q⟩
        case measure => simp [intOf]; omega
      · have q : isDig s[k] = false := by simpa using q
        have HN := num_no (l := s.data.toList) (by
          rw [HE.out, if_neg]
          rw [okD_bad (c := s[k]) (by rw [← get_toList _ _ hlt]; exact List.getElem_mem _) q]; simp)
        go_wp2_with (go_at_call 94; refine (isDigit_any s[k] _).mono ?_; rintro e w1 ⟨rfl, hw1⟩; subst w1)
        go_ret2
        exact ⟨HN, Below.refl _ _⟩
    · have hke : k = s.size := by omega
      subst hke
      have ht : s.data.toList.take s.size = s.data.toList := List.take_of_length_le (by rw [HS.out]; exact Nat.le_refl _)
      rw [ht] at HG ⊢
      have hy := okD_yes (l := s.data.toList) (by rw [HS.out]; exact hp1) (by rw [HS.out]; omega) HG.out
      have hb := digN_all hy
      have hn : numL s.data.toList = some (digN s.data.toList) := by rw [HE.out, if_pos hy]
      obtain ⟨x, hx⟩ : ∃ x, x = digN s.data.toList := ⟨_, rfl⟩
      rw [← hx] at hb hn ⊢
      have HN : Hid (numL s.data.toList = some (x)) := hn
      obtain ⟨hx0, hx1⟩ := hb
      clear hx hn ht hy
      go_wp2
      go_ret2
      exact ⟨num_yes HN.out (by omega), Below.refl _ _⟩

set_option maxRecDepth 50000 in
set_option maxHeartbeats 1000000 in
theorem readNumber_minus (s : ByteArray) (w : World) (hs : s.size ≤ 1048576) (h0 : s.toList.isEmpty = false) (hpos : 0 < s.size) (hc : (s[0].toNat : Int) = 45) :
    Calls Try.prog 95 #[.string s] w fun e w' => NumIs s.data.toList e ∧ Below w.heap.size w w' := by
  have hl : s.data.toList.length = s.size := by simp
  have g0 : s.data.toList[0]? = some s[0] := by rw [List.getElem?_eq_getElem (by omega), get_toList _ _ hpos]
  have HE : Hid (numL s.data.toList = if okD (s.data.toList.drop 1) then some (-digN (s.data.toList.drop 1)) else none) := numL_minus g0 hc
  obtain ⟨D, hD, hDl⟩ : ∃ D : ByteArray, D = s.extract 1 s.size ∧ D.data.toList = s.data.toList.drop 1 := ⟨_, rfl, by rw [ext_toList, List.take_of_length_le (by simp)]⟩
  have HL : Hid (D.data.toList = s.data.toList.drop 1) := hDl
  have HS : Hid (D.data.toList.length = D.size) := by show D.data.toList.length = D.size; simp
  have hDz : D.size = s.size - 1 := by rw [← HS.out, hDl]; simp
  have hDs : D.size ≤ 1048576 := by omega
  have hDt : D.toList = D.data.toList := ByteArray.toList_eq _
  have HD := hD.symm
  clear hDl g0 hl hD
  by_cases h1 : D.toList.isEmpty = true
  · have HN := num_no (l := s.data.toList) (by rw [HE.out, if_neg]; rw [hDt] at h1; rw [← HL.out, List.isEmpty_iff.1 h1]; decide)
    clear hDt
    go_enter Try.func95, Try.ntmps95
    go_wp2
    go_ret2
    exact ⟨HN, Below.refl _ _⟩
  have h1 : D.toList.isEmpty = false := by simpa using h1
  have hp1 : 0 < D.size := by
    rw [← HS.out]; rw [hDt] at h1
    cases e : D.data.toList with
    | nil => rw [e] at h1; cases h1
    | cons _ _ => simp
  clear hDt
  by_cases h10 : 10 < D.size
  · have HN := num_no (l := s.data.toList) (by rw [HE.out, ← HL.out, if_neg]; rw [okD_no (.inr (by rw [HS.out]; exact h10))]; simp)
    go_enter Try.func95, Try.ntmps95
    go_wp2
    go_ret2
    exact ⟨HN, Below.refl _ _⟩
  go_enter Try.func95, Try.ntmps95
  go_wp2
  go_loop [6, 7] (fun x i => ∃ k : Nat, k ≤ D.size ∧ i = .int .i64 k ∧ x = .int .i64 (digN (D.data.toList.take k)) ∧ Hid (∀ c ∈ D.data.toList.take k, isDig c = true)) (fun _ i => D.size - (intOf i).toNat)
  case atStart => exact ⟨0, by omega, rfl, rfl, fun c hc => by simp at hc⟩
  case round =>
    obtain ⟨k, hk, rfl, rfl, HG⟩ := hrel
    by_cases hlt : k < D.size
    · have hkl : k < D.data.toList.length := by rw [HS.out]; exact hlt
      have hsm := digN_small hkl (by rw [HS.out]; omega) HG.out
      have ht := take_one hkl
      rw [get_toList _ _ hlt] at ht
      have HT : Hid (D.data.toList.take (k + 1) = D.data.toList.take k ++ [D[k]]) := ht
      obtain ⟨x, hx⟩ : ∃ x, x = digN (D.data.toList.take k) := ⟨_, rfl⟩
      rw [← hx] at hsm ⊢
      have HX : Hid (x = digN (D.data.toList.take k)) := hx
      obtain ⟨hx0, hx1⟩ := hsm
      clear hx ht
      by_cases q : isDig D[k] = true
      · obtain ⟨d1, d2⟩ := isDig_bd q
        go_wp2_with (go_at_call 94; refine (isDigit_any D[k] _).mono ?_; rintro e w1 ⟨rfl, hw1⟩; subst w1)
        go_round
        case rel => exact ⟨k + 1, by omega, by go_num, by rw [HT.out, digN_snoc, ← HX.out], fun c hc => by
          rw [HT.out] at hc
          rcases List.mem_append.1 hc with h | h
          · exact HG.out c h
          · rw [List.mem_singleton.1 h]; exact q⟩
        case measure => simp [intOf]; omega
      · have q : isDig D[k] = false := by simpa using q
        have HN := num_no (l := s.data.toList) (by
          rw [HE.out, ← HL.out, if_neg]
          rw [okD_bad (c := D[k]) (by rw [← get_toList _ _ hlt]; exact List.getElem_mem _) q]; simp)
        go_wp2_with (go_at_call 94; refine (isDigit_any D[k] _).mono ?_; rintro e w1 ⟨rfl, hw1⟩; subst w1)
        go_ret2
        exact ⟨HN, Below.refl _ _⟩
    · have hke : k = D.size := by omega
      subst hke
      have ht : D.data.toList.take D.size = D.data.toList := List.take_of_length_le (by rw [HS.out]; exact Nat.le_refl _)
      rw [ht] at HG ⊢
      have hy := okD_yes (l := D.data.toList) (by rw [HS.out]; exact hp1) (by rw [HS.out]; omega) HG.out
      have hb := digN_all hy
      have hn : numL s.data.toList = some (-digN D.data.toList) := by rw [HE.out, ← HL.out, if_pos hy]
      obtain ⟨x, hx⟩ : ∃ x, x = digN D.data.toList := ⟨_, rfl⟩
      rw [← hx] at hb hn ⊢
      have HN : Hid (numL s.data.toList = some (-x)) := hn
      obtain ⟨hx0, hx1⟩ := hb
      clear hx hn ht hy
      go_wp2
      go_ret2
      exact ⟨num_yes HN.out (by omega), Below.refl _ _⟩

theorem readNumber_any (s : ByteArray) (w : World) (hs : s.size ≤ 1048576) :
    Calls Try.prog 95 #[.string s] w fun e w' => NumIs s.data.toList e ∧ Below w.heap.size w w' := by
  by_cases h0 : s.toList.isEmpty = true
  · exact readNumber_empty s w h0
  have h0 : s.toList.isEmpty = false := by simpa using h0
  have hpos : 0 < s.size := by
    have hl : s.data.toList.length = s.size := by simp
    rw [← hl]; rw [ByteArray.toList_eq] at h0
    cases e : s.data.toList with
    | nil => rw [e] at h0; cases h0
    | cons _ _ => simp
  by_cases hc : (s[0].toNat : Int) = 45
  · exact readNumber_minus s w hs h0 hpos hc
  · exact readNumber_plain s w hs h0 hpos hc
end Go.Proofs.Ytfbkjopidjojeab
