/-
  Walks over package source: names and numbers.
-/
import Derived.Test.YtfbkjopidjojeabCb
namespace Go.Proofs.Ytfbkjopidjojeab
open Go.RowKit

set_option maxRecDepth 50000 in
set_option maxHeartbeats 400000 in
theorem isLetter_any (c : UInt8) (w : World) : Calls Try.prog 93 #[.int .u8 c.toNat] w fun e w' => e = .returned (.bool (isLet c)) ∧ w' = w := by
  by_cases h1 : 97 ≤ c.toNat
  · go_enter Try.func93, Try.ntmps93
    go_wp2
    all_goals go_ret
    all_goals exact ⟨ret_bool (by unfold isLet; simp [h1]; try omega), rfl⟩
  · go_enter Try.func93, Try.ntmps93
    go_wp2
    all_goals go_ret
    all_goals exact ⟨ret_bool (by unfold isLet; simp [h1]; try omega), rfl⟩

set_option maxRecDepth 50000 in
set_option maxHeartbeats 400000 in
theorem isDigit_any (c : UInt8) (w : World) : Calls Try.prog 94 #[.int .u8 c.toNat] w fun e w' => e = .returned (.bool (isDig c)) ∧ w' = w := by
  by_cases h1 : 48 ≤ c.toNat
  · go_enter Try.func94, Try.ntmps94
    go_wp2
    all_goals go_ret
    all_goals exact ⟨ret_bool (by unfold isDig; simp [h1]; try omega), rfl⟩
  · go_enter Try.func94, Try.ntmps94
    go_wp2
    all_goals go_ret
    all_goals exact ⟨ret_bool (by unfold isDig; simp [h1]; try omega), rfl⟩

/-- What '[]byte(s)' lays, as a string. -/
theorem back_string (W : World) (s : ByteArray) (cap b : Nat) (m : Nat × Nat) (hb : W.heap.size = b) : (convert 81 9 (.slice (some ⟨b, 0, none⟩) s.size cap)).run Try.prog (W.alloc (.cells (bytesRow s cap) 5 m)).drew = .ok (.string s) (W.alloc (.cells (bytesRow s cap) 5 m)).drew := by
  subst hb
  have hl : s.data.toList.length = s.size := by simp
  have := run_convert_bytes_back (P := Try.prog) (W.alloc (.cells (bytesRow s cap) 5 m)).drew 81 9 5 ⟨W.heap.size, 0, none⟩ cap s.data.toList Try.under81 Try.under5 Try.under9 (fun j hj => by
    have e : (⟨W.heap.size, 0, none⟩ : Addr).add j = ⟨W.heap.size, 0 + j, none⟩ := by unfold Addr.add; split <;> simp_all
    have e2 : (W.alloc (.cells (bytesRow s cap) 5 m)).drew.cell? ⟨W.heap.size, 0 + j, none⟩ = (bytesRow s cap)[0 + j]? := World.cell?_alloc_mark W _ _ _ _
    rw [e, e2]
    unfold bytesRow
    have hj2 : j < s.data.size := by simpa using hj
    rw [Nat.zero_add, Array.getElem?_append_left (by simpa using hj2)]
    have hj3 : s.data[j]? = some s.data[j] := Array.getElem?_eq_getElem hj2
    simp [hj3])
  rw [hl] at this
  rw [this]

/-- The name that a piece is. -/
def NameIs (l : List UInt8) (e : Ending) : Prop := e = .returned (.tuple #[.string (if okN l then S l else ⟨#[]⟩), .bool (okN l)])

theorem okN_long {l : List UInt8} (h : 6 < l.length) : okN l = false := by
  unfold okN; split
  · rfl
  · simp at h ⊢; omega
theorem okN_head {l : List UInt8} {c : UInt8} (h : l[0]? = some c) (hc : isLet c = false) : okN l = false := by
  cases l with
  | nil => rfl
  | cons a r => simp at h; subst h; simp [okN, hc]
theorem okN_bad {l : List UInt8} {c : UInt8} {k : Nat} (hk : 0 < k) (h : l[k]? = some c) (hc : isLet c = false) (hd : isDig c = false) : okN l = false := by
  cases l with
  | nil => rfl
  | cons a r =>
    obtain ⟨k, rfl⟩ : ∃ j, k = j + 1 := ⟨k - 1, by omega⟩
    rw [List.getElem?_cons_succ] at h
    have hm : c ∈ r := List.mem_of_getElem? h
    have : (r.all fun x => isLet x || isDig x) = false := by
      rw [List.all_eq_false]; exact ⟨c, hm, by simp [hc, hd]⟩
    simp [okN, this]
theorem okN_good {l : List UInt8} (h6 : l.length ≤ 6) (h2 : (l == [105, 110]) = false) (h3 : (l == [111, 117, 116]) = false) (h0 : ∃ c, l[0]? = some c ∧ isLet c = true) (hr : ∀ k c, 0 < k → l[k]? = some c → (isLet c || isDig c) = true) : okN l = true := by
  obtain ⟨c, hc, hL⟩ := h0
  cases l with
  | nil => simp at hc
  | cons a r =>
    simp at hc; subst hc
    have : (r.all fun x => isLet x || isDig x) = true := by
      rw [List.all_eq_true]; intro x hx
      obtain ⟨k, hk⟩ := List.getElem?_of_mem hx
      exact hr (k + 1) x (by omega) (by rw [List.getElem?_cons_succ]; exact hk)
    have h6' : r.length + 1 ≤ 6 := by simpa using h6
    simp [okN, this, hL, h2, h3, h6']
theorem name_no {l : List UInt8} (h : okN l = false) : NameIs l (.returned (.tuple #[.string ⟨#[]⟩, .bool false])) := by simp [NameIs, h]
theorem name_yes {s : ByteArray} (h : okN s.data.toList = true) : NameIs s.data.toList (.returned (.tuple #[.string s, .bool true])) := by simp [NameIs, h, S_of]

set_option maxRecDepth 50000 in
set_option maxHeartbeats 1000000 in
theorem readName_any (s : ByteArray) (w : World) (hs : s.size ≤ 1048576) :
    Calls Try.prog 76 #[.string s] w fun e w' => NameIs s.data.toList e ∧ Below w.heap.size w w' := by
  have hl : s.data.toList.length = s.size := by simp
  have hlt : s.toList = s.data.toList := ByteArray.toList_eq _
  have HS : Hid (s.data.toList.length = s.size) := hl
  by_cases h0 : s.toList.isEmpty = true
  · have hn : okN s.data.toList = false := by rw [hlt] at h0; rw [List.isEmpty_iff.1 h0]; rfl
    have HN := name_no hn
    clear hn hlt hl
    go_enter Try.func76, Try.ntmps76
    go_wp2
    go_ret2
    exact ⟨HN, Below.refl _ _⟩
  have h0 : s.toList.isEmpty = false := by simpa using h0
  have hpos : 0 < s.size := by
    rw [← hl]; rw [hlt] at h0
    cases e : s.data.toList with
    | nil => rw [e] at h0; cases h0
    | cons _ _ => simp
  by_cases h6 : 6 < s.size
  · have HN := name_no (okN_long (l := s.data.toList) (by omega))
    clear hlt hl
    go_enter Try.func76, Try.ntmps76
    go_wp2
    go_ret2
    exact ⟨HN, Below.refl _ _⟩
  by_cases h2 : (s.toList == [105, 110]) = true
  · have hn : okN s.data.toList = false := by rw [hlt] at h2; rw [beq_iff_eq.1 h2]; decide
    have HN := name_no hn
    clear hn hlt hl
    go_enter Try.func76, Try.ntmps76
    go_wp2
    go_ret2
    exact ⟨HN, Below.refl _ _⟩
  have h2 : (s.toList == [105, 110]) = false := by simpa using h2
  by_cases h3 : (s.toList == [111, 117, 116]) = true
  · have hn : okN s.data.toList = false := by rw [hlt] at h3; rw [beq_iff_eq.1 h3]; decide
    have HN := name_no hn
    clear hn hlt hl
    go_enter Try.func76, Try.ntmps76
    go_wp2
    go_ret2
    exact ⟨HN, Below.refl _ _⟩
  have h3 : (s.toList == [111, 117, 116]) = false := by simpa using h3
  have g0 : s.data.toList[0]? = some s[0] := by rw [List.getElem?_eq_getElem (by omega), get_toList _ _ hpos]
  have G2 : Hid ((s.data.toList == [105, 110]) = false) := by rw [hlt] at h2; exact h2
  have G3 : Hid ((s.data.toList == [111, 117, 116]) = false) := by rw [hlt] at h3; exact h3
  clear hlt
  by_cases hL : isLet s[0] = true
  · have kc := fun (wx : World) (t : ByteArray) => run_bytes_of_string (P := Try.prog) wx 9 81 5 t Try.under9 Try.under81 Try.under5
    have kb := fun (W : World) (cap : Nat) (m : Nat × Nat) => back_string W s cap W.heap.size m rfl
    have G0 : Hid (s.data.toList[0]? = some s[0]) := g0
    clear g0 hl
    go_enter Try.func76, Try.ntmps76
    go_wp2_with (go_at_call 93; refine (isLetter_any s[0] _).mono ?_; rintro e w1 ⟨rfl, hw1⟩; subst w1)
    go_loop [4] (fun i => ∃ k : Nat, 0 < k ∧ k ≤ s.size ∧ i = .int .i64 k ∧ Hid (∀ j c, 0 < j → j < k → s.data.toList[j]? = some c → (isLet c || isDig c) = true)) (fun i => s.size - (intOf i).toNat)
    case atStart => exact ⟨1, by omega, by omega, rfl, fun j c h1 h2 => by omega⟩
    case round =>
      obtain ⟨k, hk0, hk, rfl, HG⟩ := hrel
      by_cases hlt : k < s.size
      · by_cases q1 : isLet s[k] = true
        · go_wp2_with (go_at_call 93; refine (isLetter_any s[k] _).mono ?_; rintro e w1 ⟨rfl, hw1⟩; subst w1)
          go_round
          case rel => exact ⟨k + 1, by omega, by omega, by go_num, fun j c h1 h2 h3 => by
            rcases Nat.lt_or_ge j k with g | g
            · exact HG.out j c h1 g h3
            · have : j = k := by omega
              subst this
              have hh : j < s.data.toList.length := by rw [HS.out]; exact hlt
              rw [List.getElem?_eq_getElem hh, get_toList _ _ hlt] at h3
              cases h3; simp [q1]⟩
          case measure => simp [intOf]; omega
        · have q1 : isLet s[k] = false := by simpa using q1
          by_cases q2 : isDig s[k] = true
          · go_wp2_with (first
              | (go_at_call 93; refine (isLetter_any s[k] _).mono ?_; rintro e w1 ⟨rfl, hw1⟩; subst w1)
              | (go_at_call 94; refine (isDigit_any s[k] _).mono ?_; rintro e w1 ⟨rfl, hw1⟩; subst w1))
            go_round
            case rel => exact ⟨k + 1, by omega, by omega, by go_num, fun j c h1 h2 h3 => by
              rcases Nat.lt_or_ge j k with g | g
              · exact HG.out j c h1 g h3
              · have : j = k := by omega
                subst this
                have hh : j < s.data.toList.length := by rw [HS.out]; exact hlt
                rw [List.getElem?_eq_getElem hh, get_toList _ _ hlt] at h3
                cases h3; simp [q2]⟩
            case measure => simp [intOf]; omega
          · have q2 : isDig s[k] = false := by simpa using q2
            go_wp2_with (first
              | (go_at_call 93; refine (isLetter_any s[k] _).mono ?_; rintro e w1 ⟨rfl, hw1⟩; subst w1)
              | (go_at_call 94; refine (isDigit_any s[k] _).mono ?_; rintro e w1 ⟨rfl, hw1⟩; subst w1))
            go_ret2
            exact ⟨name_no (okN_bad hk0 (c := s[k]) (by rw [List.getElem?_eq_getElem (by rw [HS.out]; exact hlt), get_toList _ _ hlt]) q1 q2), Below.refl _ _⟩
      · have hke : k = s.size := by omega
        subst hke
        have hy : okN s.data.toList = true := okN_good (by rw [HS.out]; omega) G2.out G3.out ⟨_, G0.out, hL⟩ (fun j c h1 h2 => HG.out j c h1 (by
          rcases Nat.lt_or_ge j s.size with g | g
          · exact g
          · rw [List.getElem?_eq_none (by rw [HS.out]; exact g)] at h2; cases h2) h2)
        have HN := name_yes hy
        clear hy
        go_wp2
        go_ret2
        exact ⟨HN, ((Below.refl _ _).alloc (Nat.le_refl _) _).drew⟩
  · have hL : isLet s[0] = false := by simpa using hL
    have HN := name_no (okN_head g0 hL)
    clear g0 hl
    go_enter Try.func76, Try.ntmps76
    go_wp2_with (go_at_call 93; refine (isLetter_any s[0] _).mono ?_; rintro e w1 ⟨rfl, hw1⟩; subst w1)
    go_ret2
    exact ⟨HN, Below.refl _ _⟩
end Go.Proofs.Ytfbkjopidjojeab
