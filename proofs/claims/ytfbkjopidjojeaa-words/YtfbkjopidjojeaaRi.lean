/-
  Walks over package streamsref, part i: Parse.
-/
import Derived.Test.YtfbkjopidjojeaaRh
namespace Go.Proofs.Ytfbkjopidjojeaa
open Go.RowKit

/-- What Parse of the reference gives. -/
def RParseIs (s : ByteArray) (e : Ending) : Prop := ∃ x y : ByteArray, e = .returned (.tuple #[.agg #[.string x, .string y], .bool (okW s.data.toList)]) ∧ Hid (okW s.data.toList = true → x = bs (toB (pU s.data.toList)) ∧ y = bs (toB (pV s.data.toList)))

theorem foN_hit {s : ByteArray} {k : Nat} (h : k < s.size) (hk : k ≤ foN s.data.toList) (h1 : ((s[k].toNat : Int) == 40) = true) : foN s.data.toList = k := by
  have e := fo_hit h hk h1
  unfold fo at e
  by_cases g : foN s.data.toList < s.data.toList.length
  · rw [if_pos g] at e; omega
  · rw [if_neg g] at e; omega
theorem neq_beq {a : Int} (h : (a != 40) = false) : (a == 40) = true := by simpa using h
theorem neq_beq' {a : Int} (h : (a != 40) = true) : (a == 40) = false := by simpa using h

theorem parts_of {s : ByteArray} {k : Nat} (hk : foN s.data.toList = k) (h3 : k + 3 ≤ s.size) (hl : s[s.size - 1]'(by omega) = 41) :
    okW s.data.toList = (decide ((s.extract 0 k).size ≤ 12) && allBits (s.extract 0 k).data.toList && (decide ((s.extract (k + 1) (s.size - 1)).size ≤ 12) && allBits (s.extract (k + 1) (s.size - 1)).data.toList)) := by
  rw [okW_eq hk, last_get (by omega), hl, ext_toList, ext_toList]
  have e1 : (s.extract 0 k).size = (s.data.toList.take k).length := by rw [List.length_take]; simp
  have e2 : (s.extract (k + 1) (s.size - 1)).size = ((s.data.toList.drop (k + 1)).take (s.size - 1 - (k + 1))).length := by rw [List.length_take, List.length_drop]; simp; omega
  rw [e1, e2]
  simp [isP, h3]
theorem words_of {s : ByteArray} {k : Nat} (hk : foN s.data.toList = k) (h : okW s.data.toList = true) : s.extract 0 k = bs (toB (pU s.data.toList)) ∧ s.extract (k + 1) (s.size - 1) = bs (toB (pV s.data.toList)) := by
  have e0 := okW_eq hk
  rw [h] at e0
  have e0' := e0.symm
  simp only [Bool.and_eq_true] at e0'
  obtain ⟨⟨_, p1⟩, p2⟩ := e0'
  have hl : s.data.toList.length = s.size := by simp
  constructor
  · apply WideShapes.bytes_inj
    rw [ext_toList, bs_toList, pU, hk, toB_bb (isP_bits p1).1]
    simp
  · apply WideShapes.bytes_inj
    have e : s.data.toList.length - k - 2 = s.size - 1 - (k + 1) := by omega
    rw [ext_toList, bs_toList, pV, hk, e, toB_bb (isP_bits p2).1]

/-- The world behind the place for the result. -/
def P1 (w : World) : World := w.alloc (Obj.cells #[Value.string ⟨#[]⟩, Value.string ⟨#[]⟩] 39)

set_option maxRecDepth 50000 in
set_option maxHeartbeats 1000000 in
theorem rParse_any (s : ByteArray) (w : World) (hs : s.size ≤ maxLen) :
    Calls Try.prog 20 #[.string s] w fun e w' => RParseIs s e ∧ Below w.heap.size w w' := by
  unfold maxLen at hs
  go_enter Try.func20, Try.ntmps20
  go_wp2
  go_loop [4] (fun i => ∃ k : Nat, k ≤ s.size ∧ i = .int .i64 k ∧ k ≤ foN s.data.toList) (fun i => s.size - (intOf i).toNat)
  case atStart => exact ⟨0, Nat.zero_le _, rfl, Nat.zero_le _⟩
  case round =>
    obtain ⟨k, hk, rfl, hf⟩ := hrel
    by_cases hlt : k < s.size
    · by_cases hc : ((s[k].toNat : Int) == 40) = true
      · have hF : Hid (foN s.data.toList = k) := foN_hit hlt hf hc
        have hc' : ((s[k].toNat : Int) != 40) = false := by simpa using hc
        have hlast : s.size - 1 < s.size := by omega
        by_cases h41 : ((s[s.size - 1].toNat : Int) != 41) = true
        · have hno : Hid (okW s.data.toList = false) := no_end hF.out hlast h41
          go_wp2
          exact bodyPost_ret (v := .tuple #[.agg #[.string ⟨#[]⟩, .string ⟨#[]⟩], .bool false]) (by simp [results, Try.results20, go_sem]) rfl ⟨⟨⟨#[]⟩, ⟨#[]⟩, by rw [hno.out], fun h => by rw [hno.out] at h; cases h⟩, (Below.refl _ _).alloc (Nat.le_refl _) _⟩
        · by_cases h3 : s.size - k < 3
          · have hno : Hid (okW s.data.toList = false) := by
              show _ = _
              rw [okW_eq hF.out, show decide (k + 3 ≤ s.size) = false by simp; omega]; rfl
            have h41' : ((s[s.size - 1].toNat : Int) != 41) = false := by simpa using h41
            go_wp2
            exact bodyPost_ret (v := .tuple #[.agg #[.string ⟨#[]⟩, .string ⟨#[]⟩], .bool false]) (by simp [results, Try.results20, go_sem]) rfl ⟨⟨⟨#[]⟩, ⟨#[]⟩, by rw [hno.out], fun h => by rw [hno.out] at h; cases h⟩, (Below.refl _ _).alloc (Nat.le_refl _) _⟩
          · have h41' : ((s[s.size - 1].toNat : Int) != 41) = false := by simpa using h41
            have hle : s[s.size - 1] = 41 := by
              apply UInt8.toNat_inj.1
              simp at h41'
              have e : (41 : UInt8).toNat = 41 := rfl
              omega
            have HOK : Hid _ := parts_of hF.out (by omega) hle
            have HWD : Hid _ := words_of hF.out
            clear hle h41
            have hkn : ((k : Int) == (s.size : Int)) = false := by simp; omega
            have h3' : ¬ (s.size : Int) - (k : Int) < 3 := by omega
            have b1 : (0 : Int) ≤ (k : Int) := by omega
            have b2 : (k : Int) ≤ (s.size : Int) := by omega
            have b3 : (k : Int) + 1 ≤ (s.size : Int) - 1 := by omega
            have b4 : (s.size : Int) - 1 ≤ (s.size : Int) := by omega
            go_wp2_with fail
            go_region
            go_wp2_with fail
            have hUs : (s.extract 0 k).size ≤ s.size := by simp; omega
            have hVs : (s.extract (k + 1) (s.size - 1)).size ≤ s.size := by simp; omega
            generalize s.extract 0 k = U at *
            generalize s.extract (k + 1) (s.size - 1) = V at *
            refine (rbits_any U _ (by unfold maxLen; omega)).mono ?_
            rintro e w1 ⟨rfl, hw1⟩
            subst w1
            go_wp2_with fail
            refine (rbits_any V _ (by unfold maxLen; omega)).mono ?_
            rintro e w1 ⟨rfl, hw1⟩
            subst w1
            cases hp : allBits U.data.toList
            · have e : (decide (U.size ≤ 12) && allBits U.data.toList && (decide (V.size ≤ 12) && allBits V.data.toList)) = false := by rw [hp]; simp
              rw [e] at HOK
              clear e
              go_wp2
              go_region
              go_wp2
              exact bodyPost_ret (v := .tuple #[.agg #[.string U, .string V], .bool false]) (by simp [results, Try.results20, go_sem]) rfl ⟨⟨U, V, by rw [HOK.out], HWD⟩, ((((Below.refl w.heap.size w).alloc (Nat.le_refl _) _).alloc (by simp) _).drew).drew⟩
            cases hq : allBits V.data.toList
            · have e : (decide (U.size ≤ 12) && allBits U.data.toList && (decide (V.size ≤ 12) && allBits V.data.toList)) = false := by rw [hp, hq]; simp
              rw [e] at HOK
              clear e
              go_wp2
              go_region
              go_wp2
              exact bodyPost_ret (v := .tuple #[.agg #[.string U, .string V], .bool false]) (by simp [results, Try.results20, go_sem]) rfl ⟨⟨U, V, by rw [HOK.out], HWD⟩, ((((Below.refl w.heap.size w).alloc (Nat.le_refl _) _).alloc (by simp) _).drew).drew⟩
            by_cases l1 : U.size ≤ 12
            · have i1 : decide ((U.size : Int) ≤ 12) = true := by simp; omega
              by_cases l2 : V.size ≤ 12
              · have i2 : decide ((V.size : Int) ≤ 12) = true := by simp; omega
                have e : (decide (U.size ≤ 12) && allBits U.data.toList && (decide (V.size ≤ 12) && allBits V.data.toList)) = true := by rw [hp, hq, decide_eq_true l1, decide_eq_true l2]; rfl
                rw [e] at HOK
                clear e
                go_wp2
                go_region
                go_wp2
                exact bodyPost_ret (v := .tuple #[.agg #[.string U, .string V], .bool true]) (by simp [results, Try.results20, go_sem]) rfl ⟨⟨U, V, by rw [HOK.out], HWD⟩, ((((Below.refl w.heap.size w).alloc (Nat.le_refl _) _).alloc (by simp) _).drew).drew⟩
              · have i2 : decide ((V.size : Int) ≤ 12) = false := by simp; omega
                have e : (decide (U.size ≤ 12) && allBits U.data.toList && (decide (V.size ≤ 12) && allBits V.data.toList)) = false := by rw [hp, hq, decide_eq_false l2]; simp
                rw [e] at HOK
                clear e
                go_wp2
                go_region
                go_wp2
                exact bodyPost_ret (v := .tuple #[.agg #[.string U, .string V], .bool false]) (by simp [results, Try.results20, go_sem]) rfl ⟨⟨U, V, by rw [HOK.out], HWD⟩, ((((Below.refl w.heap.size w).alloc (Nat.le_refl _) _).alloc (by simp) _).drew).drew⟩
            · have i1 : decide ((U.size : Int) ≤ 12) = false := by simp; omega
              have e : (decide (U.size ≤ 12) && allBits U.data.toList && (decide (V.size ≤ 12) && allBits V.data.toList)) = false := by rw [hp, hq, decide_eq_false l1]; simp
              rw [e] at HOK
              clear e
              go_wp2
              go_region
              go_wp2
              exact bodyPost_ret (v := .tuple #[.agg #[.string U, .string V], .bool false]) (by simp [results, Try.results20, go_sem]) rfl ⟨⟨U, V, by rw [HOK.out], HWD⟩, ((((Below.refl w.heap.size w).alloc (Nat.le_refl _) _).alloc (by simp) _).drew).drew⟩
      · have hc' : ((s[k].toNat : Int) != 40) = true := by simpa using hc
        go_wp2
        go_round
        case rel => exact ⟨k + 1, by omega, by go_num, fo_miss hlt hf (by simpa using hc)⟩
        case measure => simp [intOf]; omega
    · have hke : k = s.size := by omega
      subst hke
      have hno : Hid (okW s.data.toList = false) := by
        show _ = _
        have := foN_le s.data.toList
        have hl : s.data.toList.length = s.size := by simp
        exact no_short (k := s.size) (by omega) (by omega)
      go_wp2
      exact bodyPost_ret (v := .tuple #[.agg #[.string ⟨#[]⟩, .string ⟨#[]⟩], .bool false]) (by simp [results, Try.results20, go_sem]) rfl ⟨⟨⟨#[]⟩, ⟨#[]⟩, by rw [hno.out], fun h => by rw [hno.out] at h; cases h⟩, (Below.refl _ _).alloc (Nat.le_refl _) _⟩
end Go.Proofs.Ytfbkjopidjojeaa
