/-
  Walks over package streamsref, part c: Normal, Fits.
-/
import Derived.Test.YtfbkjopidjojeaaRb
namespace Go.Proofs.Ytfbkjopidjojeaa
open Go.RowKit

/-- The bits of one round are those q later. -/
def RepAt (f : Nat → Bool) (a b q : Nat) : Prop := ∀ i, a ≤ i → i < b → f i = f (i + q)
theorem EP_of_rep {f : Nat → Bool} {m L q : Nat} (hE : EP f m L) (hq : 0 < q) (h : RepAt f m (m + L) q) : EP f m q := by
  refine ⟨hq, fun n hn => ?_⟩
  have hm := Nat.mod_lt (n - m) hE.1
  have e : n = (m + (n - m) % L) + ((n - m) / L) * L := by
    have := Nat.mod_add_div (n - m) L
    rw [Nat.mul_comm] at this; omega
  have h1 := hE.mul ((n - m) / L) (m + (n - m) % L) (by omega)
  have h2 := hE.mul ((n - m) / L) (m + (n - m) % L + q) (by omega)
  have h3 := h (m + (n - m) % L) (by omega) (by omega)
  have e2 : m + (n - m) % L + q + (n - m) / L * L = n + q := by omega
  rw [← e] at h1
  rw [e2] at h2
  rw [h2, h1, h3]
/-- The least period that the first loop finds. -/
def MinP (f : Nat → Bool) (m L p : Nat) : Prop := 0 < p ∧ p ∣ L ∧ RepAt f m (m + L) p ∧ ∀ q, 0 < q → q < p → ¬ (RepAt f m (m + L) q ∧ q ∣ L)
/-- The least lead that the second loop finds. -/
def MinM (f : Nat → Bool) (m p k : Nat) : Prop := k ≤ m ∧ RepAt f k m p ∧ ∀ j, j < k → ¬ RepAt f j m p
theorem nf_min {f : Nat → Bool} {m L p k : Nat} (hE : EP f m L) (hp : MinP f m L p) (hk : MinM f m p k) : NF f (tab f 0 k) (tab f k p) := by
  obtain ⟨hp0, hpd, hpr, hpm⟩ := hp
  obtain ⟨hk0, hkr, hkm⟩ := hk
  have hEp := EP_of_rep hE hp0 hpr
  have hEk : EP f k p := by
    refine ⟨hp0, fun n hn => ?_⟩
    rcases Nat.lt_or_ge n m with g | g
    · exact (hkr n hn g).symm
    · exact hEp.2 n g
  refine ⟨?_, bitAt_tab hEk, fun m' q hq => ?_, fun m' hm' => ?_⟩
  · intro h
    have := tab_length f k p
    rw [h] at this; simp at this; omega
  · rw [tab_length]
    have h1 := hE.from hq
    have h2 := EP.gcd _ q L (Nat.le_refl _) h1 hE
    rcases Nat.lt_or_ge (Nat.gcd q L) p with g | g
    · exfalso
      exact hpm _ h2.1 g ⟨fun i h3 _ => (h2.2 i h3).symm, Nat.gcd_dvd_right _ _⟩
    · exact Nat.le_trans g (Nat.le_of_dvd hq.1 (Nat.gcd_dvd_left _ _))
  · rw [tab_length] at hm' ⊢
    rcases Nat.lt_or_ge m' k with g | g
    · exact absurd (fun i h3 _ => (hm'.2 i h3).symm) (hkm m' g)
    · exact g

/-- The world behind a box and a place for the result. -/
def R2 (w : World) (u v : List Bool) : World := (w.alloc (Obj.cells #[Value.string (bs u), Value.string (bs v)] 39)).alloc (Obj.cells #[Value.string ⟨#[]⟩, Value.string ⟨#[]⟩] 39)
theorem R2_size (w : World) (u v : List Bool) : (R2 w u v).heap.size = w.heap.size + 1 + 1 := by simp [R2]
theorem R2_below (w : World) (u v : List Bool) : Below w.heap.size w (R2 w u v) := ((Below.refl w.heap.size w).alloc (Nat.le_refl _) _).alloc (by simp) _
theorem R2_a (w : World) (u v : List Bool) : Boxed (R2 w u v) w.heap.size (bs u) (bs v) := (Boxed.new w _ (bs u) (bs v) _ rfl).alloc _
theorem R2_r (w : World) (u v : List Bool) : Boxed (R2 w u v) (w.heap.size + 1) ⟨#[]⟩ ⟨#[]⟩ := Boxed.new _ _ _ _ _ (by simp)

set_option maxRecDepth 50000 in
set_option maxHeartbeats 1000000 in
theorem rNormal_any (u v : List Bool) (w : World) (hv0 : v ≠ []) (hu : u.length ≤ 1048576) (hv : v.length ≤ 1048576) :
    Calls Try.prog 40 #[.agg #[.string (bs u), .string (bs v)]] w fun e w' => WordIs (bitAt u v) u.length v.length e ∧ Below w.heap.size w w' := by
  have hA := R2_a w u v
  have hR := R2_r w u v
  have s1 : (bs u).size = u.length := bs_size u
  have s2 : (bs v).size = v.length := bs_size v
  have hE := EP_bitAt u v hv0
  have hL0 := hE.1
  go_enter Try.func40, Try.ntmps40
  go_wp2
  go_loopw [5] (fun t wr => ∃ p : Nat, 0 < p ∧ p ≤ v.length ∧ t = .int .i64 p ∧ Hid (∀ q, 0 < q → q < p → ¬ (RepAt (bitAt u v) u.length (u.length + v.length) q ∧ q ∣ v.length)) ∧ Below (w.heap.size + 1 + 1) (R2 w u v) wr) (fun t _ => v.length - (intOf t).toNat)
  case atStart => exact ⟨1, by omega, by omega, rfl, fun q h1 h2 => by omega, Below.refl _ _⟩
  case round =>
    obtain ⟨p, hp0, hp, rfl, HF, hG⟩ := hrel
    have hsz := hG.size
    rw [R2_size] at hsz
    obtain ⟨a0, a1, _, _⟩ := hA.below hG (by omega)
    have hp1 : (1 : Int) ≤ (p : Int) := by omega
    have hcase : (p < v.length ∧ ¬ (RepAt (bitAt u v) u.length (u.length + v.length) p ∧ p ∣ v.length)) ∨ (p < v.length ∧ RepAt (bitAt u v) u.length (u.length + v.length) p ∧ p ∣ v.length) ∨ p = v.length := by
      rcases Nat.lt_or_ge p v.length with g | g
      · rcases Classical.em (RepAt (bitAt u v) u.length (u.length + v.length) p ∧ p ∣ v.length) with h | h
        · exact .inr (.inl ⟨g, h⟩)
        · exact .inl ⟨g, h⟩
      · exact .inr (.inr (by omega))
    rcases hcase with ⟨hlt, hno⟩ | ⟨hlt, hyes⟩ | hend
    · have HNO : Hid _ := hno
      clear hno
      go_wp2_with fail
      refine (rrepeats_any u v u.length (u.length + v.length) p wr hv0 hu hv (by omega) (by omega) (by omega)).mono ?_
      rintro e w1 ⟨⟨r, rfl, hr⟩, hb1⟩
      have R : Hid (∀ q, 0 < q → q < p + 1 → ¬ (RepAt (bitAt u v) u.length (u.length + v.length) q ∧ q ∣ v.length)) := by
        intro q h1 h2
        rcases Nat.lt_or_ge q p with g | g
        · exact HF.out q h1 g
        · have : q = p := by omega
          subst this; exact HNO.out
      have hG2 := hG.trans (hb1.mono (by omega))
      have hor : r = false ∨ ¬ (v.length : Int) % (p : Int) = 0 := by
        cases r
        · exact .inl rfl
        · right
          intro h
          exact HNO.out ⟨hr.out.1 rfl, Nat.dvd_of_mod_eq_zero (by omega)⟩
      clear hr HF HNO hb1 a0 a1
      cases r
      · go_wp2
        go_roundw
        case rel => exact ⟨p + 1, by omega, by omega, by go_num, R, hG2⟩
        case measure => simp [intOf]; omega
      · have hm : ¬ (v.length : Int) % (p : Int) = 0 := hor.resolve_left (by simp)
        clear hor
        go_wp2
        all_goals
          go_roundw
          case rel => exact ⟨p + 1, by omega, by omega, by go_num, R, hG2⟩
          case measure => simp [intOf]; omega
    case' inr.inl =>
      have hMin : Hid (MinP (bitAt u v) u.length v.length p) := ⟨hp0, hyes.2, hyes.1, HF.out⟩
      have hm : (v.length : Int) % (p : Int) = 0 := by have := Nat.mod_eq_zero_of_dvd hyes.2; omega
      have hyes1 : Hid _ := hyes.1
      clear hyes
      go_wp2_with fail
      refine (rrepeats_any u v u.length (u.length + v.length) p wr hv0 hu hv (by omega) (by omega) (by omega)).mono ?_
      rintro e w1 ⟨⟨r, rfl, hr⟩, hb1⟩
      have hr1 : r = true := hr.out.2 hyes1.out
      subst hr1
      have hG2 := hG.trans (hb1.mono (by omega))
      clear hr hb1 hyes1 HF hG a0 a1
    case' inr.inr =>
      have hMin : Hid (MinP (bitAt u v) u.length v.length p) := ⟨hp0, ⟨1, by omega⟩, fun i h1 _ => by rw [hend]; exact (hE.2 i h1).symm, HF.out⟩
      have hG2 := hG
      have hge : ¬ p < v.length := by omega
      clear hend HF hG a0 a1
    all_goals
      go_wp2
      clear hsz
      try clear hm
      go_loopw [7] (fun t wr => ∃ k : Nat, k ≤ u.length ∧ t = .int .i64 k ∧ Hid (∀ j, j < k → ¬ RepAt (bitAt u v) j u.length p) ∧ Below (w.heap.size + 1 + 1) (R2 w u v) wr) (fun t _ => u.length - (intOf t).toNat)
      case atStart => exact ⟨0, by omega, rfl, fun j h => by omega, hG2⟩
      case round =>
        obtain ⟨k, hk, rfl, HK, hG⟩ := hrel
        have hsz := hG.size
        rw [R2_size] at hsz
        obtain ⟨a0, a1, _, _⟩ := hA.below hG (by omega)
        have hcase : (k < u.length ∧ ¬ RepAt (bitAt u v) k u.length p) ∨ (k < u.length ∧ RepAt (bitAt u v) k u.length p) ∨ k = u.length := by
          rcases Nat.lt_or_ge k u.length with g | g
          · rcases Classical.em (RepAt (bitAt u v) k u.length p) with h | h
            · exact .inr (.inl ⟨g, h⟩)
            · exact .inl ⟨g, h⟩
          · exact .inr (.inr (by omega))
        rcases hcase with ⟨hlt, hno⟩ | ⟨hlt, hyes⟩ | hend
        · have HNO : Hid _ := hno
          clear hno
          go_wp2_with fail
          refine (rrepeats_any u v k u.length p _ hv0 hu hv (by omega) (by omega) (by omega)).mono ?_
          rintro e w1 ⟨⟨r, rfl, hr⟩, hb1⟩
          have hr1 : r = false := by
            cases r
            · rfl
            · exact absurd (hr.out.1 rfl) HNO.out
          subst hr1
          have R : Hid (∀ j, j < k + 1 → ¬ RepAt (bitAt u v) j u.length p) := by
            intro j h1
            rcases Nat.lt_or_ge j k with g | g
            · exact HK.out j g
            · have : j = k := by omega
              subst this; exact HNO.out
          have hG3 := hG.trans (hb1.mono (by omega))
          clear hr HK HNO hb1 a0 a1
          go_wp2
          go_roundw
          case rel => exact ⟨k + 1, by omega, by go_num, R, hG3⟩
          case measure => simp [intOf]; omega
        case' inr.inl =>
          have hMM : Hid (MinM (bitAt u v) u.length p k) := ⟨hk, hyes, HK.out⟩
          have hyes1 : Hid _ := hyes
          clear hyes
          go_wp2_with fail
          refine (rrepeats_any u v k u.length p _ hv0 hu hv (by omega) (by omega) (by omega)).mono ?_
          rintro e w1 ⟨⟨r, rfl, hr⟩, hb1⟩
          have hr1 : r = true := hr.out.2 hyes1.out
          subst hr1
          have hG3 := hG.trans (hb1.mono (by omega))
          clear hr hb1 hyes1 HK hG a0 a1 hsz
        case' inr.inr =>
          have hMM : Hid (MinM (bitAt u v) u.length p k) := ⟨hk, fun i h1 h2 => by omega, HK.out⟩
          have hG3 := hG
          have hge : ¬ k < u.length := by omega
          clear hend HK hG a0 a1 hsz
        all_goals
          have hsz := hG3.size
          rw [R2_size] at hsz
          obtain ⟨a0, a1, _, _⟩ := hA.below hG3 (by omega)
          have hNF := nf_min hE hMin.out hMM.out
          go_wp2_with fail
          refine (rtext_any u v 0 k _ hv0 hu hv (by omega) (by omega)).mono ?_
          rintro e w3 ⟨rfl, hb3⟩
          have hG4 := hG3.trans (hb3.mono (by omega))
          have hsz4 := hG4.size
          rw [R2_size] at hsz4
          obtain ⟨c0, c1, _, _⟩ := hA.below hG4 (by omega)
          clear hb3 hG3 a0 a1
          go_wp2_with fail
          refine (rtext_any u v k (k + p) w3 hv0 hu hv (by omega) (by omega)).mono ?_
          rintro e w4 ⟨rfl, hb4⟩
          have hG5 := hG4.trans (hb4.mono (by omega))
          have hbx := hR.below hG5 (by omega)
          obtain ⟨d0, d1, f0, f1⟩ := hbx
          clear hb4 hG4 c0 c1
          rw [Nat.add_sub_cancel_left]
          go_wp2
          have hst := Boxed.store ⟨d0, d1, f0, f1⟩ (bs (tab (bitAt u v) 0 k)) (bs (tab (bitAt u v) k p))
          have q0 := hst.c0
          have q1 := hst.c1
          exact bodyPost_ret (v := .agg #[.string (bs (tab (bitAt u v) 0 k)), .string (bs (tab (bitAt u v) k p))]) (by simp [results, Try.results40, go_sem, q0, q1]) rfl ⟨⟨_, _, rfl, hNF, by rw [tab_length]; exact hk, by rw [tab_length]; exact hp⟩,
            ((((R2_below w u v).trans (hG5.mono (by omega))).setCell (Nat.le_succ _) _).setCell (Nat.le_succ _) _)⟩
end Go.Proofs.Ytfbkjopidjojeaa
