/-
  Walks, part e: normal of package word.
-/
import Derived.Test.YtfbkjopidjojeabWd
namespace Go.Proofs.Ytfbkjopidjojeab
open Go.RowKit

theorem Try.under81 : Try.prog.underlying 81 = some (.slice 5) := by kernel_rfl
theorem Try.under5 : Try.prog.underlying 5 = some (.int .u8) := by kernel_rfl
theorem Try.under9 : Try.prog.underlying 9 = some .string := by kernel_rfl

theorem Held.alloc {w : World} {b off : Nat} {l : List Bool} (h : Held w b off l) (hb : b < w.heap.size) (o : Obj) : Held (w.alloc o) b off l := fun i hi => by
  rw [← h i hi]; exact ((Below.refl w.heap.size w).alloc (Nat.le_refl _) o).cell (p := ⟨b, off + i, none⟩) hb
theorem Held.below {w w' : World} {B b off : Nat} {l : List Bool} (h : Held w b off l) (hB : Below B w w') (hb : b < B) : Held w' b off l := fun i hi => by
  rw [← h i hi]; exact hB.cell (p := ⟨b, off + i, none⟩) hb
theorem Held.drop {w : World} {b off : Nat} {l : List Bool} (h : Held w b off l) (k : Nat) (hk : k ≤ l.length) : Held w b (off + k) (l.drop k) := fun i hi => by
  have h1 : k + i < l.length := by rw [List.length_drop] at hi; omega
  have := h (k + i) h1
  rw [Nat.add_assoc, this]
  congr 4
  simp
theorem Held.take {w : World} {b off : Nat} {l : List Bool} (h : Held w b off l) (k : Nat) : Held w b off (l.take k) := fun i hi => by
  have h1 : i < l.length := by rw [List.length_take] at hi; omega
  have h2 : i < k := by rw [List.length_take] at hi; omega
  rw [h i h1]
  congr 4
  simp [h2]

/-- Bytes that hold bits as a string. -/
theorem Held.string {w : World} {b off cap : Nat} {l : List Bool} (h : Held w b off l) :
    (convert 81 9 (.slice (some ⟨b, off, none⟩) l.length cap)).run Try.prog w = .ok (.string (bs l)) w := by
  have := run_convert_bytes_back (P := Try.prog) w 81 9 5 ⟨b, off, none⟩ cap (l.map bb) Try.under81 Try.under5 Try.under9 (fun j hj => by
    have hj' : j < l.length := by simpa using hj
    have e : (⟨b, off, none⟩ : Addr).add j = ⟨b, off + j, none⟩ := by unfold Addr.add; split <;> simp_all
    rw [e, h j hj', getD_lt hj']
    simp)
  rw [List.length_map] at this
  exact this

/-- From lead' on up to lead the bits are those p later. -/
def Strip (l : List Bool) (p lead k : Nat) : Prop := ∀ i, k ≤ i → i < lead → l.getD i false = l.getD (i + p) false

/-- What normal gives. -/
def Norm (l : List Bool) (lead : Nat) (e : Ending) : Prop := ∃ u v : List Bool, e = .returned (.agg #[.string (bs u), .string (bs v)]) ∧ NF (bitAt (l.take lead) (l.drop lead)) u v ∧ u.length ≤ lead ∧ v.length ≤ l.length - lead

theorem period_len (l : List Bool) (n b off cap : Nat) (w : World) (hn : l.length = n) (hl : n ≤ 1152921504606846976) (hl0 : 0 < n) (hc : Held w b off l) :
    Calls Try.prog 107 #[.slice (some ⟨b, off, none⟩) n cap] w fun e w' => Peri l e ∧ (∃ n, w' = w.drewN n) := by
  subst hn; exact period_any l b off cap w hl hl0 hc

theorem getD_drop (l : List Bool) (a i : Nat) : (l.drop a).getD i false = l.getD (a + i) false := by simp
theorem getD_take {l : List Bool} {a i : Nat} (h : i < a) : (l.take a).getD i false = l.getD i false := by simp [h]

/-- A bit of a word whose parts are cut out of one list. -/
theorem bitAt_cut {l : List Bool} {lead n : Nat} (hlead : lead < l.length) : bitAt (l.take lead) (l.drop lead) n = if n < lead then l.getD n false else l.getD (lead + (n - lead) % (l.length - lead)) false := by
  unfold bitAt
  have e1 : (l.take lead).length = lead := by rw [List.length_take]; omega
  have e2 : (l.drop lead).length = l.length - lead := by rw [List.length_drop]
  rw [e1, e2]
  by_cases h : n < lead
  · rw [if_pos h, if_pos h, getD_take h]
  · rw [if_neg h, if_neg h, getD_drop]

theorem bitAt_cut_lt {l : List Bool} {lead n : Nat} (hlead : lead < l.length) (hn : n < l.length) : bitAt (l.take lead) (l.drop lead) n = l.getD n false := by
  rw [bitAt_cut hlead]
  by_cases h : n < lead
  · rw [if_pos h]
  · rw [if_neg h, Nat.mod_eq_of_lt (by omega)]; congr 1; omega

theorem tab_eq {f : Nat → Bool} {l : List Bool} {a k : Nat} (h : ∀ i, i < k → f (a + i) = l.getD (a + i) false) (hl : a + k ≤ l.length) : tab f a k = (l.drop a).take k := by
  apply List.ext_getElem
  · rw [tab_length, List.length_take, List.length_drop]; omega
  · intro i h1 h2
    rw [tab_length] at h1
    have e : (tab f a k)[i]'(by rw [tab_length]; exact h1) = f (a + i) := by simp [tab]
    rw [e, h i h1, getD_lt (by omega)]
    simp

theorem strip_red {l : List Bool} {lead k p : Nat} (hlead : lead < l.length) (hk : k ≤ lead) (hp0 : 0 < p) (hp : p ≤ l.length - lead) (hd : p ∣ l.length - lead) (hper : Per (l.drop lead) p)
    (hmin : ∀ q, 0 < q → q < p → q ∣ l.length - lead → ¬ Per (l.drop lead) q) (hs : Strip l p lead k) (hend : ∀ j, j + 1 = k → l.getD j false ≠ l.getD (j + p) false) :
    NF (bitAt (l.take lead) (l.drop lead)) (l.take k) ((l.drop k).take p) := by
  have hdl : (l.drop lead).length = l.length - lead := by rw [List.length_drop]
  have htl : (l.take lead).length = lead := by rw [List.length_take]; omega
  have hne : l.drop lead ≠ [] := by intro h; rw [h] at hdl; simp at hdl; omega
  have hE : EP (bitAt (l.take lead) (l.drop lead)) lead p := by
    have := EP_of_Per (u := l.take lead) hp0 (by rw [hdl]; exact hd) hne hper
    rw [htl] at this; exact this
  have hE0 : EP (bitAt (l.take lead) (l.drop lead)) lead (l.length - lead) := by
    have := EP_bitAt (l.take lead) (l.drop lead) hne
    rw [htl, hdl] at this; exact this
  have hEk : EP (bitAt (l.take lead) (l.drop lead)) k p := by
    refine ⟨hp0, fun n hn => ?_⟩
    rcases Nat.lt_or_ge n lead with g | g
    · rw [bitAt_cut_lt hlead (by omega), bitAt_cut_lt hlead (by omega)]
      exact (hs n hn g).symm
    · exact hE.2 n g
  have t1 : tab (bitAt (l.take lead) (l.drop lead)) 0 k = l.take k := by
    have := tab_eq (f := bitAt (l.take lead) (l.drop lead)) (l := l) (a := 0) (k := k) (fun i hi => by rw [bitAt_cut_lt hlead (by omega)]) (by omega)
    rw [this, List.drop_zero]
  have t2 : tab (bitAt (l.take lead) (l.drop lead)) k p = (l.drop k).take p :=
    tab_eq (fun i hi => by rw [bitAt_cut_lt hlead (by omega)]) (by omega)
  have hlk : (l.take k).length = k := by rw [List.length_take]; omega
  have hlp : ((l.drop k).take p).length = p := by rw [List.length_take, List.length_drop]; omega
  refine ⟨?_, ?_, ?_, ?_⟩
  · intro h; rw [h] at hlp; simp at hlp; omega
  · intro n; rw [← t1, ← t2]; exact bitAt_tab hEk n
  · intro m q hq
    rw [hlp]
    have h1 := hE0.from hq
    have h2 := EP.gcd _ q (l.length - lead) (Nat.le_refl _) h1 hE0
    rcases Nat.lt_or_ge (Nat.gcd q (l.length - lead)) p with g | g
    · exfalso
      apply hmin _ h2.1 g (Nat.gcd_dvd_right _ _)
      apply Per_of_EP (u := l.take lead)
      rw [htl]; exact h2
    · exact Nat.le_trans g (Nat.le_of_dvd hq.1 (Nat.gcd_dvd_left _ _))
  · intro m hm
    rw [hlp] at hm; rw [hlk]
    rcases Nat.lt_or_ge m k with g | g
    · exfalso
      have e := hm.2 (k - 1) (by omega)
      rw [bitAt_cut_lt hlead (by omega), bitAt_cut_lt hlead (by omega)] at e
      exact hend (k - 1) (by omega) e.symm
    · exact g

theorem bb_ne2 {a b : Bool} (h : (((bb a).toNat : Int) == ((bb b).toNat : Int)) = false) : a ≠ b := by
  intro e; subst e; simp at h
theorem bb_eq2 {a b : Bool} (h : (((bb a).toNat : Int) == ((bb b).toNat : Int)) = true) : a = b := by
  cases a <;> cases b <;> simp_all [bb]

theorem norm_cv1 {l : List Bool} {w : World} {b off cap lead k : Nat} (HC : ∀ o, Held (w.alloc o) b off l) (hk : k ≤ lead) (hlead : lead < l.length) :
    ∀ o n, (convert 81 9 (.slice (some ⟨b, off, none⟩) k cap)).run Try.prog ((w.alloc o).drewN n) = .ok (.string (bs (l.take k))) ((w.alloc o).drewN n) := by
  intro o n
  have h := (((HC o).drewN n).take k).string (cap := cap)
  have e : (l.take k).length = k := by rw [List.length_take]; omega
  rw [e] at h; exact h
theorem norm_cv2 {l : List Bool} {w : World} {b off cap lead k p : Nat} (HC : ∀ o, Held (w.alloc o) b off l) (hk : k ≤ lead) (hlead : lead < l.length) (hp : p ≤ l.length - lead) :
    ∀ o n, (convert 81 9 (.slice (some ⟨b, off + k, none⟩) p (cap - k))).run Try.prog ((w.alloc o).drewN n) = .ok (.string (bs ((l.drop k).take p))) ((w.alloc o).drewN n) := by
  intro o n
  have h := ((((HC o).drewN n).drop k (by omega)).take p).string (cap := cap - k)
  have e : ((l.drop k).take p).length = p := by rw [List.length_take, List.length_drop]; omega
  rw [e] at h; exact h

set_option maxRecDepth 50000 in
set_option maxHeartbeats 800000 in
theorem normal_any (l : List Bool) (lead b off cap : Nat) (w : World) (hl : l.length ≤ 1152921504606846976) (hlead : lead < l.length) (hcap : l.length ≤ cap) (hb : b < w.heap.size) (hc : Held w b off l) :
    Calls Try.prog 100 #[.slice (some ⟨b, off, none⟩) l.length cap, .int .i64 lead] w fun e w' => Norm l lead e ∧ Below w.heap.size w w' := by
  have HC : Hid (∀ o, Held (w.alloc o) b off l) := fun o => hc.alloc hb o
  have HD : Hid (∀ o, Held (w.alloc o) b (off + lead) (l.drop lead)) := fun o => (hc.drop lead (by omega)).alloc hb o
  clear hc
  go_enter Try.func100, Try.ntmps100
  go_wp2_with (go_at_call 107; refine (period_len (l.drop lead) _ _ _ _ _ (by simp) (by omega) (by omega) (HD.out _)).mono ?_; rintro e w' ⟨⟨p, rfl, hp0, hp, HP⟩, nq, rfl⟩; have HP2 : Hid _ := HP; clear HP; rw [List.length_drop] at hp)
  go_loopw [1] (fun i wr => ∃ k nd : Nat, k ≤ lead ∧ i = .int .i64 k ∧ Hid (Strip l p lead k) ∧ wr = (w.alloc (Obj.cells #[Value.string { data := #[] }, Value.string { data := #[] }] 74)).drewN nd) (fun i _ => (intOf i).toNat)
  case atStart => exact ⟨lead, nq, by omega, rfl, fun i h1 h2 => by omega, rfl⟩
  case round =>
    obtain ⟨k, nd, hk, rfl, hf, rfl⟩ := hrel
    by_cases hk0 : 0 < k
    · have c1 := HC.out (Obj.cells #[Value.string { data := #[] }, Value.string { data := #[] }] 74) (k - 1) (by omega)
      have c2 := HC.out (Obj.cells #[Value.string { data := #[] }, Value.string { data := #[] }] 74) (k - 1 + p) (by omega)
      obtain ⟨x, hx⟩ : ∃ x, x = l.getD (k - 1) false := ⟨_, rfl⟩
      obtain ⟨y, hy⟩ : ∃ y, y = l.getD (k - 1 + p) false := ⟨_, rfl⟩
      rw [← hx] at c1
      rw [← hy] at c2
      have HX : Hid (x = l.getD (k - 1) false) := hx
      have HY : Hid (y = l.getD (k - 1 + p) false) := hy
      clear hx hy
      have hi1 : (0 : Int) < (k : Int) := by omega
      have hi2 : (k : Int) - 1 < (l.length : Int) := by omega
      have hi3 : (k : Int) - 1 + (p : Int) < (l.length : Int) := by omega
      go_wp2
      go_quiet (fail)
      go_wp2
      · go_roundw
        case rel =>
          have heq : (((bb x).toNat : Int) == ((bb y).toNat : Int)) = true := by assumption
          refine ⟨k - 1, nd + nq, by omega, by first | go_num | (congr 1; omega), ?_, by first | rfl | simp⟩
          intro i h1 h2
          rcases Nat.lt_or_ge i k with g | g
          · have : i = k - 1 := by omega
            subst this
            rw [← HX.out, ← HY.out]
            exact bb_eq2 heq
          · exact hf.out i g h2
        case measure => simp [intOf]; omega
      · have hne : (((bb x).toNat : Int) == ((bb y).toNat : Int)) = false := by assumption
        have hend : Hid (∀ j, j + 1 = k → l.getD j false ≠ l.getD (j + p) false) := by
          intro j hj
          have : j = k - 1 := by omega
          subst this
          rw [← HX.out, ← HY.out]
          exact bb_ne2 hne
        clear c1 c2 HX HY
        have kv1 := norm_cv1 (cap := cap) HC.out hk hlead
        have kv2 := norm_cv2 (cap := cap) HC.out hk hlead hp
        go_region
        go_wp2
        exact bodyPost_ret (v := .agg #[.string (bs (l.take k)), .string (bs ((l.drop k).take p))]) (by simp [results, Try.results100, go_sem]) rfl ⟨⟨_, _, rfl, strip_red hlead hk hp0 hp (by simpa using HP2.out.1) HP2.out.2.1 (by simpa using HP2.out.2.2) hf.out hend.out, by rw [List.length_take]; omega, by rw [List.length_take]; omega⟩,
          ((below_drewN ((Below.refl _ _).alloc (Nat.le_refl _) _) _).setCell (Nat.le_refl _) _).setCell (Nat.le_refl _) _⟩
    · have hkd : decide ((0 : Int) < (k : Int)) = false := by simp; omega
      have hend : Hid (∀ j, j + 1 = k → l.getD j false ≠ l.getD (j + p) false) := by
        intro j hj; omega
      go_wp2
      go_quiet (fail)
      go_wp2
      have kv1 := norm_cv1 (cap := cap) HC.out hk hlead
      have kv2 := norm_cv2 (cap := cap) HC.out hk hlead hp
      go_region
      go_wp2
      exact bodyPost_ret (v := .agg #[.string (bs (l.take k)), .string (bs ((l.drop k).take p))]) (by simp [results, Try.results100, go_sem]) rfl ⟨⟨_, _, rfl, strip_red hlead hk hp0 hp (by simpa using HP2.out.1) HP2.out.2.1 (by simpa using HP2.out.2.2) hf.out hend.out, by rw [List.length_take]; omega, by rw [List.length_take]; omega⟩,
        ((below_drewN ((Below.refl _ _).alloc (Nat.le_refl _) _) _).setCell (Nat.le_refl _) _).setCell (Nat.le_refl _) _⟩
end Go.Proofs.Ytfbkjopidjojeab
