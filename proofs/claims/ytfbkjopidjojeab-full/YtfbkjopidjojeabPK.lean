/-
  Joined: If.
-/
import Derived.Test.YtfbkjopidjojeabPJ
namespace Go.Proofs.Ytfbkjopidjojeab
open Go.RowKit

/-- The buffers of a program. -/
def bufQ (R : List St) : List St := R.filter fun s => s.kind == 12
/-- What comes into a buffer, as a stream. -/
def inS (R : List St) (s : St) : Nat → Bool := bitAt (ucL R s 0).1 (ucL R s 0).2
theorem bufQ_mem {R : List St} {s : St} (h : s ∈ bufQ R) : s ∈ R ∧ s.kind = 12 := by
  obtain ⟨h1, h2⟩ := List.mem_filter.1 h
  exact ⟨h1, by simpa using h2⟩
theorem mx_nonneg (f g : Nat → Bool) (n : Nat) : 0 ≤ mx f g n := by
  have := le_mx f g n 0 (Nat.zero_le _)
  rwa [dif_zero] at this
/-- A buffer's size is what it holds at most in 900 ticks. -/
theorem size_mx {R : List St} (hg : Good R) {s : St} (hs : s ∈ bufQ R) {z : Int} (hz : Most (inS R s) (ckS s) z) : z = mx (inS R s) (ckS s) 900 := by
  obtain ⟨hm, hk⟩ := bufQ_mem hs
  obtain ⟨hu, ha⟩ := hg.clk.buffer s hm hk
  have hck : s.ck = s.wd := hg.clk.given s hm (by rw [hk]; decide)
  have hne : s.ck.2 ≠ [] := hg.clk.has s hm (by omega)
  have hwd := (hg.prog.wf s hm).wd
  have huo := ucL_ok hg.prog.ok s 0
  have hy := List.length_pos_iff.2 hne
  have hv := List.length_pos_iff.2 (hasC_ne hu)
  have hmost := most_of (u := (ucL R s 0).1) (x := s.ck.1) (hasC_ne hu) hne (P := (ucL R s 0).2.length * s.ck.2.length) (Nat.dvd_mul_right _ _) (Nat.dvd_mul_left _ _) (Nat.mul_pos hv hy) ha
  have hP : (ucL R s 0).2.length * s.ck.2.length ≤ 64 * 12 := Nat.mul_le_mul huo.2 (by rw [hck]; exact hwd.2)
  have hl1 : s.ck.1.length ≤ 12 := by rw [hck]; exact hwd.1
  have e := Most.unique hz hmost
  obtain ⟨i, hi, e2⟩ := mx_at (inS R s) (ckS s) 900
  obtain ⟨j, hj, e3⟩ := mx_at (bitAt (ucL R s 0).1 (ucL R s 0).2) (bitAt s.ck.1 s.ck.2) (max (ucL R s 0).1.length s.ck.1.length + (ucL R s 0).2.length * s.ck.2.length)
  have h1 := hz.1 i
  have h2 := le_mx (inS R s) (ckS s) 900 j (by have := huo.1; omega)
  have e4 : dif (inS R s) (ckS s) j = dif (bitAt (ucL R s 0).1 (ucL R s 0).2) (bitAt s.ck.1 s.ck.2) j := rfl
  omega
theorem most_le {R : List St} {s : St} {z : Int} (hz : Most (inS R s) (ckS s) z) (n : Nat) : mx (inS R s) (ckS s) n ≤ z := by
  obtain ⟨i, _, e⟩ := mx_at (inS R s) (ckS s) n
  rw [e]; exact hz.1 i

/-- What buffers held, behind so many ticks. -/
theorem most_sim {R : List St} (hg : Good R) {X : List Nat} (ho : OrdOk R X) {Ls : List (List Int)} {Zs : List Int} (t : Nat) : mostOf (simL X (beginL R Ls Zs) t) = (bufQ R).map fun s => mx (inS R s) (ckS s) t := by
  have hat0 := begin_at R Ls Zs
  have hm0 : ∀ x ∈ beginL R Ls Zs, x.most = 0 := fun x hx => (beginL_mem hx).2
  have hst := (sim_at hg ho hat0 t).st
  have hmo : ∀ x ∈ simL X (beginL R Ls Zs) t, x.st.kind = 12 → x.most = mx (inS R x.st) (ckS x.st) t := by
    intro x hx hk
    obtain ⟨k, hkx⟩ := List.getElem?_of_mem hx
    have hkl : k < (beginL R Ls Zs).length := by rw [← sim_len hg ho hat0 t]; exact (List.getElem?_eq_some_iff.1 hkx).1
    obtain ⟨y, e, s⟩ := sim_x hg ho hat0 hm0 (List.getElem?_eq_getElem hkl) t
    rw [hkx] at e; injection e with e; subst e
    have hk0 : (beginL R Ls Zs)[k].st.kind = 12 := by rw [← s.st]; exact hk
    have := s.most
    rw [if_pos hk0] at this
    rw [this, s.st]; rfl
  generalize simL X (beginL R Ls Zs) t = us at hst hmo
  have e : bufQ R = (us.filter fun x => x.st.kind == 12).map Tk.st := by
    unfold bufQ
    conv => lhs; rw [← hst]
    rw [List.filter_map]; rfl
  rw [e, List.map_map]
  unfold mostOf
  apply List.map_congr_left
  intro x hx
  obtain ⟨h1, h2⟩ := List.mem_filter.1 hx
  exact hmo x h1 (by simpa using h2)
/-- Which buffer has which size. -/
theorem begin_zs : ∀ {R : List St} {Ls : List (List Int)} {Zs : List Int}, Zs.length = cntL R 12 → ((beginL R Ls Zs).filter fun x => x.st.kind == 12).map Tk.size = Zs ∧ ((beginL R Ls Zs).filter fun x => x.st.kind == 12).map Tk.st = bufQ R := by
  intro R
  induction R with
  | nil => intro Ls Zs h; have : Zs = [] := List.length_eq_zero_iff.1 h; subst this; exact ⟨rfl, rfl⟩
  | cons s R ih =>
    intro Ls Zs h
    by_cases hk : s.kind = 12
    · have hc : cntL (s :: R) 12 = cntL R 12 + 1 := by unfold cntL; rw [List.filter_cons, if_pos (by simpa using hk)]; simp
      rw [hc] at h
      cases Zs with
      | nil => simp at h
      | cons z Zs =>
        have h' : Zs.length = cntL R 12 := by simpa using h
        obtain ⟨a, b⟩ := ih (Ls := if s.kind = 1 then Ls.drop 1 else Ls) h'
        have e : beginL (s :: R) Ls (z :: Zs) = tk0 s Ls (z :: Zs) :: beginL R (if s.kind = 1 then Ls.drop 1 else Ls) Zs := by rw [beginL, if_pos hk]; rfl
        have hkt : ((tk0 s Ls (z :: Zs)).st.kind == 12) = true := by show (s.kind == 12) = true; simpa using hk
        refine ⟨?_, ?_⟩
        · rw [e, List.filter_cons, if_pos hkt, List.map_cons, a]
          show (if s.kind = 12 then z else 4096) :: Zs = z :: Zs
          rw [if_pos hk]
        · rw [e, List.filter_cons, if_pos hkt, List.map_cons, b]
          unfold bufQ
          rw [List.filter_cons, if_pos (by simpa using hk)]; rfl
    · have hc : cntL (s :: R) 12 = cntL R 12 := by unfold cntL; rw [List.filter_cons, if_neg (by simpa using hk)]
      rw [hc] at h
      obtain ⟨a, b⟩ := ih (Ls := if s.kind = 1 then Ls.drop 1 else Ls) h
      have e : beginL (s :: R) Ls Zs = tk0 s Ls Zs :: beginL R (if s.kind = 1 then Ls.drop 1 else Ls) Zs := by rw [beginL, if_neg hk]
      have hkt : ¬ ((tk0 s Ls Zs).st.kind == 12) = true := by show ¬ (s.kind == 12) = true; simpa using hk
      refine ⟨?_, ?_⟩
      · rw [e, List.filter_cons, if_neg hkt, a]
      · rw [e, List.filter_cons, if_neg hkt, b]
        unfold bufQ
        rw [List.filter_cons, if_neg (by simpa using hk)]
theorem begin_big : ∀ {R : List St} {Ls : List (List Int)} {Zs : List Int}, ∀ x ∈ beginL R Ls Zs, x.st.kind ≠ 12 → x.size = 4096 := by
  intro R
  induction R with
  | nil => intro Ls Zs x hx; simp [beginL] at hx
  | cons s R ih =>
    intro Ls Zs x hx hk
    rcases List.mem_cons.1 hx with rfl | hx
    · have hk : s.kind ≠ 12 := hk
      show (if s.kind = 12 then Zs.headD 4096 else 4096) = 4096
      rw [if_neg hk]
    · exact ih x hx hk
/-- At which tick a buffer would hold too much. -/
def OverAt (R : List St) (Zs : List Int) (t : Nat) : Prop := ∃ (i : Nat) (s : St) (z : Int), (bufQ R)[i]? = some s ∧ Zs[i]? = some z ∧ z < dif (inS R s) (ckS s) (t + 1)
theorem run_zs {R : List St} (hg : Good R) {X : List Nat} (ho : OrdOk R X) {Ls : List (List Int)} {Zs : List Int} {n ticks : Nat} (h1 : ∀ L ∈ Ls, L.length = n) (h2 : Ls.length = cntL R 1) (hz : Zs.length = cntL R 12) (ht : ticks ≤ n) {en tk : Nat} {us : List Tk} (hr : runL X ticks 0 (beginL R Ls Zs) = (en, tk, us)) :
    tk ≤ ticks ∧ (∀ j, j < tk → ¬ OverAt R Zs j) ∧ ((en = 1 ∧ tk = ticks) ∨ (en = 3 ∧ tk < ticks ∧ OverAt R Zs tk)) := by
  have hat := begin_at R Ls Zs
  have hm0 : ∀ x ∈ beginL R Ls Zs, x.most = 0 := fun x hx => (beginL_mem hx).2
  obtain ⟨e, m, c1, c2, c3, c4, c5⟩ := run_char X (beginL R Ls Zs) ticks 0
  have c1' : runL X ticks 0 (beginL R Ls Zs) = (e, m, simL X (beginL R Ls Zs) m) := c1
  rw [hr] at c1'
  injection c1' with q1 q2
  injection q2 with q2 q3
  subst q1; subst q2
  rw [Nat.zero_add] at c3 c5
  have hW : ∀ t, t < ticks → wantsL (simL X (beginL R Ls Zs) t) t = false := fun t hlt => by
    cases hw : wantsL (simL X (beginL R Ls Zs) t) t with
    | false => rfl
    | true =>
      exfalso
      obtain ⟨x, hx, a, b, c⟩ := (sim_wants hg ho hat hm0 t).1 hw
      rw [begin_len h1 h2 x hx a] at c
      have := ones_le (ckS x.st) t
      omega
  obtain ⟨b1, b2⟩ := begin_zs (Ls := Ls) hz
  have hO : ∀ t, overL (simL X (beginL R Ls Zs) t) t = true ↔ OverAt R Zs t := fun t => by
    rw [sim_over hg ho hat hm0 (fun x hx hk => by rw [begin_big x hx hk]; decide) t]
    constructor
    · rintro ⟨x, hx, a, b⟩
      have hxf : x ∈ (beginL R Ls Zs).filter fun x => x.st.kind == 12 := List.mem_filter.2 ⟨hx, by simpa using a⟩
      obtain ⟨i, hi⟩ := List.getElem?_of_mem hxf
      refine ⟨i, x.st, x.size, ?_, ?_, b⟩
      · rw [← b2, List.getElem?_map, hi]; rfl
      · have : (((beginL R Ls Zs).filter fun x => x.st.kind == 12).map Tk.size)[i]? = some x.size := by rw [List.getElem?_map, hi]; rfl
        rw [b1] at this; exact this
    · rintro ⟨i, s, z, hs, hzz, hlt⟩
      rw [← b2, List.getElem?_map] at hs
      cases hi : ((beginL R Ls Zs).filter fun x => x.st.kind == 12)[i]? with
      | none => rw [hi] at hs; cases hs
      | some x =>
        rw [hi] at hs
        injection hs with hs
        have : (((beginL R Ls Zs).filter fun x => x.st.kind == 12).map Tk.size)[i]? = some x.size := by rw [List.getElem?_map, hi]; rfl
        rw [b1, hzz] at this
        injection this with this
        obtain ⟨hx, hk⟩ := List.mem_filter.1 (List.mem_of_getElem? hi)
        refine ⟨x, hx, by simpa using hk, ?_⟩
        rw [← this]
        have hs' : x.st = s := hs
        rw [hs']; exact hlt
  refine ⟨c3, fun j hj hov => ?_, ?_⟩
  · have := (c4 j (Nat.zero_le _) hj).2
    rw [(hO j).2 hov] at this; cases this
  · rcases c5 with ⟨a, b⟩ | ⟨a, b, c⟩ | ⟨a, b, c, d⟩
    · exact .inl ⟨a, b⟩
    · rw [hW _ b] at c; cases c
    · exact .inr ⟨a, b, (hO _).1 d⟩
/-- The sizes of all buffers. -/
def SzAll (R : List St) (Zs : List Int) : Prop := Zs = (bufQ R).map fun s => mx (inS R s) (ckS s) 900
theorem over_none {R : List St} {Zs : List Int} (hz : SzAll R Zs) (hm : ∀ s ∈ bufQ R, Most (inS R s) (ckS s) (mx (inS R s) (ckS s) 900)) (t : Nat) : ¬ OverAt R Zs t := by
  rintro ⟨i, s, z, h1, h2, h3⟩
  rw [hz, List.getElem?_map, h1] at h2
  injection h2 with h2
  have := (hm s (List.mem_of_getElem? h1)).1 (t + 1)
  have h2' : mx (inS R s) (ckS s) 900 = z := h2
  omega
theorem over_less {R : List St} {Zs : List Int} (hz : SzAll R Zs) (hm : ∀ s ∈ bufQ R, Most (inS R s) (ckS s) (mx (inS R s) (ckS s) 900)) {k : Nat} {s : St} (hk : (bufQ R)[k]? = some s) (t : Nat) :
    OverAt R (Zs.set k (mx (inS R s) (ckS s) 900 - 1)) t ↔ dif (inS R s) (ckS s) (t + 1) = mx (inS R s) (ckS s) 900 := by
  have hs := List.mem_of_getElem? hk
  have hkl : k < Zs.length := by rw [hz, List.length_map]; exact (List.getElem?_eq_some_iff.1 hk).1
  constructor
  · rintro ⟨i, s', z, h1, h2, h3⟩
    by_cases hi : k = i
    · subst hi
      rw [hk] at h1; injection h1 with h1; subst h1
      rw [List.getElem?_set_self hkl] at h2
      injection h2 with h2
      have := (hm s hs).1 (t + 1)
      omega
    · rw [List.getElem?_set_ne hi] at h2
      exact absurd ⟨i, s', z, h1, h2, h3⟩ (over_none hz hm t)
  · intro h
    exact ⟨k, s, _, hk, by rw [List.getElem?_set_self hkl], by omega⟩
/-- The run with one less overflows where so many would be held. -/
theorem full_math {R : List St} {Zs : List Int} (hz : SzAll R Zs) (hm : ∀ s ∈ bufQ R, Most (inS R s) (ckS s) (mx (inS R s) (ckS s) 900)) {k : Nat} {s : St} (hk : (bufQ R)[k]? = some s) (h0 : mx (inS R s) (ckS s) 900 ≠ 0) {en tk : Nat}
    (hn : ∀ j, j < tk → ¬ OverAt R (Zs.set k (mx (inS R s) (ckS s) 900 - 1)) j) (he : (en = 1 ∧ tk = 900) ∨ (en = 3 ∧ tk < 900 ∧ OverAt R (Zs.set k (mx (inS R s) (ckS s) 900 - 1)) tk)) :
    en = 3 ∧ tk < 900 ∧ mx (inS R s) (ckS s) (tk + 1) = mx (inS R s) (ckS s) 900 ∧ mx (inS R s) (ckS s) tk ≤ mx (inS R s) (ckS s) 900 - 1 := by
  have hp := mx_nonneg (inS R s) (ckS s) 900
  have hs := List.mem_of_getElem? hk
  rcases he with ⟨_, rfl⟩ | ⟨h1, h2, h3⟩
  · exfalso
    obtain ⟨i, hi, e⟩ := mx_at (inS R s) (ckS s) 900
    have hi0 : i ≠ 0 := fun h => by rw [h, dif_zero] at e; omega
    refine hn (i - 1) (by omega) ((over_less hz hm hk (i - 1)).2 ?_)
    rw [show i - 1 + 1 = i by omega]; exact e.symm
  · have h4 := (over_less hz hm hk tk).1 h3
    refine ⟨h1, h2, ?_, ?_⟩
    · have a := le_mx (inS R s) (ckS s) (tk + 1) (tk + 1) (Nat.le_refl _)
      have b := most_le (hm s hs) (tk + 1)
      omega
    · obtain ⟨i, hi, e⟩ := mx_at (inS R s) (ckS s) tk
      rw [e]
      rcases Nat.eq_zero_or_pos i with q | q
      · rw [q, dif_zero]; omega
      · have h5 : ¬ dif (inS R s) (ckS s) (i - 1 + 1) = mx (inS R s) (ckS s) 900 := fun h => hn (i - 1) (by omega) ((over_less hz hm hk (i - 1)).2 h)
        rw [show i - 1 + 1 = i by omega] at h5
        have := (hm s hs).1 i
        omega
/-- What Size tells of a buffer. -/
theorem size_own {R : List St} (hg : Good R) {j : Nat} {s : St} (hj : R[j]? = some s) (h12 : s.kind = 12) {e : Ending} (h : SizeTold R s.name e) : e = .returned (.tuple #[.int .i64 (mx (inS R s) (ckS s) 900), .int .i64 0]) ∧ Most (inS R s) (ckS s) (mx (inS R s) (ckS s) 900) := by
  have hf := find_own hg.named hj (by omega)
  have hmem := List.mem_of_getElem? hj
  have hbq : s ∈ bufQ R := List.mem_filter.2 ⟨hmem, by simpa using h12⟩
  rcases h with ⟨h1, _⟩ | ⟨k, t, h1, h2, h3, z, r, hz, he⟩
  · exfalso
    rcases h1 with h1 | ⟨k, t, h1, h2, h3⟩
    · rw [hf] at h1; cases h1
    · rw [hf] at h1; injection h1 with h1; subst h1
      rw [hj] at h2; injection h2 with h2; subst h2
      exact h3 h12
  · rw [hf] at h1; injection h1 with h1; subst h1
    rw [hj] at h2; injection h2 with h2; subst h2
    have ha := (hg.clk.buffer s hmem h12).2
    have hr : r = true := hz.1.2 ha
    subst hr
    have hmz : Most (inS R s) (ckS s) z := hz.2.1 rfl
    have e1 := size_mx hg hbq hmz
    rw [← e1]
    exact ⟨he, hmz⟩
end Go.Proofs.Ytfbkjopidjojeab

