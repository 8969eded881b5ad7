/-
  Joined: Ie.
-/
import Derived.Test.YtfbkjopidjojeabPI
namespace Go.Proofs.Ytfbkjopidjojeab
open Go.RowKit

theorem ticked_unique {rs : List St} {t : Nat} {ts us vs : List Tk} {X : List Nat} (hg : Good rs) (hat : At rs t ts) (ho : OrdOk rs X) (h : Ticked t ts us) (h' : Ticked t ts vs) : us = vs := by
  have key : ∀ i, i ≤ X.length → ∀ k ∈ X.take i, us[k]? = vs[k]? := by
    intro i
    induction i with
    | zero => intro _ k hk; simp at hk
    | succ i ih =>
      intro hi k hk
      have ih := ih (by omega)
      have hiX : i < X.length := by omega
      rw [take_one hiX] at hk
      rcases List.mem_append.1 hk with hk | hk
      · exact ih k hk
      · have hke : k = X[i] := List.mem_singleton.1 hk
        subst hke
        have hkl : X[i] < ts.length := by rw [hat.len_eq]; exact ho.lt _ (List.getElem_mem _)
        have hx := List.getElem?_eq_getElem hkl
        obtain ⟨x, hxe⟩ : ∃ x, ts[X[i]] = x := ⟨_, rfl⟩
        rw [hxe] at hx
        rw [h.each _ x hx, h'.each _ x hx]
        have hrs := hat.get hx
        suffices hs : nextL us x = nextL vs x by rw [hs]
        by_cases h9 : x.st.kind = 9
        · refine nextL_fby h9 fun h0 => ?_
          have hmem := List.mem_of_getElem? hrs
          have hul : x.st.uses.length = 1 := by rw [hg.named.len _ hmem, h9]; decide
          obtain ⟨j, hj⟩ : ∃ j, x.st.uses[0]? = some j := ⟨x.st.uses[0], List.getElem?_eq_getElem (by omega)⟩
          have hjl : j < ts.length := by rw [hat.len_eq]; exact (hg.prog.wf _ hmem).use j (List.mem_of_getElem? hj)
          have hy := List.getElem?_eq_getElem hjl
          have hyr := hat.get hy
          have hck : ts[j].st.ck = x.st.ck := by
            have := hg.clk.even _ hmem (by rw [h9]; decide) 0 (by omega)
            unfold ucL at this
            rw [hj] at this
            simp only [hyr] at this
            exact this
          have hlen : ts[j].made.length = x.made.length := by
            rw [hat.len _ (List.getElem_mem _), hat.len _ (List.mem_of_getElem? hx)]
            unfold ckS; rw [hck]
          have one : ∀ zs : List Tk, Ticked t ts zs → usedL zs x.st 0 (x.made.length - 1) = ts[j].made.getD (x.made.length - 1) 0 := by
            intro zs hz
            unfold usedL
            rw [madeAt_of hj (hz.each j _ hy)]
            simp only [List.getD_eq_getElem?_getD]
            rw [List.getElem?_append_left (by omega)]
          rw [one us h, one vs h']
        · exact nextL_same fun q => madeAt_congr fun j hj => ih j (ho.topo i hiX j ⟨x.st, hrs, h9, List.mem_of_getElem? hj⟩)
  apply List.ext_getElem?
  intro k
  rcases Nat.lt_or_ge k ts.length with q | q
  · have := key X.length (Nat.le_refl _) k (by rw [List.take_length]; exact ho.all k (by rw [← hat.len_eq]; exact q))
    exact this
  · rw [List.getElem?_eq_none (by rw [h.len]; exact q), List.getElem?_eq_none (by rw [h'.len]; exact q)]
theorem sim_unique {rs : List St} (hg : Good rs) {X Y : List Nat} (hx : OrdOk rs X) (hy : OrdOk rs Y) {ts : List Tk} (h : At rs 0 ts) : ∀ t, simL X ts t = simL Y ts t := by
  intro t
  induction t with
  | zero => rfl
  | succ t ih =>
    have a := sim_step hg hx (sim_at hg hx h t)
    have b := sim_step hg hy (sim_at hg hy h t)
    rw [← ih] at b
    exact ticked_unique hg (sim_at hg hx h t).note hx a b

/-- The outputs of a program. -/
def outQ (R : List St) : List St := R.filter fun s => s.kind == 13
theorem outQ_eq {R : List St} (hn : Named R) : (R.filter fun s => decide (s.kind = 13 ∧ s.uses.length = 1)) = outQ R := by
  unfold outQ
  apply List.filter_congr
  intro s hs
  by_cases h : s.kind = 13
  · have hl := hn.len s hs
    rw [h] at hl
    have hl : s.uses.length = 1 := hl
    simp [h, hl]
  · simp [h]
theorem outs_q {R : List St} (hn : Named R) {us : List Tk} (h : us.map Tk.st = R) : outsOf us us = (outQ R).map fun s => madeAt us s 0 := by
  rw [outs_st h, outQ_eq hn]
theorem names_q (R : List St) : namesL R 13 R = (outQ R).map (nameL R) := rfl
theorem out_facts {R : List St} (hn : Named R) {i : Nat} (hi : i < (outQ R).length) : ∃ (j : Nat) (u : St), (outQ R)[i].uses[0]? = some j ∧ R[j]? = some u ∧ u.kind ≠ 13 ∧ nameL R (outQ R)[i] = u.name := by
  have hm := List.getElem_mem hi
  obtain ⟨h1, h2⟩ := List.mem_filter.1 hm
  have hk : (outQ R)[i].kind = 13 := by simpa using h2
  have hl := hn.len _ h1
  rw [hk] at hl
  have hl : (outQ R)[i].uses.length = 1 := hl
  obtain ⟨j, hj⟩ : ∃ j, (outQ R)[i].uses[0]? = some j := ⟨(outQ R)[i].uses[0], List.getElem?_eq_getElem (by omega)⟩
  obtain ⟨u, hu, hu13⟩ := hn.use _ h1 j (List.mem_of_getElem? hj)
  refine ⟨j, u, hj, hu, hu13, ?_⟩
  unfold nameL
  rw [if_pos ⟨hk, hl⟩]
  simp only [hj, hu]
theorem begin_pre : ∀ {R : List St} {Ls Ms : List (List Int)} {Zs : List Int}, Ls.length = Ms.length → (∀ (i : Nat) (L M : List Int), Ls[i]? = some L → Ms[i]? = some M → L <+: M) →
    ∀ (k : Nat) (x y : Tk), (beginL R Ls Zs)[k]? = some x → (beginL R Ms Zs)[k]? = some y → x.made = y.made ∧ x.list <+: y.list := by
  intro R
  induction R with
  | nil => intro Ls Ms Zs _ _ k x y hx; simp [beginL] at hx
  | cons s R ih =>
    intro Ls Ms Zs hl hp k x y hx hy
    cases k with
    | zero =>
      simp only [beginL, List.getElem?_cons_zero, Option.some.injEq] at hx hy
      subst hx; subst hy
      refine ⟨rfl, ?_⟩
      show (if s.kind = 1 then Ls.headD [] else []) <+: (if s.kind = 1 then Ms.headD [] else [])
      by_cases h : s.kind = 1
      · rw [if_pos h, if_pos h]
        cases Ls with
        | nil => exact List.nil_prefix
        | cons L Ls =>
          cases Ms with
          | nil => simp at hl
          | cons M Ms => exact hp 0 L M rfl rfl
      · rw [if_neg h, if_neg h]; exact List.prefix_refl _
    | succ k =>
      simp only [beginL, List.getElem?_cons_succ] at hx hy
      refine ih (Ls := if s.kind = 1 then Ls.drop 1 else Ls) (Ms := if s.kind = 1 then Ms.drop 1 else Ms) ?_ ?_ k x y hx hy
      · by_cases h : s.kind = 1
        · rw [if_pos h, if_pos h, List.length_drop, List.length_drop, hl]
        · rw [if_neg h, if_neg h, hl]
      · intro i L M h1 h2
        by_cases h : s.kind = 1
        · rw [if_pos h] at h1 h2
          rw [List.getElem?_drop] at h1 h2
          exact hp (1 + i) L M h1 h2
        · rw [if_neg h] at h1 h2
          exact hp i L M h1 h2
theorem gLs_pre (key : Int) (n d c : Nat) : ∀ (i : Nat) (L M : List Int), (gLs key n c)[i]? = some L → (gLs key (n + d) c)[i]? = some M → L <+: M := by
  intro i L M h1 h2
  have hi : i < c := by have := (List.getElem?_eq_some_iff.1 h1).1; rwa [gLs_len] at this
  unfold gLs at h1 h2
  rw [List.getElem?_map, List.getElem?_range hi] at h1 h2
  injection h1 with h1
  injection h2 with h2
  subst h1; subst h2
  unfold gRow
  refine ⟨(List.range d).map fun k => gv key i (n + k), ?_⟩
  rw [List.range_add, List.map_append, List.map_map]
  rfl
/-- What comes out of runs with enough numbers. -/
theorem longer_math {R : List St} (hg : Good R) {X1 X2 X3 : List Nat} (h1 : OrdOk R X1) (h2 : OrdOk R X2) (h3 : OrdOk R X3) (key : Int) (n m : Nat) (hnm : n ≤ m) (hm : m ≤ 90) :
    ∀ s : St, madeAt (simL X1 (beginL R (gLs key 90 (cntL R 1)) []) n) s 0 <+: madeAt (simL X2 (beginL R (gLs key 90 (cntL R 1)) []) m) s 0 ∧
      madeAt (simL X2 (beginL R (gLs key 90 (cntL R 1)) []) m) s 0 = madeAt (simL X3 (beginL R (gLs key 120 (cntL R 1)) []) m) s 0 := by
  intro s
  have a0 := begin_at R (gLs key 90 (cntL R 1)) []
  have b0 := begin_at R (gLs key 120 (cntL R 1)) []
  rw [sim_unique hg h2 h1 a0 m, sim_unique hg h3 h1 b0 m]
  constructor
  · have := sim_madeAt hg h1 a0 n (m - n) s 0
    rwa [show n + (m - n) = m by omega] at this
  · have := sim_alike hg h1 a0 b0 (fun x hx => (beginL_mem hx).2) (fun x hx => (beginL_mem hx).2) (begin_pre (by rw [gLs_len, gLs_len]) (gLs_pre key 90 30 (cntL R 1))) 90 (fun x hx hk => by rw [begin_len gLs_each (gLs_len _ _ _) x hx hk]; exact Nat.le_refl _) m hm
    exact this.madeAt s 0
theorem want_never {R : List St} {n t : Nat} (h : t < n) : ¬ WantAt R n t := by
  rintro ⟨s, _, _, _, h3⟩
  have := ones_le (ckS s) t
  omega
end Go.Proofs.Ytfbkjopidjojeab

