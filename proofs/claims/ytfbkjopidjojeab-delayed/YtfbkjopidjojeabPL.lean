/-
  Joined: Ja Jb Jc Jd.
-/
import Derived.Test.YtfbkjopidjojeabPI
import Derived.Test.YtfbkjopidjojeabPJ
import Derived.Test.YtfbkjopidjojeabPW
namespace Go.Proofs.Ytfbkjopidjojeab
open Go.RowKit

theorem min_exists {P : Nat → Prop} : ∀ n, P n → ∃ k, P k ∧ ∀ j, P j → k ≤ j := by
  intro n
  induction n using Nat.strongRecOn with
  | ind n ih =>
    intro h
    rcases Classical.em (∃ j, j < n ∧ P j) with ⟨j, hj, hp⟩ | hn
    · exact ih j hj hp
    · exact ⟨n, h, fun j hj => Nat.le_of_not_lt fun hl => hn ⟨j, hl, hj⟩⟩
theorem nf_exists {f : Nat → Bool} {m p : Nat} (h : EP f m p) : ∃ u v, NF f u v := by
  obtain ⟨p0, ⟨m1, h1⟩, hp0⟩ := min_exists (P := fun p => ∃ m, EP f m p) p ⟨m, h⟩
  obtain ⟨m0, h2, hm0⟩ := min_exists (P := fun m => EP f m p0) m1 h1
  refine ⟨tab f 0 m0, tab f m0 p0, fun e => ?_, bitAt_tab h2, fun m p hE => ?_, fun m hE => ?_⟩
  · have := congrArg List.length e
    rw [tab_length] at this
    have := h2.1
    simp at *
    omega
  · rw [tab_length]; exact hp0 p ⟨m, hE⟩
  · rw [tab_length] at hE ⊢; exact hm0 m hE
theorem nfL_congr {f g : Nat → Bool} {m p m' p' : Nat} (hf : EP f m p) (hg : EP g m' p') (e : ∀ n, f n = g n) : nfL f m p = nfL g m' p' := by
  obtain ⟨u, v, h⟩ := nf_exists hf
  rw [nfL_eq h hf, nfL_eq (h.congr e) hg]
theorem nfL_ne {f : Nat → Bool} {m p : Nat} (h : EP f m p) : (nfL f m p).2 ≠ [] := by
  obtain ⟨u, v, hn⟩ := nf_exists h
  rw [nfL_eq hn h]; exact hn.ne
theorem nfL_len {f : Nat → Bool} {m p m' p' : Nat} (h : EP f m p) (h' : EP f m' p') : (nfL f m p).1.length ≤ m' ∧ (nfL f m p).2.length ≤ p' := by
  obtain ⟨u, v, hn⟩ := nf_exists h
  rw [nfL_eq hn h]
  exact ⟨hn.pre m' (h'.from hn.ep), hn.per m' p' h'⟩
/-- The word of a stream. -/
structure WdOf (f : Nat → Bool) (c : Wd) : Prop where
  ne : c.2 ≠ []
  bits : ∀ n, bitAt c.1 c.2 n = f n
  nf : NF f c.1 c.2
theorem WdOf.mk' {f g : Nat → Bool} {m p : Nat} (h : EP f m p) (e : ∀ n, f n = g n) : WdOf g (nfL f m p) := by
  obtain ⟨u, v, hn⟩ := nf_exists h
  rw [nfL_eq hn h]
  have := hn.congr e
  exact ⟨this.ne, this.bits, this⟩
theorem WdOf.eq {f g : Nat → Bool} {c d : Wd} (h : WdOf f c) (k : WdOf g d) (e : ∀ n, f n = g n) : c = d := by
  obtain ⟨h1, h2⟩ := NF.unique (h.nf.congr e) k.nf
  exact Prod.ext h1 h2
theorem WdOf.on {f g : Nat → Bool} {c d : Wd} (h : WdOf f c) (k : WdOf g d) (hf : ∀ n, f n = true) : WdOf g (onW c d) := by
  refine WdOf.mk' (EP_onW h.ne k.ne) fun n => ?_
  have hc : ∀ n, bitAt c.1 c.2 n = true := fun n => by rw [h.bits, hf]
  have ho : ∀ n, ones (bitAt c.1 c.2) n = n := by
    intro n
    induction n with
    | zero => rfl
    | succ n ih => rw [ones, ih, hc]; rfl
  unfold onS
  rw [hc, ho, k.bits]; rfl
theorem WdOf.or {f g : Nat → Bool} {c d : Wd} (h : WdOf f c) (k : WdOf g d) : WdOf (fun n => f n || g n) (orW c d) :=
  WdOf.mk' (EP_or (EP_bitAt _ _ h.ne) (EP_bitAt _ _ k.ne)) fun n => by rw [h.bits, k.bits]
theorem WdOf.not {f : Nat → Bool} {c : Wd} (h : WdOf f c) : WdOf (fun n => !f n) (notW c) :=
  WdOf.mk' (EP_map (EP_bitAt _ _ h.ne)) fun n => by rw [h.bits]
theorem WdOf.short {f : Nat → Bool} {c : Wd} (h : WdOf f c) {m p : Nat} (hE : EP f m p) : c.1.length ≤ m ∧ c.2.length ≤ p := ⟨h.nf.pre m (hE.from h.nf.ep), h.nf.per m p hE⟩
theorem wd_one : WdOf (fun _ => true) ([], [true]) := by
  have e : ∀ n, bitAt [] [true] n = true := fun n => by unfold bitAt; simp [Nat.mod_one]
  exact ⟨by decide, e, ⟨by decide, e, fun m p h => h.1, fun m _ => Nat.zero_le _⟩⟩
theorem wd_txt {u v : List Bool} (hu : u.length ≤ 12) (hv : v.length ≤ 12) (hv0 : v ≠ []) : ∃ c, wdL (txtL u v) = some c ∧ WdOf (bitAt u v) c ∧ c.1.length ≤ 12 ∧ c.2.length ≤ 12 := by
  have hE := EP_bitAt u v hv0
  have hw := WdOf.mk' hE (fun n => rfl)
  refine ⟨nfL (bitAt u v) u.length v.length, ?_, hw, ?_, ?_⟩
  · unfold wdL
    rw [okW_txt u v hu hv hv0, if_pos rfl]
    simp only [pU_txt, pV_txt, toB_map]
  · have := (hw.short hE).1; omega
  · have := (hw.short hE).2; omega

/- Texts that are put together. -/
theorem cut_pre {m : UInt8} : ∀ {a b : List UInt8}, m ∉ a → cutL m (a ++ b) = pre a (cutL m b) := by
  intro a
  induction a with
  | nil => intro b _; rw [List.nil_append, pre_nil (cutL_ne m b)]
  | cons c a ih =>
    intro b h
    have hc : (c == m) = false := by
      rw [beq_eq_false_iff_ne]
      intro e
      exact h (by rw [e]; exact List.mem_cons_self)
    rw [List.cons_append, cutL, hc, if_neg (by simp), ih (fun hm => h (List.mem_cons_of_mem _ hm))]
    cases hcut : cutL m b with
    | nil => exact absurd hcut (cutL_ne m b)
    | cons x y => rfl
theorem cut_all {m : UInt8} {a : List UInt8} (h : m ∉ a) : cutL m a = [a] := by
  have := cut_pre (b := []) h
  rw [List.append_nil] at this
  rw [this]; simp [cutL, pre]
theorem txt_no {u v : List Bool} {m : UInt8} (h : m ≠ 48 ∧ m ≠ 49 ∧ m ≠ 40 ∧ m ≠ 41) : m ∉ txtL u v := by
  have hb : ∀ l : List Bool, m ∉ l.map bb := fun l hm => by
    obtain ⟨x, _, e⟩ := List.mem_map.1 hm
    cases x
    · exact h.1 e.symm
    · exact h.2.1 e.symm
  intro hm
  unfold txtL at hm
  rcases List.mem_append.1 hm with hm | hm
  · exact hb u hm
  · rcases List.mem_cons.1 hm with hm | hm
    · exact h.2.2.1 hm
    · rcases List.mem_append.1 hm with hm | hm
      · exact hb v hm
      · exact h.2.2.2 (List.mem_singleton.1 hm)

/-- The text of Apart's programs: W, T, M words; E the end. -/
def apL (W T M E : List UInt8) : List UInt8 := [105, 110, 32, 120, 32, 40, 49, 41, 10, 97, 32, 61, 32, 119, 104, 101, 110, 32, 120, 32] ++ (W ++ ([10, 110, 32, 61, 32, 119, 104, 101, 110, 32, 120, 32] ++ (T ++ ([10, 121, 32, 61, 32, 109, 101, 114, 103, 101, 32] ++ (M ++ E)))))
/-- Its ends. -/
def apE (p q : UInt8) : List UInt8 := [32, p, 32, q, 10, 111, 117, 116, 32, 121]
/-- Its lines. -/
def apLs (a b m : Wd) (p q : UInt8) : List Ln := [⟨1, 1, [120], [], 0, ([], [true])⟩, ⟨2, 10, [97], [[120]], 0, a⟩, ⟨3, 10, [110], [[120]], 0, b⟩, ⟨4, 11, [121], [[p], [q]], 0, m⟩, ⟨5, 13, [], [[121]], 0, ([], [])⟩]
theorem wd1_one : wdL [40, 49, 41] = some ([], [true]) := by rfl
theorem ap_cut {W T M : List UInt8} {p q : UInt8} (hp : p ≠ 10) (hq : q ≠ 10) (hW : (10 : UInt8) ∉ W) (hT : (10 : UInt8) ∉ T) (hM : (10 : UInt8) ∉ M) :
    cutL 10 (apL W T M (apE p q)) = [[105, 110, 32, 120, 32, 40, 49, 41], [97, 32, 61, 32, 119, 104, 101, 110, 32, 120, 32] ++ W, [110, 32, 61, 32, 119, 104, 101, 110, 32, 120, 32] ++ T, [121, 32, 61, 32, 109, 101, 114, 103, 101, 32] ++ (M ++ [32, p, 32, q]), [111, 117, 116, 32, 121]] := by
  unfold apL apE
  simp [cutL, cut_pre hW, cut_pre hT, cut_pre hM, pre, hp, hq]
end Go.Proofs.Ytfbkjopidjojeab

namespace Go.Proofs.Ytfbkjopidjojeab
open Go.RowKit

theorem fil_keep {W : List UInt8} (h : W ≠ []) : (!W.isEmpty) = true := by cases W with | nil => exact absurd rfl h | cons a b => rfl
theorem parse_when {W : List UInt8} {c : Wd} {nm : UInt8} (hn : nm = 97 ∨ nm = 110) (h : wdL W = some c) : parseL [[nm], [61], [119, 104, 101, 110], [120], W] = some ⟨0, 10, [nm], [[120]], 0, c⟩ := by
  rcases hn with rfl | rfl
  · simp [parseL, operL, ownL, fillL, takeL, okN, isLet, Ln.zero, h]
  · simp [parseL, operL, ownL, fillL, takeL, okN, isLet, Ln.zero, h]
theorem parse_merge {W : List UInt8} {c : Wd} {p q : UInt8} (hp : (p = 97 ∧ q = 110) ∨ (p = 110 ∧ q = 97)) (h : wdL W = some c) : parseL [[121], [61], [109, 101, 114, 103, 101], W, [p], [q]] = some ⟨0, 11, [121], [[p], [q]], 0, c⟩ := by
  rcases hp with ⟨rfl, rfl⟩ | ⟨rfl, rfl⟩
  · simp [parseL, operL, ownL, fillL, takeL, okN, isLet, Ln.zero, h]
  · simp [parseL, operL, ownL, fillL, takeL, okN, isLet, Ln.zero, h]
theorem ap_source {W T M : List UInt8} {a b m : Wd} {p q : UInt8} (hpq : (p = 97 ∧ q = 110) ∨ (p = 110 ∧ q = 97))
    (hW : (10 : UInt8) ∉ W ∧ (32 : UInt8) ∉ W ∧ W ≠ [] ∧ W.length ≤ 26 ∧ wdL W = some a) (hT : (10 : UInt8) ∉ T ∧ (32 : UInt8) ∉ T ∧ T ≠ [] ∧ T.length ≤ 26 ∧ wdL T = some b) (hM : (10 : UInt8) ∉ M ∧ (32 : UInt8) ∉ M ∧ M ≠ [] ∧ M.length ≤ 26 ∧ wdL M = some m) :
    sourceL (apL W T M (apE p q)) = .ok (apLs a b m p q) := by
  obtain ⟨w1, w2, w3, w4, w5⟩ := hW
  obtain ⟨t1, t2, t3, t4, t5⟩ := hT
  obtain ⟨m1, m2, m3, m4, m5⟩ := hM
  have hp10 : p ≠ 10 := by rcases hpq with ⟨rfl, rfl⟩ | ⟨rfl, rfl⟩ <;> decide
  have hq10 : q ≠ 10 := by rcases hpq with ⟨rfl, rfl⟩ | ⟨rfl, rfl⟩ <;> decide
  have hp32 : p ≠ 32 := by rcases hpq with ⟨rfl, rfl⟩ | ⟨rfl, rfl⟩ <;> decide
  have hq32 : q ≠ 32 := by rcases hpq with ⟨rfl, rfl⟩ | ⟨rfl, rfl⟩ <;> decide
  have hlen : ¬ 800 < (apL W T M (apE p q)).length := by
    unfold apL apE
    simp only [List.length_append, List.length_cons, List.length_nil]
    omega
  have c1 : filL (cutL 32 [105, 110, 32, 120, 32, 40, 49, 41]) = [[105, 110], [120], [40, 49, 41]] := by rfl
  have c2 : filL (cutL 32 ([97, 32, 61, 32, 119, 104, 101, 110, 32, 120, 32] ++ W)) = [[97], [61], [119, 104, 101, 110], [120], W] := by
    simp [cutL, cut_all w2, filL, fil_keep w3]
  have c3 : filL (cutL 32 ([110, 32, 61, 32, 119, 104, 101, 110, 32, 120, 32] ++ T)) = [[110], [61], [119, 104, 101, 110], [120], T] := by
    simp [cutL, cut_all t2, filL, fil_keep t3]
  have c4 : filL (cutL 32 ([121, 32, 61, 32, 109, 101, 114, 103, 101, 32] ++ (M ++ [32, p, 32, q]))) = [[121], [61], [109, 101, 114, 103, 101], M, [p], [q]] := by
    simp [cutL, cut_pre m2, pre, filL, hp32, hq32, fil_keep m3]
  have c5 : filL (cutL 32 [111, 117, 116, 32, 121]) = [[111, 117, 116], [121]] := by rfl
  have q1 : parseL [[105, 110], [120], [40, 49, 41]] = some ⟨0, 1, [120], [], 0, ([], [true])⟩ := by rfl
  have q5 : parseL [[111, 117, 116], [121]] = some ⟨0, 13, [], [[121]], 0, ([], [])⟩ := by rfl
  unfold sourceL
  rw [if_neg hlen, ap_cut hp10 hq10 w1 t1 m1]
  simp only [readL, c1, c2, c3, c4, c5, q1, q5, parse_when (nm := 97) (.inl rfl) w5, parse_when (nm := 110) (.inr rfl) t5, parse_merge hpq m5, List.isEmpty_cons, Bool.false_eq_true, if_false]
  rfl
/-- Its steps ahead of the clocks, and behind. -/
def apQ (a b m : Wd) (i j : Nat) (c1 c2 c3 c4 : Wd) : List St := [⟨1, 1, [120], [], 0, ([], [true]), c1⟩, ⟨2, 10, [97], [0], 0, a, c2⟩, ⟨3, 10, [110], [0], 0, b, c3⟩, ⟨4, 11, [121], [i, j], 0, m, c4⟩, ⟨5, 13, [], [3], 0, ([], []), ([], [])⟩]
theorem ap_link {a b m : Wd} {p q : UInt8} {i j : Nat} (h : (p = 97 ∧ q = 110 ∧ i = 1 ∧ j = 2) ∨ (p = 110 ∧ q = 97 ∧ i = 2 ∧ j = 1)) : linkL (apLs a b m p q) (apLs a b m p q) = .ok (apQ a b m i j ([], []) ([], []) ([], []) ([], [])) ∧ (twF (apLs a b m p q)).1 = 0 := by
  rcases h with ⟨rfl, rfl, rfl, rfl⟩ | ⟨rfl, rfl, rfl, rfl⟩
  · exact ⟨rfl, rfl⟩
  · exact ⟨rfl, rfl⟩
theorem tick_set {qs : List St} {k : Nat} {s : St} {c : Wd} {m : Bool} (h : qs[k]? = some s) (h0 : hasC s.ck = false) (hc : ckOf qs s = c) (hl : longW c = false) (hh : hasC c = true) : tick qs k m = .ok (qs.set k { s with ck := c }, true) := by
  unfold tick
  rw [h]
  simp only [h0, hc, hl, hh, Bool.false_eq_true, if_false, if_true]
theorem tick_skip {qs : List St} {k : Nat} {s : St} {m : Bool} (h : qs[k]? = some s) (h0 : hasC s.ck = true) : tick qs k m = .ok (qs, m) := by
  unfold tick
  rw [h]
  simp only [h0, if_true]
theorem tick_none {qs : List St} {k : Nat} {s : St} {m : Bool} (h : qs[k]? = some s) (h0 : hasC s.ck = false) (hc : ckOf qs s = ([], [])) : tick qs k m = .ok (qs, m) := by
  unfold tick
  rw [h]
  simp only [h0, hc, Bool.false_eq_true, if_false]
  rfl
theorem hasC_of {c : Wd} (h : c.2 ≠ []) : hasC c = true := by
  unfold hasC
  cases hc : c.2 with
  | nil => exact absurd hc h
  | cons a b => rfl
theorem short_no {c : Wd} (h : c.1.length ≤ 64 ∧ c.2.length ≤ 64) : longW c = false := by
  unfold longW
  simp
  omega
theorem ap_solve {a b m c2 c3 c4 : Wd} {i j : Nat} (hij : (i = 1 ∧ j = 2) ∨ (i = 2 ∧ j = 1)) (e2 : onW ([], [true]) a = c2) (e3 : onW ([], [true]) b = c3) (e4 : (i = 1 → orW c2 c3 = c4) ∧ (i = 2 → orW c3 c2 = c4))
    (h2 : hasC c2 = true) (h3 : hasC c3 = true) (h4 : hasC c4 = true) (l2 : longW c2 = false) (l3 : longW c3 = false) (l4 : longW c4 = false) :
    solveL 6 ((apQ a b m i j ([], []) ([], []) ([], []) ([], [])).map give) = .ok (apQ a b m i j ([], [true]) c2 c3 c4) := by
  have hgive : (apQ a b m i j ([], []) ([], []) ([], []) ([], [])).map give = apQ a b m i j ([], [true]) ([], []) ([], []) ([], []) := rfl
  have s0 : ∀ x y z mm, tick (apQ a b m i j ([], [true]) x y z) 0 mm = .ok (apQ a b m i j ([], [true]) x y z, mm) := fun x y z mm => tick_skip (s := ⟨1, 1, [120], [], 0, ([], [true]), ([], [true])⟩) rfl rfl
  have s1 : ∀ y z mm, tick (apQ a b m i j ([], [true]) ([], []) y z) 1 mm = .ok (apQ a b m i j ([], [true]) c2 y z, true) := fun y z mm => tick_set (s := ⟨2, 10, [97], [0], 0, a, ([], [])⟩) rfl rfl (by rw [← e2]; rfl) l2 h2
  have s2 : ∀ z mm, tick (apQ a b m i j ([], [true]) c2 ([], []) z) 2 mm = .ok (apQ a b m i j ([], [true]) c2 c3 z, true) := fun z mm => tick_set (s := ⟨3, 10, [110], [0], 0, b, ([], [])⟩) rfl rfl (by rw [← e3]; rfl) l3 h3
  have s3 : ∀ mm, tick (apQ a b m i j ([], [true]) c2 c3 ([], [])) 3 mm = .ok (apQ a b m i j ([], [true]) c2 c3 c4, true) := fun mm => by
    refine tick_set (s := ⟨4, 11, [121], [i, j], 0, m, ([], [])⟩) rfl rfl ?_ l4 h4
    rcases hij with ⟨rfl, rfl⟩ | ⟨rfl, rfl⟩
    · rw [← e4.1 rfl]
      show (if (true && hasC c2 && hasC c3) = true then orW c2 c3 else ([], [])) = _
      rw [h2, h3]; rfl
    · rw [← e4.2 rfl]
      show (if (true && hasC c3 && hasC c2) = true then orW c3 c2 else ([], [])) = _
      rw [h2, h3]; rfl
  have s4 : ∀ mm, tick (apQ a b m i j ([], [true]) c2 c3 c4) 4 mm = .ok (apQ a b m i j ([], [true]) c2 c3 c4, mm) := fun mm => tick_none (s := ⟨5, 13, [], [3], 0, ([], []), ([], [])⟩) rfl rfl rfl
  have k1 : ∀ mm, tick (apQ a b m i j ([], [true]) c2 c3 c4) 1 mm = .ok (apQ a b m i j ([], [true]) c2 c3 c4, mm) := fun mm => tick_skip (s := ⟨2, 10, [97], [0], 0, a, c2⟩) rfl h2
  have k2 : ∀ mm, tick (apQ a b m i j ([], [true]) c2 c3 c4) 2 mm = .ok (apQ a b m i j ([], [true]) c2 c3 c4, mm) := fun mm => tick_skip (s := ⟨3, 10, [110], [0], 0, b, c3⟩) rfl h3
  have k3 : ∀ mm, tick (apQ a b m i j ([], [true]) c2 c3 c4) 3 mm = .ok (apQ a b m i j ([], [true]) c2 c3 c4, mm) := fun mm => tick_skip (s := ⟨4, 11, [121], [i, j], 0, m, c4⟩) rfl h4
  have hlen : ∀ x y z t, (apQ a b m i j x y z t).length = 5 := fun _ _ _ _ => rfl
  have p1 : pass 5 (apQ a b m i j ([], [true]) ([], []) ([], []) ([], [])) 0 false = .ok (apQ a b m i j ([], [true]) c2 c3 c4, true) := by
    simp only [pass, s0, s1, s2, s3, s4]
  have p2 : pass 5 (apQ a b m i j ([], [true]) c2 c3 c4) 0 false = .ok (apQ a b m i j ([], [true]) c2 c3 c4, false) := by
    simp only [pass, s0, k1, k2, k3, s4]
  rw [hgive, solveL, hlen, p1]
  simp only [if_true]
  rw [solveL, hlen, p2]
  simp
theorem no_hang {qs : List St} (rk : Nat → Nat) (h : ∀ k y, Edge qs k y → rk y < rk k) (k : Nat) : hangB qs k = false := by
  have key : ∀ y, Reach qs k y → rk y < rk k := by
    intro y hr
    induction hr with
    | one he => exact h _ _ he
    | more _ he ih => exact Nat.lt_trans (h _ _ he) ih
  cases hb : hangB qs k with
  | false => rfl
  | true => exact absurd (key k ((hangB_iff qs k).1 hb)) (Nat.lt_irrefl _)
theorem ap_edge {a b m c1 c2 c3 c4 : Wd} {i j : Nat} (hi : i < 3) (hj : j < 3) (k y : Nat) (h : Edge (apQ a b m i j c1 c2 c3 c4) k y) : y < k := by
  obtain ⟨s, h1, _, h3⟩ := h
  have hk : k < 5 := (List.getElem?_eq_some_iff.1 h1).1
  have : k = 0 ∨ k = 1 ∨ k = 2 ∨ k = 3 ∨ k = 4 := by omega
  rcases this with rfl | rfl | rfl | rfl | rfl <;> (injection h1 with h1; subst h1; simp at h3; try omega)
/-- The program: F the word's stream. -/
theorem ap_comp {u v : List Bool} (hu : u.length ≤ 12) (hv : v.length ≤ 12) (hv0 : v ≠ []) (sw : Bool) : ∃ a b m c2 c3 c4, WdOf (bitAt u v) c2 ∧ WdOf (fun n => !bitAt u v n) c3 ∧ WdOf (fun _ => true) c4 ∧ (sw = false → WdOf (bitAt u v) m) ∧ (sw = true → WdOf (fun n => !bitAt u v n) m) ∧
    compF (apL (txtL u v) (txtL (u.map not) (v.map not)) (if sw then txtL (u.map not) (v.map not) else txtL u v) (if sw then apE 110 97 else apE 97 110)) = .ok (apQ a b m (if sw then 2 else 1) (if sw then 1 else 2) ([], [true]) c2 c3 c4) := by
  have hnb : ∀ n, bitAt (u.map not) (v.map not) n = !bitAt u v n := by
    intro n
    unfold bitAt
    rw [List.length_map, List.length_map]
    by_cases h : n < u.length
    · rw [if_pos h, if_pos h]; simp [h]
    · rw [if_neg h, if_neg h]
      have : (n - u.length) % v.length < v.length := Nat.mod_lt _ (List.length_pos_iff.2 hv0)
      simp [this]
  have hu' : (u.map not).length ≤ 12 := by simpa using hu
  have hv' : (v.map not).length ≤ 12 := by simpa using hv
  have hv0' : v.map not ≠ [] := by simpa using hv0
  obtain ⟨a, a1, a2, a3, a4⟩ := wd_txt hu hv hv0
  obtain ⟨b, b1, b2, b3, b4⟩ := wd_txt hu' hv' hv0'
  have b2' : WdOf (fun n => !bitAt u v n) b := ⟨b2.ne, fun n => by rw [b2.bits, hnb], b2.nf.congr hnb⟩
  have hE := EP_bitAt u v hv0
  have hE' : EP (fun n => !bitAt u v n) u.length v.length := EP_map hE
  have c2 := wd_one.on a2 (fun _ => rfl)
  have c3 := wd_one.on b2' (fun _ => rfl)
  have hall : ∀ n, (bitAt u v n || !bitAt u v n) = true := fun n => by cases bitAt u v n <;> rfl
  have hall' : ∀ n, (!bitAt u v n || bitAt u v n) = true := fun n => by cases bitAt u v n <;> rfl
  have eqs : onW ([], [true]) a = a ∧ onW ([], [true]) b = b := ⟨c2.eq a2 (fun _ => rfl), c3.eq b2' (fun _ => rfl)⟩
  have o1 := a2.or b2'
  have o2 := b2'.or a2
  have c4 : orW a b = ([], [true]) := o1.eq wd_one hall
  have c4' : orW b a = ([], [true]) := o2.eq wd_one hall'
  have hWt : (10 : UInt8) ∉ txtL u v ∧ (32 : UInt8) ∉ txtL u v ∧ txtL u v ≠ [] ∧ (txtL u v).length ≤ 26 := ⟨txt_no (by decide), txt_no (by decide), by unfold txtL; simp, by rw [txtL_length]; omega⟩
  have hTt : (10 : UInt8) ∉ txtL (u.map not) (v.map not) ∧ (32 : UInt8) ∉ txtL (u.map not) (v.map not) ∧ txtL (u.map not) (v.map not) ≠ [] ∧ (txtL (u.map not) (v.map not)).length ≤ 26 := ⟨txt_no (by decide), txt_no (by decide), by unfold txtL; simp, by rw [txtL_length]; omega⟩
  have fin : ∀ (M : List UInt8) (m : Wd) (p q : UInt8) (i j : Nat), ((p = 97 ∧ q = 110 ∧ i = 1 ∧ j = 2) ∨ (p = 110 ∧ q = 97 ∧ i = 2 ∧ j = 1)) → ((10 : UInt8) ∉ M ∧ (32 : UInt8) ∉ M ∧ M ≠ [] ∧ M.length ≤ 26 ∧ wdL M = some m) →
      (fitMg (apQ a b m i j ([], [true]) a b ([], [true])) ⟨4, 11, [121], [i, j], 0, m, ([], [true])⟩ = true) →
      compF (apL (txtL u v) (txtL (u.map not) (v.map not)) M (apE p q)) = .ok (apQ a b m i j ([], [true]) a b ([], [true])) := by
    intro M m p q i j hpq hM hfit
    have hpq' : (p = 97 ∧ q = 110) ∨ (p = 110 ∧ q = 97) := hpq.imp (fun h => ⟨h.1, h.2.1⟩) (fun h => ⟨h.1, h.2.1⟩)
    have hij : (i = 1 ∧ j = 2) ∨ (i = 2 ∧ j = 1) := hpq.imp (fun h => h.2.2) (fun h => h.2.2)
    have hsrc := ap_source (p := p) (q := q) (a := a) (b := b) (m := m) hpq' ⟨hWt.1, hWt.2.1, hWt.2.2.1, hWt.2.2.2, a1⟩ ⟨hTt.1, hTt.2.1, hTt.2.2.1, hTt.2.2.2, b1⟩ hM
    obtain ⟨hlink, htw⟩ := ap_link (a := a) (b := b) (m := m) hpq
    have hsol := ap_solve (a := a) (b := b) (m := m) (c2 := a) (c3 := b) (c4 := ([], [true])) hij eqs.1 eqs.2 ⟨fun _ => c4, fun _ => c4'⟩ (hasC_of a2.ne) (hasC_of b2.ne) rfl (short_no ⟨by omega, by omega⟩) (short_no ⟨by omega, by omega⟩) rfl
    unfold compF
    rw [hsrc]
    simp only
    unfold makeF
    rw [if_pos htw, hlink]
    simp only
    have hhang : (firstF 9 (apQ a b m i j ([], []) ([], []) ([], []) ([], [])) (hangB (apQ a b m i j ([], []) ([], []) ([], []) ([], [])))).1 = 0 := by
      rw [firstF_none (fun k _ => no_hang (fun x => x) (ap_edge (by rcases hij with ⟨rfl, rfl⟩ | ⟨rfl, rfl⟩ <;> omega) (by rcases hij with ⟨rfl, rfl⟩ | ⟨rfl, rfl⟩ <;> omega)) k)]
    rw [if_pos hhang]
    have hl6 : (apQ a b m i j ([], []) ([], []) ([], []) ([], [])).length + 1 = 6 := rfl
    rw [hl6, hsol]
    simp only
    have hfitF : (firstF 10 (apQ a b m i j ([], [true]) a b ([], [true])) (badFit (apQ a b m i j ([], [true]) a b ([], [true])))).1 = 0 := by
      rw [firstF_none (fun k hk => ?_)]
      have hk5 : k < 5 := hk
      have : k = 0 ∨ k = 1 ∨ k = 2 ∨ k = 3 ∨ k = 4 := by omega
      rcases this with rfl | rfl | rfl | rfl | rfl
      · rfl
      · show (!(if (!hasC a) = true then false else true)) = false
        rw [hasC_of a2.ne]; rfl
      · show (!(if (!hasC b) = true then false else true)) = false
        rw [hasC_of b2.ne]; rfl
      · show (!fitMg (apQ a b m i j ([], [true]) a b ([], [true])) ⟨4, 11, [121], [i, j], 0, m, ([], [true])⟩) = false
        rw [hfit]; rfl
      · rfl
    rw [if_pos hfitF]
  cases sw with
  | false =>
    refine ⟨a, b, a, a, b, ([], [true]), a2, b2', wd_one, fun _ => a2, (fun h => by cases h), ?_⟩
    refine fin (txtL u v) a 97 110 1 2 (.inl ⟨rfl, rfl, rfl, rfl⟩) ⟨hWt.1, hWt.2.1, hWt.2.2.1, hWt.2.2.2, a1⟩ ?_
    have n1 := wd_one.on a2.not (fun _ => rfl)
    have e2 : onW ([], [true]) (notW a) = b := n1.eq b2' (fun _ => rfl)
    show (onW ([], [true]) a == a && onW ([], [true]) (notW a) == b) = true
    rw [eqs.1, e2]; simp
  | true =>
    refine ⟨a, b, b, a, b, ([], [true]), a2, b2', wd_one, (fun h => by cases h), fun _ => b2', ?_⟩
    refine fin (txtL (u.map not) (v.map not)) b 110 97 2 1 (.inr ⟨rfl, rfl, rfl, rfl⟩) ⟨hTt.1, hTt.2.1, hTt.2.2.1, hTt.2.2.2, b1⟩ ?_
    have n1 := wd_one.on b2'.not (fun _ => rfl)
    have e2 : onW ([], [true]) (notW b) = a := n1.eq a2 (fun n => by simp)
    show (onW ([], [true]) b == b && onW ([], [true]) (notW b) == a) = true
    rw [eqs.2, e2]; simp
end Go.Proofs.Ytfbkjopidjojeab

namespace Go.Proofs.Ytfbkjopidjojeab
open Go.RowKit

theorem nextL_note (us ts : List Tk) (t : Nat) (x : Tk) : nextL us (noteX ts t x) = nextL us x := by
  unfold noteX; split <;> rfl
/-- A step from tick to tick. -/
theorem sim_next {rs : List St} (hg : Good rs) {X : List Nat} (ho : OrdOk rs X) {ts : List Tk} (h : At rs 0 ts) {t k : Nat} {x : Tk} (hx : (simL X ts t)[k]? = some x) :
    ∃ y, (simL X ts (t + 1))[k]? = some y ∧ y.made = x.made ++ if ckS x.st t then [nextL (simL X ts (t + 1)) x] else [] := by
  have hn : (noteL (simL X ts t) t)[k]? = some (noteX (simL X ts t) t x) := by unfold noteL; rw [List.getElem?_map, hx]; rfl
  have hstep := (sim_step hg ho (sim_at hg ho h t)).each k _ hn
  refine ⟨_, hstep, ?_⟩
  show (noteX (simL X ts t) t x).made ++ _ = _
  rw [(noteX_st _ _ x).2.2.2, nextL_note]
  unfold Tk.bit
  rw [(noteX_st _ _ x).1]
theorem last_snoc (l : List Int) (z : Int) : (l ++ [z]).getD ((l ++ [z]).length - 1) 0 = z := by
  simp
theorem take_snoc_getD {L : List Int} {t : Nat} (h : t < L.length) : L.take (t + 1) = L.take t ++ [L.getD t 0] := by
  rw [take_one h]; simp [h]
theorem ap_run {u v : List Bool} {a b m c2 c3 c4 : Wd} {sw : Bool} {tx : List UInt8} (hc : compF tx = .ok (apQ a b m (if sw then 2 else 1) (if sw then 1 else 2) ([], [true]) c2 c3 c4))
    (h2 : WdOf (bitAt u v) c2) (h3 : WdOf (fun n => !bitAt u v n) c3) (h4 : WdOf (fun _ => true) c4) (hm0 : sw = false → WdOf (bitAt u v) m) (hm1 : sw = true → WdOf (fun n => !bitAt u v n) m)
    {X : List Nat} (ho : OrdOk (apQ a b m (if sw then 2 else 1) (if sw then 1 else 2) ([], [true]) c2 c3 c4) X) (L : List Int) (hL : L.length = 30) {en tk : Nat} {us : List Tk} (hr : runL X 30 0 (beginL (apQ a b m (if sw then 2 else 1) (if sw then 1 else 2) ([], [true]) c2 c3 c4) [L] []) = (en, tk, us)) :
    en = 1 ∧ tk = 30 ∧ outsOf us us = [L] := by
  have hg := comp_good hc
  have hat := begin_at (apQ a b m (if sw then 2 else 1) (if sw then 1 else 2) ([], [true]) c2 c3 c4) [L] []
  have hcn : cntL (apQ a b m (if sw then 2 else 1) (if sw then 1 else 2) ([], [true]) c2 c3 c4) 1 = 1 := rfl
  obtain ⟨hus, _, _, hend⟩ := run_nil hg ho (Ls := [L]) (n := 30) (fun l hl => by rw [List.mem_singleton.1 hl]; exact hL) (by rw [hcn]; rfl) (by decide) hr
  have he : en = 1 ∧ tk = 30 := by
    rcases hend with h | ⟨_, h, hw⟩
    · exact h
    · exact absurd hw (want_never (by omega))
  refine ⟨he.1, he.2, ?_⟩
  have hmost : ∀ x ∈ beginL (apQ a b m (if sw then 2 else 1) (if sw then 1 else 2) ([], [true]) c2 c3 c4) [L] [], x.most = 0 := fun x hx => (beginL_mem hx).2
  generalize hRe : apQ a b m (if sw then 2 else 1) (if sw then 1 else 2) ([], [true]) c2 c3 c4 = R at *
  have hb : ∀ k : Nat, (beginL R [L] [])[k]? = (beginL (apQ a b m (if sw then 2 else 1) (if sw then 1 else 2) ([], [true]) c2 c3 c4) [L] [])[k]? := fun k => by rw [hRe]
  obtain ⟨x00, hx00, hl00, hs00⟩ : ∃ x, (beginL R [L] [])[0]? = some x ∧ x.list = L ∧ x.st = ⟨1, 1, [120], [], 0, ([], [true]), ([], [true])⟩ := ⟨_, by rw [hb]; rfl, rfl, rfl⟩
  obtain ⟨x10, hx10, hs10⟩ : ∃ x, (beginL R [L] [])[1]? = some x ∧ x.st = ⟨2, 10, [97], [0], 0, a, c2⟩ := ⟨_, by rw [hb]; rfl, rfl⟩
  obtain ⟨x20, hx20, hs20⟩ : ∃ x, (beginL R [L] [])[2]? = some x ∧ x.st = ⟨3, 10, [110], [0], 0, b, c3⟩ := ⟨_, by rw [hb]; rfl, rfl⟩
  obtain ⟨x30, hx30, hs30⟩ : ∃ x, (beginL R [L] [])[3]? = some x ∧ x.st = ⟨4, 11, [121], [if sw then 2 else 1, if sw then 1 else 2], 0, m, c4⟩ := ⟨_, by rw [hb]; rfl, rfl⟩
  have key : ∀ t, t ≤ 30 → ∃ x y, (simL X (beginL R [L] []) t)[0]? = some x ∧ x.made = L.take t ∧ (simL X (beginL R [L] []) t)[3]? = some y ∧ y.made = L.take t := by
    intro t
    induction t with
    | zero =>
      intro _
      refine ⟨x00, x30, hx00, ?_, hx30, ?_⟩
      · rw [(beginL_mem (List.mem_of_getElem? hx00)).1]; rfl
      · rw [(beginL_mem (List.mem_of_getElem? hx30)).1]; rfl
    | succ t ih =>
      intro ht
      obtain ⟨x, y, hx, hxm, hy, hym⟩ := ih (by omega)
      obtain ⟨x', ex, sx⟩ := sim_x hg ho hat hmost hx00 t
      rw [hx] at ex; injection ex with ex; subst ex
      obtain ⟨y', ey, sy⟩ := sim_x hg ho hat hmost hx30 t
      rw [hy] at ey; injection ey with ey; subst ey
      obtain ⟨p, hp, sp⟩ := sim_x hg ho hat hmost hx10 t
      obtain ⟨q, hq, sq⟩ := sim_x hg ho hat hmost hx20 t
      obtain ⟨nx, hnx, mx'⟩ := sim_next hg ho hat hx
      obtain ⟨np, hnp, mp⟩ := sim_next hg ho hat hp
      obtain ⟨nq, hnq, mq⟩ := sim_next hg ho hat hq
      obtain ⟨ny, hny, my⟩ := sim_next hg ho hat hy
      have xst : x.st = ⟨1, 1, [120], [], 0, ([], [true]), ([], [true])⟩ := sx.st.trans hs00
      have pst : p.st = ⟨2, 10, [97], [0], 0, a, c2⟩ := sp.st.trans hs10
      have qst : q.st = ⟨3, 10, [110], [0], 0, b, c3⟩ := sq.st.trans hs20
      have yst : y.st = ⟨4, 11, [121], [if sw then 2 else 1, if sw then 1 else 2], 0, m, c4⟩ := sy.st.trans hs30
      have hxlen : x.made.length = t := by rw [hxm, List.length_take]; omega
      have hylen : y.made.length = t := by rw [hym, List.length_take]; omega
      have bx : ckS x.st t = true := by rw [xst]; exact wd_one.bits t
      have by_ : ckS y.st t = true := by rw [yst]; exact h4.bits t
      have bp : ckS p.st t = bitAt u v t := by rw [pst]; exact h2.bits t
      have bq : ckS q.st t = !bitAt u v t := by rw [qst]; exact h3.bits t
      have vx : nx.made = L.take (t + 1) := by
        rw [mx', bx, if_pos rfl, take_snoc_getD (by omega), hxm]
        congr 1
        show [nextL _ x] = _
        unfold nextL
        rw [xst, sx.list, hl00, hxlen]; rfl
      have hmx : ∀ s : St, s.uses[0]? = some 0 → lastL (simL X (beginL R [L] []) (t + 1)) s 0 = L.getD t 0 := fun s hs => by
        unfold lastL
        rw [madeAt_of hs hnx, vx, take_snoc_getD (by omega)]
        exact last_snoc _ _
      have vp : bitAt u v t = true → np.made = p.made ++ [L.getD t 0] := fun hF => by
        rw [mp, bp, hF, if_pos rfl]
        congr 2
        unfold nextL
        rw [pst]
        exact hmx _ rfl
      have vq : bitAt u v t = false → nq.made = q.made ++ [L.getD t 0] := fun hF => by
        rw [mq, bq, hF]
        show q.made ++ [_] = _
        congr 2
        unfold nextL
        rw [qst]
        exact hmx _ rfl
      refine ⟨nx, ny, hnx, vx, hny, ?_⟩
      rw [my, by_, if_pos rfl, take_snoc_getD (by omega), hym]
      congr 2
      have hnext : nextL (simL X (beginL R [L] []) (t + 1)) y = if bitAt m.1 m.2 t then lastL (simL X (beginL R [L] []) (t + 1)) y.st 0 else lastL (simL X (beginL R [L] []) (t + 1)) y.st 1 := by
        unfold nextL
        rw [hylen, yst]; rfl
      rw [hnext]
      have lp : ∀ i, y.st.uses[i]? = some 1 → bitAt u v t = true → lastL (simL X (beginL R [L] []) (t + 1)) y.st i = L.getD t 0 := fun i hi hF => by
        unfold lastL
        rw [madeAt_of hi hnp, vp hF]
        exact last_snoc _ _
      have lq : ∀ i, y.st.uses[i]? = some 2 → bitAt u v t = false → lastL (simL X (beginL R [L] []) (t + 1)) y.st i = L.getD t 0 := fun i hi hF => by
        unfold lastL
        rw [madeAt_of hi hnq, vq hF]
        exact last_snoc _ _
      cases sw with
      | false =>
        rw [(hm0 rfl).bits t]
        cases hF : bitAt u v t with
        | true => rw [if_pos rfl]; exact lp 0 (by rw [yst]; rfl) hF
        | false => rw [if_neg (by simp)]; exact lq 1 (by rw [yst]; rfl) hF
      | true =>
        rw [(hm1 rfl).bits t]
        cases hF : bitAt u v t with
        | true => rw [if_neg (by simp)]; exact lp 1 (by rw [yst]; rfl) hF
        | false => rw [if_pos (by simp)]; exact lq 0 (by rw [yst]; rfl) hF
  obtain ⟨x, y, _, _, hy, hym⟩ := key 30 (Nat.le_refl _)
  have hst := (sim_at hg ho hat 30).st
  rw [he.2] at hus
  rw [← hus] at hst hy
  rw [outs_q hg.named hst]
  have hq : outQ R = [⟨5, 13, [], [3], 0, ([], []), ([], [])⟩] := by rw [← hRe]; rfl
  rw [hq]
  show [madeAt us _ 0] = [L]
  rw [madeAt_of (j := 3) rfl hy, hym, List.take_of_length_le (by omega)]
end Go.Proofs.Ytfbkjopidjojeab

namespace Go.Proofs.Ytfbkjopidjojeab
open Go.RowKit

/-- Numbers of a key. -/
def NumIsL (B n : Nat) (e : Ending) (w' : World) : Prop := ∃ v L, e = .returned v ∧ L.length = n ∧ w'.ownsRow B 3 1 v n (zs L)

set_option maxRecDepth 50000 in
set_option maxHeartbeats 1000000 in
theorem numbers_any (key : Int) (n : Nat) (w : World) (hn : n ≤ 1000) :
    Calls Try.prog 25 #[.int .i64 key, .int .i64 n] w fun e w' => NumIsL w.heap.size n e w' ∧ Below w.heap.size w w' := by
  obtain ⟨j0, hjI, hyI0, hyI1, hyI2⟩ := info_parts Try.info3
  go_enter Try.func25, Try.ntmps25
  go_wp2
  go_loopw [5, 6] (fun r i wr => ∃ (k : Nat) (r1 : Value) (L : List Int), i = .int .i64 k ∧ r = r1 ∧ k ≤ n ∧ L.length = k ∧ wr.ownsRow w.heap.size 3 1 r1 k (zs L) ∧ Below w.heap.size w wr) (fun _ i _ => n - (intOf i).toNat)
  case atStart => exact ⟨0, _, [], rfl, rfl, Nat.zero_le _, rfl, World.ownsRow_nil _ _ _ _, Below.refl _ _⟩
  case round =>
    obtain ⟨k, rv, L, rfl, hrv, hk, hL, hown, hnx⟩ := hrel
    replace hrv := hrv.symm
    subst hrv
    have hsz := hnx.size
    by_cases hlt : k < n
    · have HL : Hid (L.length = k) := hL
      clear hL
      go_wp2_with (at_builtin; refine wpList_append_own _ rfl _ _ 38 rfl w.heap.size 3 j0 (.int .i64 0) 1 8 Try.under38 hjI hyI0 hyI1 hyI2 rfl (by decide) _ _ _ rfl (hown.alloc _) ⟨wr.heap.size, 0, none⟩ 1 1 [_] rfl rfl (cell_one_new _ _ _) (by intro x hx; simp at hx; subst hx; rfl) (by unfold maxLen; omega) (by omega) (by simp; omega) ?_; intro v' w' hown' hgrow _)
      have hb' : Below w.heap.size w w' := (hnx.alloc hsz _).grown hgrow (by simp; omega) (fun j hj => (hown.lt j hj).1)
      have hw2 : ∃ z : Int, w'.ownsRow w.heap.size 3 1 v' (k + 1) (zs (L ++ [z])) := ⟨_, by rw [zs_snoc]; exact hown'⟩
      obtain ⟨z, hw3⟩ := hw2
      clear hown' hgrow hown hnx
      go_wp2
      go_roundw
      case rel => exact ⟨k + 1, _, L ++ [z], by go_num, rfl, by omega, by rw [List.length_append, HL.out]; rfl, hw3, hb'⟩
      case measure => simp [intOf]; omega
    · have hkn : k = n := by omega
      subst hkn
      have HL : Hid (L.length = k) := hL
      clear hL
      go_wp2
      go_ret
      exact ⟨⟨_, L, rfl, HL.out, hown⟩, hnx⟩

/-- Bytes as cells. -/
def ucs (l : List UInt8) : List Value := l.map fun c => .int .u8 (c.toNat : Int)
theorem ucs_length (l : List UInt8) : (ucs l).length = l.length := by simp [ucs]
theorem own_bytes {w : World} {base n : Nat} {v : Value} {l : List UInt8} (h : w.ownsRow base 5 1 v n (ucs l)) (hn : 0 < n) : (convert 81 9 v).run Try.prog w = .ok (.string (S l)) w := by
  obtain ⟨g, cap, rfl⟩ := own_form h hn
  have hl : l.length = n := by have := h.1; rw [ucs_length] at this; omega
  have := run_convert_bytes_back (P := Try.prog) w 81 9 5 ⟨g, 0, none⟩ cap l Try.under81 Try.under5 Try.under9 (fun j hj => by
    have e : (⟨g, 0, none⟩ : Addr).add j = ⟨g, j, none⟩ := by unfold Addr.add; split <;> simp_all
    rw [e, h.cellAt j (by omega)]
    simp [ucs, hj])
  rw [hl] at this
  exact this
/-- A byte turned. -/
def tb (c : UInt8) : UInt8 := if c = 48 then 49 else if c = 49 then 48 else c
theorem tb_bb (b : Bool) : tb (bb b) = bb (!b) := by cases b <;> rfl
theorem tb_txt (u v : List Bool) : (txtL u v).map tb = txtL (u.map not) (v.map not) := by
  unfold txtL
  have h : ∀ l : List Bool, (l.map bb).map tb = (l.map not).map bb := fun l => by
    rw [List.map_map, List.map_map]
    apply List.map_congr_left
    intro b _; exact tb_bb b
  simp only [List.map_append, List.map_cons, h]
  rfl

set_option maxRecDepth 50000 in
set_option maxHeartbeats 1000000 in
theorem turned_any (s : ByteArray) (w : World) (hs : s.size ≤ 1000) (hs0 : 0 < s.size) :
    Calls Try.prog 27 #[.string s] w fun e w' => e = .returned (.string (S (s.data.toList.map tb))) ∧ Below w.heap.size w w' := by
  obtain ⟨i0, hi, hz0, hz1, hz2⟩ := info_parts Try.info5
  have hl : s.data.toList.length = s.size := by simp
  go_enter Try.func27, Try.ntmps27
  go_wp2
  go_loopw [3, 4, 5] (fun r i _ wr => ∃ (k : Nat) (r1 : Value), i = .int .i64 k ∧ r = r1 ∧ k ≤ s.size ∧ wr.ownsRow w.heap.size 5 1 r1 k (ucs ((s.data.toList.take k).map tb)) ∧ Below w.heap.size w wr) (fun _ i _ _ => s.size - (intOf i).toNat)
  case atStart => exact ⟨0, _, rfl, rfl, Nat.zero_le _, World.ownsRow_nil _ _ _ _, Below.refl _ _⟩
  case round =>
    obtain ⟨k, rv, rfl, hrv, hk, hown, hnx⟩ := hrel
    replace hrv := hrv.symm
    subst hrv
    have hsz := hnx.size
    by_cases hlt : k < s.size
    · have HT : ∀ c : UInt8, s[k] = c → Hid (ucs ((s.data.toList.take (k + 1)).map tb) = ucs ((s.data.toList.take k).map tb) ++ [.int .u8 ((tb c).toNat : Int)]) := fun c hc => by
        show _ = _
        rw [take_one (by rw [hl]; exact hlt), List.map_append, get_toList _ _ hlt, hc]
        simp [ucs]
      have fin : ∀ (z : Int) (c : UInt8), s[k] = c → ((tb c).toNat : Int) = z → Hid (ucs ((s.data.toList.take (k + 1)).map tb) = ucs ((s.data.toList.take k).map tb) ++ [.int .u8 z]) := fun z c hc hz => by
        rw [← hz]; exact HT c hc
      have hx : ∃ c, s[k] = c := ⟨_, rfl⟩
      obtain ⟨c, hc⟩ := hx
      by_cases h48 : c = 48
      · have H2 := fin 49 c hc (by rw [h48]; rfl)
        have g1 : ((s[k].toNat : Int) == 48) = true := by rw [hc, h48]; rfl
        clear HT fin hc h48
        go_wp2_with (at_builtin; refine wpList_append_own _ rfl _ _ 81 rfl w.heap.size 5 i0 (.int .u8 0) 1 1 Try.under81 hi hz0 hz1 hz2 rfl (by decide) _ _ _ rfl (hown.alloc _) ⟨wr.heap.size, 0, none⟩ 1 1 [.int .u8 49] rfl rfl (cell_one_new _ _ _) (by intro x hx; simp at hx; subst hx; rfl) (by unfold maxLen; omega) (by omega) (by simp; omega) ?_; intro v' w' hown' hgrow _)
        have hb' : Below w.heap.size w w' := (hnx.alloc hsz _).grown hgrow (by simp; omega) (fun j hj => (hown.lt j hj).1)
        have hw2 : w'.ownsRow w.heap.size 5 1 v' (k + 1) (ucs ((s.data.toList.take (k + 1)).map tb)) := by rw [H2.out]; exact hown'
        clear hown' hgrow hown hnx
        go_wp2
        go_roundw
        case rel => exact ⟨k + 1, _, by go_num, rfl, by omega, hw2, hb'⟩
        case measure => simp [intOf]; omega
      · have g1 : ((s[k].toNat : Int) == 48) = false := by
          rw [hc, beq_eq_false_iff_ne]
          intro e
          apply h48
          apply UInt8.toNat_inj.1
          show c.toNat = 48
          omega
        by_cases h49 : c = 49
        · have H2 := fin 48 c hc (by rw [h49]; rfl)
          have g2 : ((s[k].toNat : Int) == 49) = true := by rw [hc, h49]; rfl
          clear HT fin hc h48 h49
          go_wp2_with (at_builtin; refine wpList_append_own _ rfl _ _ 81 rfl w.heap.size 5 i0 (.int .u8 0) 1 1 Try.under81 hi hz0 hz1 hz2 rfl (by decide) _ _ _ rfl (hown.alloc _) ⟨wr.heap.size, 0, none⟩ 1 1 [.int .u8 48] rfl rfl (cell_one_new _ _ _) (by intro x hx; simp at hx; subst hx; rfl) (by unfold maxLen; omega) (by omega) (by simp; omega) ?_; intro v' w' hown' hgrow _)
          have hb' : Below w.heap.size w w' := (hnx.alloc hsz _).grown hgrow (by simp; omega) (fun j hj => (hown.lt j hj).1)
          have hw2 : w'.ownsRow w.heap.size 5 1 v' (k + 1) (ucs ((s.data.toList.take (k + 1)).map tb)) := by rw [H2.out]; exact hown'
          clear hown' hgrow hown hnx
          go_wp2
          go_roundw
          case rel => exact ⟨k + 1, _, by go_num, rfl, by omega, hw2, hb'⟩
          case measure => simp [intOf]; omega
        · have g2 : ((s[k].toNat : Int) == 49) = false := by
            rw [hc, beq_eq_false_iff_ne]
            intro e
            apply h49
            apply UInt8.toNat_inj.1
            show c.toNat = 49
            omega
          have H2 := fin (s[k].toNat : Int) c hc (by unfold tb; rw [if_neg h48, if_neg h49, hc])
          clear HT fin hc h48 h49
          go_wp2_with (at_builtin; refine wpList_append_own _ rfl _ _ 81 rfl w.heap.size 5 i0 (.int .u8 0) 1 1 Try.under81 hi hz0 hz1 hz2 rfl (by decide) _ _ _ rfl (hown.alloc _) ⟨wr.heap.size, 0, none⟩ 1 1 [.int .u8 (s[k].toNat : Int)] rfl rfl (cell_one_new _ _ _) (by intro x hx; simp at hx; subst hx; rfl) (by unfold maxLen; omega) (by omega) (by simp; omega) ?_; intro v' w' hown' hgrow _)
          have hb' : Below w.heap.size w w' := (hnx.alloc hsz _).grown hgrow (by simp; omega) (fun j hj => (hown.lt j hj).1)
          have hw2 : w'.ownsRow w.heap.size 5 1 v' (k + 1) (ucs ((s.data.toList.take (k + 1)).map tb)) := by rw [H2.out]; exact hown'
          clear hown' hgrow hown hnx
          go_wp2
          go_roundw
          case rel => exact ⟨k + 1, _, by go_num, rfl, by omega, hw2, hb'⟩
          case measure => simp [intOf]; omega
    · have hke : k = s.size := by omega
      subst hke
      rw [List.take_of_length_le (by rw [hl]; exact Nat.le_refl _)] at hown
      have kv := own_bytes hown hs0
      clear hown
      go_wp2
      go_ret
      exact ⟨rfl, hnx⟩

/-- What one gives: of a program with one input and one output, what comes out. -/
def OneIs (O : List Int) (e : Ending) (w' : World) : Prop := ∃ v, e = .returned (.tuple #[v, .bool true]) ∧ Reads w' v 1 O.length (zs O)

set_option maxRecDepth 50000 in
set_option maxHeartbeats 2000000 in
theorem one_any (s : ByteArray) (R : List St) (lp : Option Addr) (ln lc ticks : Nat) (L O : List Int) (w : World) (hs : s.size ≤ maxLen) (hc : compF s.data.toList = .ok R) (hL : Reads w (.slice lp ln lc) 1 L.length (zs L)) (ht : ticks ≤ 4096) (h1 : cntL R 1 = 1)
    (hrun : ∀ X, OrdOk R X → ∀ en tk us, runL X ticks 0 (beginL R [L] []) = (en, tk, us) → en = 1 ∧ outsOf us us = [O]) :
    Calls Try.prog 26 #[.string s, .slice lp ln lc, .int .i64 ticks] w fun e w' => OneIs O e w' ∧ Below w.heap.size w w' := by
  have hcomp := Compile_any s w hs
  rw [hc] at hcomp
  have HG : Hid (Good R ∧ NoCk R) := ⟨comp_good hc, comp_nock hc⟩
  have HRUN : Hid (∀ X, OrdOk R X → ∀ en tk us, runL X ticks 0 (beginL R [L] []) = (en, tk, us) → en = 1 ∧ outsOf us us = [O]) := hrun
  have HC : Hid (compF s.data.toList = .ok R) := hc
  clear hrun hc hs
  go_enter Try.func26, Try.ntmps26
  go_wp2_with fail
  refine hcomp.mono ?_
  rintro e w1 ⟨hC, hb1⟩
  rcases hC with ⟨f, hf, _⟩ | ⟨qs, v, b, hqs, rfl, hBb, hcell, hsteps⟩
  · cases hf
  · have hq : qs.map Prod.fst = R := by injection hqs with hqs; exact hqs.symm
    have hpw := read_pw (by rw [HC.out, ← hq]) hcell hsteps
    rw [hq] at hpw
    obtain ⟨W, hW⟩ : ∃ W, W = (w1.alloc (Obj.cells #[.int .i64 0, .int .i64 0] 30)).alloc (Obj.cells #[.slice lp ln lc] 38) := ⟨_, rfl⟩
    have hbW : Below w1.heap.size w1 W := by rw [hW]; exact ((Below.refl _ _).alloc (Nat.le_refl _) _).alloc (by simp) _
    have hsW : W.heap.size = w1.heap.size + 1 + 1 := by rw [hW]; simp
    have hcW : W.cell? ⟨w1.heap.size + 1, 0, none⟩ = some (.slice lp ln lc) := by
      have h := heap_alloc_new (w1.alloc (Obj.cells #[.int .i64 0, .int .i64 0] 30)) (Obj.cells #[.slice lp ln lc] 38)
      simp only [World.size_alloc] at h
      rw [← hW] at h
      rw [cell_of_row _ _ 0 _ _ _ h]; rfl
    have hLW := (hL.below hb1 (Nat.le_refl _)).below hbW (Nat.le_refl _)
    have hLL : LL W (.slice (some ⟨w1.heap.size + 1, 0, none⟩) 1 1) [L] := by
      refine ⟨[.slice lp ln lc], rfl, ⟨rfl, _, _, rfl, Nat.le_refl _, .inr ⟨w1.heap.size + 1, 0, rfl, by omega, fun i hi => ?_⟩⟩, fun i hi hi' => ?_⟩
      · have : i = 0 := by simp at hi; omega
        subst this; exact hcW
      · have : i = 0 := by simp at hi; omega
        subst this; exact hLW
    have hr := run_pw (hpw.below hbW) (some ⟨w1.heap.size + 1, 0, none⟩) 1 ticks 1 [L] rfl hLL ht h1.symm
    have hB1 : Below w.heap.size w W := hb1.trans (hbW.mono hb1.size)
    clear hcomp hqs hcell hsteps hpw hq hLW hL hLL hcW
    go_wp2_with fail
    rw [← hW]
    refine hr.mono ?_
    rintro e w2 ⟨⟨X, hO, ov, mv, vs, B, en, tk, us, _, hr2, rfl, hTL⟩, hb2⟩
    obtain ⟨hen, hout⟩ := HRUN.out X hO en tk us hr2
    subst hen
    rw [hout] at hTL
    obtain ⟨hLo, _⟩ := hTL.ll
    obtain ⟨op, on, oc, hoe⟩ := own_isSlice hTL.outs
    subst hoe
    obtain ⟨mp, mn, mc, hme⟩ := own_isSlice hTL.most
    subst hme
    obtain ⟨vs', hv1, hv2, hv3⟩ := hLo
    have hon : on = 1 := by
      obtain ⟨_, q, c', he, _, _⟩ := hv2
      injection he
    subst hon
    obtain ⟨ob, oo, rfl, hob, hoc⟩ := hv2.cell (by simp)
    have hvl : 0 < vs'.length := by rw [hv1]; simp
    have c0 := hoc 0 (by simp)
    rw [Nat.add_zero, List.getElem?_eq_getElem hvl] at c0
    have hrd := hv3 0 hvl (by simp)
    obtain ⟨vp, vc, hve, _⟩ := hrd.form
    rw [hve] at c0 hrd
    have hB2 : Below w.heap.size w w2 := hB1.trans (hb2.mono hB1.size)
    have hbA : ∀ o, Below w2.heap.size w2 (w2.alloc o) := fun o => (Below.refl _ _).alloc (Nat.le_refl _) o
    have HRD : Hid (∀ o, Reads (w2.alloc o) (.slice vp O.length vc) 1 O.length (zs O)) := fun o => hrd.below (hbA o) (Nat.le_refl _)
    have c0' : w2.cell? ⟨ob, oo, none⟩ = some (.slice vp O.length vc) := c0
    clear hr hTL hO hr2 hout hv1 hv2 hv3 hoc hve c0 hrd hW
    go_wp2
    go_ret2
    exact ⟨⟨_, rfl, HRD.out _⟩, hB2.alloc hB2.size _⟩
end Go.Proofs.Ytfbkjopidjojeab

