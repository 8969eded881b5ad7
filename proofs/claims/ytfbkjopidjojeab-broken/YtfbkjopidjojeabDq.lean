/-
  Plain mathematics of programs: what is known of lines that were read, and of steps.
-/
import Derived.Test.YtfbkjopidjojeabDp
namespace Go.Proofs.Ytfbkjopidjojeab
open Go.RowKit

theorem find_getD_le {n : Nat} {q : Nat → Bool} : ((List.range (n + 1)).find? q).getD 0 ≤ n := by
  cases h : (List.range (n + 1)).find? q with
  | none => simp
  | some k =>
    have := List.mem_of_find?_eq_some h
    rw [List.mem_range] at this
    simp; omega
theorem perL_pos {f : Nat → Bool} {m p : Nat} (hp : 0 < p) : 0 < perL f m p := by
  unfold perL
  cases h : (List.range (p + 1)).find? (fun q => decide (0 < q) && decide (p % q = 0) && (List.range (p - q)).all fun i => f (m + i + q) == f (m + i)) with
  | none =>
    rw [List.find?_eq_none] at h
    have := h p (List.mem_range.2 (by omega))
    simp [hp] at this
  | some k =>
    have := List.find?_some h
    simp at this
    simp; omega
theorem nfL_ok {f : Nat → Bool} {m p n : Nat} (hp : 0 < p) (hm : m ≤ n) (hpn : p ≤ n) : Wok n (nfL f m p) := by
  have h1 : perL f m p ≤ p := find_getD_le
  have h2 : preL f m (perL f m p) ≤ m := find_getD_le
  have h3 := perL_pos (f := f) (m := m) hp
  show Wok n (tab f 0 _, tab f _ _)
  refine ⟨fun e => ?_, ?_, ?_⟩
  · have := congrArg List.length e
    rw [tab_length] at this; simp at this; omega
  · rw [tab_length]; omega
  · rw [tab_length]; omega
theorem wdL_ok {p : List UInt8} {w : Wd} (h : wdL p = some w) : Wok 12 w := by
  unfold wdL at h
  split at h
  · rename_i hok
    obtain ⟨_, h1, h2, h3⟩ := okW_len hok
    injection h with h
    rw [← h]
    exact nfL_ok (List.length_pos_iff.2 h3) h1 h2
  · cases h

/-- What is known of a line. -/
structure GoodLn (l : Ln) : Prop where
  kind : l.kind ≤ 13
  len : l.uses.length ≤ 10
  wd : l.wd.1.length ≤ 12 ∧ l.wd.2.length ≤ 12
  has : l.kind = 10 ∨ l.kind = 11 ∨ isGv l.kind = true → l.wd.2 ≠ []
/-- What is known while pieces are taken. -/
def Part (l : Ln) (n : Nat) (h : Bool) : Prop := l.uses.length ≤ n ∧ l.wd.1.length ≤ 12 ∧ l.wd.2.length ≤ 12 ∧ (h = true → l.wd.2 ≠ [])
theorem take_part {l l' : Ln} {c : UInt8} {p : List UInt8} {n : Nat} {h : Bool} (ht : takeL l c p = some l') (hp : Part l n h) : Part l' (n + 1) (h || c == 119) ∧ l'.kind = l.kind := by
  obtain ⟨h1, h2, h3, h4⟩ := hp
  unfold takeL at ht
  split at ht
  · rename_i hc
    have hc9 : (c == 119) = false := by rw [beq_iff_eq] at hc; subst hc; rfl
    rw [hc9, Bool.or_false]
    cases hn : numL p with
    | none => rw [hn] at ht; cases ht
    | some v => rw [hn] at ht; cases ht; exact ⟨⟨Nat.le_succ_of_le h1, h2, h3, h4⟩, rfl⟩
  · split at ht
    · cases hn : wdL p with
      | none => rw [hn] at ht; cases ht
      | some v =>
        rw [hn] at ht; cases ht
        obtain ⟨a, b, d⟩ := wdL_ok hn
        exact ⟨⟨Nat.le_succ_of_le h1, b, d, fun _ => a⟩, rfl⟩
    · rename_i hc
      have hc9 : (c == 119) = false := by simpa using hc
      rw [hc9, Bool.or_false]
      split at ht
      · cases ht; exact ⟨⟨by simp; omega, h2, h3, h4⟩, rfl⟩
      · cases ht
theorem fill_part : ∀ {s : List UInt8} {l l' : Ln} {ps : List (List UInt8)} {n : Nat} {h : Bool}, fillL l s ps = some l' → Part l n h → Part l' (n + s.length) (h || s.any (· == 119)) ∧ l'.kind = l.kind := by
  intro s
  induction s with
  | nil =>
    intro l l' ps n h hf hp
    cases ps with
    | nil => simp [fillL] at hf; subst hf; simpa using hp
    | cons a b => simp [fillL] at hf
  | cons c s ih =>
    intro l l' ps n h hf hp
    cases ps with
    | nil => simp [fillL] at hf
    | cons a b =>
      rw [fillL] at hf
      cases ht : takeL l c a with
      | none => rw [ht] at hf; cases hf
      | some l2 =>
        rw [ht] at hf
        obtain ⟨h1, h2⟩ := take_part ht hp
        obtain ⟨h3, h4⟩ := ih hf h1
        refine ⟨?_, h4.trans h2⟩
        rw [List.length_cons, List.any_cons, ← Bool.or_assoc]
        rw [show n + (s.length + 1) = n + 1 + s.length by omega]
        exact h3
theorem zero_part (k : Nat) (nm : List UInt8) : Part { Ln.zero with kind := k, name := nm } 0 false := ⟨Nat.le_refl _, Nat.zero_le _, Nat.zero_le _, fun h => by cases h⟩
theorem own_good {k : Nat} {own shape : List UInt8} {ps : List (List UInt8)} {l : Ln} (h : ownL k own shape ps = some l) (hk : k ≤ 13) (hs : shape.length ≤ 3) (hw : k = 10 ∨ k = 11 ∨ isGv k = true → shape.any (· == 119) = true) : GoodLn l := by
  unfold ownL at h
  split at h
  · obtain ⟨⟨h1, h2, h3, h4⟩, h5⟩ := fill_part h (zero_part k own)
    have h5 : l.kind = k := h5
    exact ⟨by omega, by omega, ⟨h2, h3⟩, fun hh => h4 (by rw [h5] at hh; simp only [Bool.false_or]; exact hw hh)⟩
  · cases h
theorem oper_good (c : List UInt8) : (operL c).1 ≤ 13 ∧ (operL c).2.length ≤ 3 ∧ ((operL c).1 = 10 ∨ (operL c).1 = 11 ∨ isGv (operL c).1 = true → (operL c).2.any (· == 119) = true) := by
  unfold operL
  by_cases h0 : (c == [99, 111, 110, 115, 116]) = true
  · rw [if_pos h0]; decide
  rw [if_neg h0]
  by_cases h1 : (c == [97, 100, 100]) = true
  · rw [if_pos h1]; decide
  rw [if_neg h1]
  by_cases h2 : (c == [115, 117, 98]) = true
  · rw [if_pos h2]; decide
  rw [if_neg h2]
  by_cases h3 : (c == [109, 117, 108]) = true
  · rw [if_pos h3]; decide
  rw [if_neg h3]
  by_cases h4 : (c == [100, 105, 118]) = true
  · rw [if_pos h4]; decide
  rw [if_neg h4]
  by_cases h5 : (c == [108, 101, 115, 115]) = true
  · rw [if_pos h5]; decide
  rw [if_neg h5]
  by_cases h6 : (c == [105, 102]) = true
  · rw [if_pos h6]; decide
  rw [if_neg h6]
  by_cases h7 : (c == [102, 98, 121]) = true
  · rw [if_pos h7]; decide
  rw [if_neg h7]
  by_cases h8 : (c == [119, 104, 101, 110]) = true
  · rw [if_pos h8]; decide
  rw [if_neg h8]
  by_cases h9 : (c == [109, 101, 114, 103, 101]) = true
  · rw [if_pos h9]; decide
  rw [if_neg h9]
  by_cases h10 : (c == [98, 117, 102, 102, 101, 114]) = true
  · rw [if_pos h10]; decide
  rw [if_neg h10]
  decide
theorem parse_good {ps : List (List UInt8)} {l : Ln} (h : parseL ps = some l) : GoodLn l := by
  unfold parseL at h
  split at h
  · split at h
    · exact own_good h (by omega) (by decide) (fun _ => by decide)
    · split at h
      · obtain ⟨⟨h1, h2, h3, h4⟩, h5⟩ := fill_part h (zero_part 13 [])
        have h5 : l.kind = 13 := h5
        exact ⟨by omega, by simp at h1; omega, ⟨h2, h3⟩, fun hh => by rw [h5] at hh; exact absurd hh (by decide)⟩
      · split at h
        · split at h
          · split at h
            · cases h
            · rename_i c r' _ _
              obtain ⟨a, b, d⟩ := oper_good c
              exact own_good h a b d
          · cases h
        · cases h
  · cases h
theorem read_good : ∀ {R : List (List UInt8)} {n : Nat} {ls : List Ln}, readL n R = .ok ls → ∀ l ∈ ls, GoodLn l := by
  intro R
  induction R with
  | nil => intro n ls h l hl; simp [readL] at h; subst h; simp at hl
  | cons r R ih =>
    intro n ls h
    rw [readL] at h
    split at h
    · exact ih h
    · cases hp : parseL (filL (cutL 32 r)) with
      | none => rw [hp] at h; cases h
      | some l =>
        rw [hp] at h
        simp only at h
        cases hr : readL (n + 1) R with
        | error e => rw [hr] at h; cases h
        | ok m =>
          rw [hr] at h
          cases h
          intro x hx
          rcases List.mem_cons.1 hx with rfl | hx
          · have := parse_good hp
            exact ⟨this.kind, this.len, this.wd, this.has⟩
          · exact ih hr x hx
theorem source_good {t : List UInt8} {ls : List Ln} (h : sourceL t = .ok ls) : (∀ l ∈ ls, GoodLn l) ∧ ls.length ≤ 24 := by
  unfold sourceL at h
  split at h
  · cases h
  · cases hr : readL 0 (cutL 10 t) with
    | error e => rw [hr] at h; cases h
    | ok m =>
      rw [hr] at h
      simp only [finL] at h
      split at h
      · cases h
      · rename_i hn
        cases h
        refine ⟨read_good hr, ?_⟩
        rw [List.getElem?_eq_none_iff] at hn; exact hn
theorem owner_lt {ls : List Ln} {nm : List UInt8} {k : Nat} (h : ownerL ls nm = some k) : k < ls.length := by
  unfold ownerL at h
  rw [List.findIdx?_eq_some_iff_getElem] at h
  exact h.1
theorem link_good {all : List Ln} : ∀ {ls : List Ln} {qs : List St}, (∀ l ∈ ls, GoodLn l) → linkL all ls = .ok qs → (∀ s ∈ qs, WfS all.length s ∧ s.ck = ([], [])) ∧ qs.length = ls.length := by
  intro ls
  induction ls with
  | nil => intro qs _ h; simp [linkL] at h; subst h; simp
  | cons l ls ih =>
    intro qs hg h
    rw [linkL] at h
    cases hs : stepL all l with
    | none => rw [hs] at h; cases h
    | some s =>
      rw [hs] at h
      simp only at h
      cases hl : linkL all ls with
      | error g => rw [hl] at h; cases h
      | ok r =>
        rw [hl] at h
        cases h
        obtain ⟨h1, h2⟩ := ih (fun x hx => hg x (by simp [hx])) hl
        refine ⟨fun x hx => ?_, by simp [h2]⟩
        rcases List.mem_cons.1 hx with rfl | hx
        · have gl := hg l (by simp)
          unfold stepL at hs
          cases ho : ownersL all l.uses with
          | none => rw [ho] at hs; cases hs
          | some u =>
            rw [ho] at hs
            cases hs
            unfold ownersL at ho
            split at ho
            · rename_i hall
              cases ho
              refine ⟨⟨fun y hy => ?_, by have := gl.len; simp; omega, gl.kind, gl.wd, gl.has⟩, rfl⟩
              obtain ⟨nm, hnm, rfl⟩ := List.mem_map.1 hy
              have := List.all_eq_true.1 hall nm hnm
              cases he : ownerL all nm with
              | none => rw [he] at this; cases this
              | some k => exact owner_lt he
            · cases ho
        · exact h1 x hx
theorem link_wf {ls : List Ln} {qs : List St} (hg : ∀ l ∈ ls, GoodLn l) (h : linkL ls ls = .ok qs) : Wf qs ∧ CkOk 64 qs ∧ qs.length = ls.length := by
  obtain ⟨h1, h2⟩ := link_good hg h
  refine ⟨fun s hs => by rw [h2]; exact (h1 s hs).1, fun s hs => by rw [(h1 s hs).2]; exact ⟨Nat.zero_le _, Nat.zero_le _⟩, h2⟩

/-- What Compile gives, by the model. -/
noncomputable def compF (t : List UInt8) : Except Flt (List St) := match sourceL t with
  | .error f => .error f
  | .ok ls => makeF ls
def CompIs (B : Nat) (o : Except Flt (List St)) (e : Ending) (w' : World) : Prop :=
  (∃ f : Flt, o = .error f ∧ e = .returned (.tuple #[.pointer none, .agg #[.int .i64 f.1, .int .i64 f.2]])) ∨
  ∃ qs v b, o = .ok (qs.map Prod.fst) ∧ e = .returned (.tuple #[.pointer (some ⟨b, 0, none⟩), .agg #[.int .i64 0, .int .i64 0]]) ∧ B ≤ b ∧ w'.cell? ⟨b, 0, none⟩ = some v ∧ StepsAt w' B v qs
theorem source_err {t : List UInt8} {f : Flt} (h : sourceL t = .error f) : f.1 ≠ 0 := by
  unfold sourceL at h
  split at h
  · cases h; decide
  · cases hr : readL 0 (cutL 10 t) with
    | error e => rw [hr] at h; cases h; show (5 : Nat) ≠ 0; decide
    | ok m =>
      rw [hr] at h
      simp only [finL] at h
      split at h
      · cases h; show (6 : Nat) ≠ 0; decide
      · cases h
theorem first_err {c : Nat} {qs : List St} {bad : Nat → Bool} : (firstF c qs bad).1 = 0 ∨ firstF c qs bad ≠ (0, 0) := by
  rcases Decidable.em ((firstF c qs bad).1 = 0) with h | h
  · exact .inl h
  · exact .inr (fun e => h (by rw [e]))
theorem make_err {ls : List Ln} {f : Flt} (h : makeF ls = .error f) : f.1 ≠ 0 := by
  unfold makeF at h
  split at h
  · cases hl : linkL ls ls with
    | error g => rw [hl] at h; cases h; rw [link_err hl]; decide
    | ok qs =>
      rw [hl] at h
      simp only at h
      split at h
      · cases hs : solveL (qs.length + 1) (qs.map give) with
        | error g => rw [hs] at h; cases h; rw [solve_err hs]; decide
        | ok rs =>
          rw [hs] at h
          simp only at h
          split at h
          · cases h
          · cases h; assumption
      · cases h; assumption
  · cases h; assumption

set_option maxRecDepth 50000 in
set_option maxHeartbeats 2000000 in
theorem Compile_any (s : ByteArray) (w : World) (hs : s.size ≤ maxLen) :
    Calls Try.prog 12 #[.string s] w fun e w' => CompIs w.heap.size (compF s.data.toList) e w' ∧ Below w.heap.size w w' := by
  have hf0 := G1_f w
  have hg := G1_below w
  have hgz := G1_size w
  have hread := Read_any s (G1 w) hs
  obtain ⟨o, ho⟩ : ∃ o, sourceL s.data.toList = o := ⟨_, rfl⟩
  rw [ho] at hread
  have HO : Hid (sourceL s.data.toList = o) := ho
  clear ho hs
  go_enter Try.func12, Try.ntmps12
  go_wp2_with fail
  refine hread.mono ?_
  rintro e w1 ⟨hR, hb1⟩
  have hz1 := hb1.size
  rw [hgz] at hz1
  have hfw1 := hf0.below hb1 (by rw [hgz]; omega)
  obtain ⟨c0, c1, g0, g1⟩ := hfw1.c
  have hltw : w.heap.size < w1.heap.size := by omega
  have hbw1 : Below w.heap.size w w1 := hg.trans (hb1.mono (by rw [hgz]; omega))
  have HR : Hid (SrcIs (G1 w).heap.size o e w1) := hR
  clear hR hread
  rcases HR.out with ⟨f, hf, rfl⟩ | ⟨ps, v, hq, hl24, rfl, hlines⟩
  · have HS : Hid (compF s.data.toList = .error f) := by show compF _ = _; unfold compF; rw [HO.out, hf]
    have hnz : ¬ (f.1 : Int) = 0 := by have := source_err (HO.out.trans hf); omega
    clear hf HR
    go_wp2
    go_region
    go_wp2
    have hq := (hfw1.set f.1 f.2).below ((Below.refl _ _).alloc (Nat.le_refl _) (Obj.cells #[Value.int IntKind.i64 f.1, Value.int IntKind.i64 f.2] 30)) (by simpa [World.setCell] using hltw)
    obtain ⟨q0, q1, _, _⟩ := FltB.c (w := (((w1.setCell ⟨w.heap.size, 0, none⟩ (.int .i64 f.1)).setCell ⟨w.heap.size, 1, none⟩ (.int .i64 f.2)).alloc (Obj.cells #[Value.int IntKind.i64 f.1, Value.int IntKind.i64 f.2] 30)).drew) hq
    refine bodyPost_ret (v := .tuple #[.pointer none, .agg #[.int .i64 f.1, .int .i64 f.2]]) (by simp [results, Try.results12, go_sem, q0, q1]) rfl ⟨?_, ?_⟩
    · exact .inl ⟨f, HS.out, rfl⟩
    · exact (((hbw1.setCell (Nat.le_refl _) _).setCell (Nat.le_refl _) _).alloc (by simp [World.setCell]; omega) _).drew
  · have hsrc : sourceL s.data.toList = .ok (ps.map Prod.fst) := HO.out.trans hq
    obtain ⟨hgood, _⟩ := source_good hsrc
    have HC : Hid (compF s.data.toList = makeF (ps.map Prod.fst)) := by show compF _ = _; unfold compF; rw [hsrc]
    obtain ⟨lp, lc, hve, hlc, hrl⟩ := hlines.rl
    subst hve
    have hm := MK.new (x := 0) (y := 0) hfw1 hbw1 hltw
    obtain ⟨W1, hW1⟩ : ∃ W1, W1 = w1.alloc (Obj.cells #[.int .i64 0, .int .i64 0] 30) := ⟨_, rfl⟩
    have hbA : Below w1.heap.size w1 W1 := by rw [hW1]; exact (Below.refl _ _).alloc (Nat.le_refl _) _
    rw [← hW1] at hm
    have hmake := Make_any ps lp lc W1 hl24 hlc (fun q hq => by have := (hgood q.1 (List.mem_map_of_mem hq)).len; omega) (hrl.below hbA (Nat.le_refl _)) (fun qs h => by have := link_wf hgood h; rw [List.length_map] at this; exact this)
    clear hlines hrl hq hsrc HR c0 c1 g0 g1
    obtain ⟨fv, hfv⟩ : ∃ fv, fv = w1.heap.size := ⟨_, rfl⟩
    rw [← hfv] at hm
    go_wp2_with fail
    rw [← hW1, ← hfv]
    clear hW1 hfv
    refine hmake.mono ?_
    rintro e w2 ⟨hM, hb2⟩
    have hm2' := hm.below hb2 hm.2.2.2.2
    have HMk : Hid (MakeIs W1.heap.size (makeF (ps.map Prod.fst)) e w2) := hM
    clear hM hmake
    rcases HMk.out with ⟨f, hf, rfl⟩ | ⟨qs, v, hf, rfl, hst⟩
    · clear HMk
      have hnz : ¬ ((f).1 : Int) = 0 := by have := make_err hf; omega
      have HS : Hid (compF s.data.toList = .error f) := HC.out.trans hf
      obtain ⟨fr, ff, hbel, hl1, hl2⟩ := hm2'
      obtain ⟨c0, c1, g0, g1⟩ := fr.c
      obtain ⟨d0, d1, k0, k1⟩ := ff.c
      have hne : fv ≠ w.heap.size := by omega
      have hne2 : w.heap.size ≠ fv := by omega
      clear hf
      go_wp2
      go_region
      go_wp2
      have hm2 := (MK.set ⟨fr, ff, hbel, hl1, hl2⟩ (f).1 (f).2)
      have hq := hm2.1.set (f).1 (f).2
      obtain ⟨q0, q1, _, _⟩ := FltB.c (w := ((((w2.setCell ⟨fv, 0, none⟩ (.int .i64 (f).1)).setCell ⟨fv, 1, none⟩ (.int .i64 (f).2)).setCell ⟨w.heap.size, 0, none⟩ (.int .i64 (f).1)).setCell ⟨w.heap.size, 1, none⟩ (.int .i64 (f).2)).drew) hq
      refine bodyPost_ret (v := .tuple #[.pointer none, .agg #[.int .i64 (f).1, .int .i64 (f).2]]) (by simp [results, Try.results12, go_sem, q0, q1]) rfl ⟨?_, ?_⟩
      · exact .inl ⟨f, HS.out, rfl⟩
      · exact ((hm2.2.2.1.setCell (Nat.le_refl _) _).setCell (Nat.le_refl _) _).drew
    · have HS : Hid (compF s.data.toList = .ok (qs.map Prod.fst)) := HC.out.trans hf
      obtain ⟨vp, vc, hve, hvc, hrs⟩ := hst.rs
      subst hve
      have hfvB := hm.2.2.2.2
      obtain ⟨fr, ff, hbel, hl1, hl2⟩ := hm2'
      obtain ⟨c0, c1, g0, g1⟩ := fr.c
      obtain ⟨d0, d1, k0, k1⟩ := ff.c
      have hne : fv ≠ w.heap.size := by omega
      have hne2 : w.heap.size ≠ fv := by omega
      have hlt3 : w.heap.size < w2.heap.size := by omega
      have hm3 := (MK.set ⟨fr, ff, hbel, hl1, hl2⟩ 0 0)
      have hst3 := (hst.keep hfvB (.int .i64 0) (.int .i64 0)).keep (b := w.heap.size) (by omega) (.int .i64 0) (.int .i64 0)
      clear hf HMk hrs
      go_wp2
      obtain ⟨X, hX⟩ : ∃ X, X = (((w2.setCell ⟨fv, 0, none⟩ (.int .i64 0)).setCell ⟨fv, 1, none⟩ (.int .i64 0)).setCell ⟨w.heap.size, 0, none⟩ (.int .i64 0)).setCell ⟨w.heap.size, 1, none⟩ (.int .i64 0) := ⟨_, rfl⟩
      have hXz : X.heap.size = w2.heap.size := by rw [hX]; simp [World.setCell]
      have hq0 := hm3.1.set 0 0
      have hbX : Below w.heap.size w X := by rw [hX]; exact (hm3.2.2.1.setCell (Nat.le_refl _) _).setCell (Nat.le_refl _) _
      rw [← hX] at hq0 hst3 ⊢
      have hbA2 : Below X.heap.size X (X.alloc (Obj.cells #[Value.slice vp qs.length vc] 68)) := (Below.refl _ _).alloc (Nat.le_refl _) _
      obtain ⟨q0, q1, _, _⟩ := (hq0.below hbA2 (by omega)).c
      have hst4 := hst3.below hbA2
      refine bodyPost_ret (v := .tuple #[.pointer (some ⟨w2.heap.size, 0, none⟩), .agg #[.int .i64 0, .int .i64 0]]) (by simp [results, Try.results12, go_sem, q0, q1]) rfl ⟨?_, ?_⟩
      · refine .inr ⟨qs, .slice vp qs.length vc, w2.heap.size, HS.out, rfl, by omega, ?_, own_mono hst4.1 (by omega), fun p hp => own_mono (hst4.2 p hp) (by omega)⟩
        rw [← hXz, cell_of_row _ _ 0 _ _ _ (heap_alloc_new X _)]; rfl
      · exact hbX.trans (hbA2.mono (by omega))
end Go.Proofs.Ytfbkjopidjojeab
