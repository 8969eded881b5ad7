/-
  Joined: Gg Gh Gi Gj.
-/
import Derived.Test.YtfbkjopidjojeabP6
import Derived.Test.YtfbkjopidjojeabP5
import Derived.WalkSpells
namespace Go.Proofs.Ytfbkjopidjojeab
open Go.RowKit

/-- The tracks' memory while a run goes: w0 the world ahead of the run, B the first block that what is made may lie in, g the tracks' block. -/
structure TA (w0 w : World) (B g n cap : Nat) (ps : List TV) : Prop where
  len : ps.length = n
  g0 : w0.heap.size ≤ g
  gB : g < B
  Bw : B ≤ w.heap.size
  row : w.ownsRow w0.heap.size 114 13 (.slice (some ⟨g, 0, none⟩) n cap) n (tkRows ps)
  uses : ∀ q ∈ ps, Reads w0 q.2.1 1 q.1.st.uses.length (ints q.1.st.uses)
  list : ∀ q ∈ ps, Reads w0 q.2.2.1 1 q.1.list.length (zs q.1.list)
  made : ∀ q ∈ ps, w.ownsRow B 3 1 q.2.2.2 q.1.made.length (zs q.1.made)
  sep : ∀ (i j : Nat) (p q : TV), ps[i]? = some p → ps[j]? = some q → i ≠ j → p.2.2.2.ownBlock = none ∨ p.2.2.2.ownBlock ≠ q.2.2.2.ownBlock
  bel : Below w0.heap.size w0 w
theorem TA.tr {w0 w : World} {B g n cap : Nat} {ps : List TV} (h : TA w0 w B g n cap ps) : TR w (some ⟨g, 0, none⟩) ps := by
  refine ⟨.inr ⟨g, rfl, (h.row.lt g rfl).2, fun k hk j hj => ?_⟩, fun q hq => (h.uses q hq).below h.bel (Nat.le_refl _), fun q hq => (h.list q hq).below h.bel (Nat.le_refl _), fun q hq => Reads.of (h.made q hq)⟩
  rw [h.row.cellAt (k * 13 + j) (by have := h.len; omega), tkRows_get ps k j hk hj]
theorem TA.below {w0 w w' : World} {B g n cap : Nat} {ps : List TV} (h : TA w0 w B g n cap ps) (hb : Below w.heap.size w w') : TA w0 w' B g n cap ps :=
  ⟨h.len, h.g0, h.gB, Nat.le_trans h.Bw hb.size, ownsRow_below h.row hb, h.uses, h.list, fun q hq => ownsRow_below (h.made q hq) hb, h.sep, h.bel.trans (hb.mono h.bel.size)⟩
theorem tkRows_set {ps : List TV} {k : Nat} {q : TV} (hk : k < ps.length) : ∀ (j : Nat) (v : Value), j < 13 → tkCells q = (tkCells ps[k]).set j v → tkRows (ps.set k q) = (tkRows ps).set (k * 13 + j) v := by
  induction ps generalizing k with
  | nil => simp at hk
  | cons p ps ih =>
    intro j v hj he
    have e : ∀ (a : TV) (b : List TV), tkRows (a :: b) = tkCells a ++ tkRows b := fun a b => by simp [tkRows]
    have hl : ∀ a : TV, (tkCells a).length = 13 := fun a => rfl
    cases k with
    | zero =>
      simp only [List.getElem_cons_zero] at he
      rw [List.set_cons_zero, e, e, he, Nat.zero_mul, Nat.zero_add, List.set_append_left _ _ (by rw [hl]; exact hj)]
    | succ k =>
      rw [List.set_cons_succ, e, e, ih (by simpa using hk) j v hj (by simpa using he), List.set_append_right _ _ (by rw [hl]; omega), hl, show (k + 1) * 13 + j - 13 = k * 13 + j by omega]
/-- Blocks that are kept while a tick is made: all below B but the tracks'. -/
theorem TA.note {w0 w : World} {B g n cap : Nat} {ps : List TV} (h : TA w0 w B g n cap ps) {k : Nat} (hk : k < ps.length) (z : Int) :
    TA w0 (w.setCell ⟨g, k * 13 + 12, none⟩ (.int .i64 z)) B g n cap (ps.set k ({ ps[k].1 with most := z }, ps[k].2)) := by
  obtain ⟨h1, g1⟩ := h.row.stored (k * 13 + 12) (.int .i64 z)
  have hne : ∀ q ∈ ps, q.2.2.2.ownBlock = none ∨ q.2.2.2.ownBlock ≠ some g := fun q hq => by
    cases hb : q.2.2.2.ownBlock with
    | none => exact .inl rfl
    | some c => right; intro e; injection e with e; have := ((h.made q hq).lt c hb).1; have := h.gB; omega
  have hmem : ∀ q ∈ ps.set k ({ ps[k].1 with most := z }, ps[k].2), ∃ q' ∈ ps, q.2 = q'.2 ∧ q.1.st = q'.1.st ∧ q.1.list = q'.1.list ∧ q.1.made = q'.1.made := fun q hq => by
    rcases List.mem_or_eq_of_mem_set hq with hq | rfl
    · exact ⟨q, hq, rfl, rfl, rfl, rfl⟩
    · exact ⟨ps[k], List.getElem_mem _, rfl, rfl, rfl, rfl⟩
  refine ⟨by rw [List.length_set]; exact h.len, h.g0, h.gB, by simpa [World.setCell] using h.Bw, ?_, fun q hq => ?_, fun q hq => ?_, fun q hq => ?_, fun i j p q hi hj hij => ?_, h.bel.setCell h.g0 _⟩
  · rw [tkRows_set hk 12 (.int .i64 z) (by omega) rfl]; exact h1
  · obtain ⟨q', m, e1, e2, e3, e4⟩ := hmem q hq
    rw [e1, e2]; exact h.uses q' m
  · obtain ⟨q', m, e1, e2, e3, e4⟩ := hmem q hq
    rw [e1, e3]; exact h.list q' m
  · obtain ⟨q', m, e1, e2, e3, e4⟩ := hmem q hq
    rw [e1, e4]; exact (h.made q' m).kept g1 (hne q' m)
  · have key : ∀ (i : Nat) (p : TV), (ps.set k ({ ps[k].1 with most := z }, ps[k].2))[i]? = some p → ∃ p', ps[i]? = some p' ∧ p.2 = p'.2 := fun i p hp => by
      by_cases e : k = i
      · subst e
        rw [List.getElem?_set_self hk] at hp
        injection hp with hp
        exact ⟨ps[k], List.getElem?_eq_getElem hk, by rw [← hp]⟩
      · rw [List.getElem?_set_ne e] at hp; exact ⟨p, hp, rfl⟩
    obtain ⟨p', a1, a2⟩ := key i p hi
    obtain ⟨q', b1, b2⟩ := key j q hj
    rw [a2, b2]; exact h.sep i j p' q' a1 b1 hij
theorem TA.put {w0 w w' : World} {B g n cap : Nat} {ps : List TV} {o : Obj} {m' : Value} {z : Int} (h : TA w0 w B g n cap ps) {k : Nat} (hk : k < ps.length)
    (hown' : w'.ownsRow B 3 1 m' (ps[k].1.made.length + 1) (zs ps[k].1.made ++ [.int .i64 z])) (hg : (w.alloc o).grownBy w' ps[k].2.2.2.ownBlock) (hat : m'.ownBlock = ps[k].2.2.2.ownBlock ∨ m'.ownBlock = some (w.alloc o).heap.size) :
    TA w0 (w'.setCell ⟨g, k * 13 + 11, none⟩ m') B g n cap (ps.set k ({ ps[k].1 with made := ps[k].1.made ++ [z] }, ps[k].2.1, ps[k].2.2.1, m')) := by
  have ha := h.below ((Below.refl w.heap.size w).alloc (Nat.le_refl _) o)
  have hgk : ∀ q ∈ ps, q.2.2.2.ownBlock ≠ some g := fun q hq e => by
    have := ((h.made q hq).lt g e).1; have := h.gB; omega
  have hrow : w'.ownsRow w0.heap.size 114 13 (.slice (some ⟨g, 0, none⟩) n cap) n (tkRows ps) := ha.row.kept hg (.inr (fun e => hgk _ (List.getElem_mem hk) e.symm))
  obtain ⟨h1, g1⟩ := hrow.stored (k * 13 + 11) m'
  have hm'g : m'.ownBlock = none ∨ m'.ownBlock ≠ some g := by
    cases hb : m'.ownBlock with
    | none => exact .inl rfl
    | some c => right; intro e; injection e with e; have := (hown'.lt c hb).1; have := h.gB; omega
  have hcase : ∀ (i : Nat) (p : TV), (ps.set k ({ ps[k].1 with made := ps[k].1.made ++ [z] }, ps[k].2.1, ps[k].2.2.1, m'))[i]? = some p → (i = k ∧ p = ({ ps[k].1 with made := ps[k].1.made ++ [z] }, ps[k].2.1, ps[k].2.2.1, m')) ∨ (i ≠ k ∧ ps[i]? = some p) := fun i p hp => by
    by_cases e : k = i
    · subst e
      rw [List.getElem?_set_self hk] at hp
      injection hp with hp
      exact .inl ⟨rfl, hp.symm⟩
    · rw [List.getElem?_set_ne e] at hp; exact .inr ⟨Ne.symm e, hp⟩
  have hother : ∀ (i : Nat) (p : TV), ps[i]? = some p → i ≠ k → p.2.2.2.ownBlock = none ∨ p.2.2.2.ownBlock ≠ ps[k].2.2.2.ownBlock := fun i p hp hi => h.sep i k p _ hp (List.getElem?_eq_getElem hk) hi
  refine ⟨by rw [List.length_set]; exact h.len, h.g0, h.gB, ?_, ?_, fun q hq => ?_, fun q hq => ?_, fun q hq => ?_, fun i j p q hi hj hij => ?_, ?_⟩
  · have hz1 := hg.size
    have hb := h.Bw
    have hz2 : (w'.setCell ⟨g, k * 13 + 11, none⟩ m').heap.size = w'.heap.size := by simp [World.setCell]
    simp at hz1
    rw [hz2]; omega
  · rw [tkRows_set hk 11 m' (by omega) rfl]; exact h1
  · rcases List.mem_or_eq_of_mem_set hq with hq | rfl
    · exact h.uses q hq
    · exact h.uses ps[k] (List.getElem_mem _)
  · rcases List.mem_or_eq_of_mem_set hq with hq | rfl
    · exact h.list q hq
    · exact h.list ps[k] (List.getElem_mem _)
  · obtain ⟨i, hi⟩ := List.getElem?_of_mem hq
    rcases hcase i q hi with ⟨rfl, rfl⟩ | ⟨hik, hpi⟩
    · have e : zs (ps[i].1.made ++ [z]) = zs ps[i].1.made ++ [.int .i64 z] := by simp [zs]
      show (w'.setCell _ _).ownsRow B _ 1 m' (ps[i].1.made ++ [z]).length (zs (ps[i].1.made ++ [z]))
      rw [e, List.length_append]
      exact hown'.kept g1 hm'g
    · have hqm := List.mem_of_getElem? hpi
      have := (ha.made q hqm).kept hg (hother i q hpi hik)
      refine this.kept g1 (.inr (hgk q hqm))
  · rcases hcase i p hi with ⟨rfl, rfl⟩ | ⟨hik, hpi⟩
    · rcases hcase j q hj with ⟨rfl, rfl⟩ | ⟨hjk, hqj⟩
      · exact absurd rfl hij
      · show m'.ownBlock = none ∨ m'.ownBlock ≠ q.2.2.2.ownBlock
        rcases hat with e | e
        · rw [e]; exact h.sep i j _ q (List.getElem?_eq_getElem hk) hqj (fun e => hjk e.symm)
        · right
          intro e2
          rw [e] at e2
          have := (h.made q (List.mem_of_getElem? hqj)).lt _ e2.symm
          simp at this
          omega
    · rcases hcase j q hj with ⟨rfl, rfl⟩ | ⟨hjk, hqj⟩
      · show p.2.2.2.ownBlock = none ∨ p.2.2.2.ownBlock ≠ m'.ownBlock
        rcases hat with e | e
        · rw [e]; exact hother i p hpi hik
        · right
          intro e2
          rw [e] at e2
          have := (h.made p (List.mem_of_getElem? hpi)).lt _ e2
          simp at this
          omega
      · exact h.sep i j p q hpi hqj hij
  · exact ((h.bel.alloc h.bel.size o).grown hg (by simp; have := h.bel.size; omega) (fun j hj => by have := ((h.made _ (List.getElem_mem hk)).lt j hj).1; have := h.g0; have := h.gB; omega)).setCell h.g0 _

/-- What is known of a step, once and for all. -/
structure StOk (n : Nat) (s : St) : Prop where
  use : ∀ x ∈ s.uses, x < n
  wd : s.kind = 11 → s.wd.2 ≠ []
  wl : s.wd.1.length ≤ 12 ∧ s.wd.2.length ≤ 12
  ck : s.ck.1.length ≤ 64 ∧ s.ck.2.length ≤ 64
  z : s.ck.2 = [] → s.ck.1 = []
theorem TWf.of {ps : List TV} {rs : List St} (h1 : (ps.map Prod.fst).map Tk.st = rs) (h2 : ∀ s ∈ rs, StOk rs.length s) (h3 : ∀ x ∈ ps.map Prod.fst, x.made.length ≤ 4096) : TWf ps := by
  have hl : rs.length = ps.length := by rw [← h1]; simp
  have hm : ∀ q ∈ ps, StOk ps.length q.1.st := fun q hq => by
    rw [← hl]; refine h2 _ ?_
    rw [← h1]
    exact List.mem_map.2 ⟨q.1, List.mem_map.2 ⟨q, hq, rfl⟩, rfl⟩
  exact ⟨fun q hq => (hm q hq).use, fun q hq => h3 q.1 (List.mem_map.2 ⟨q, hq, rfl⟩), fun q hq => (hm q hq).wd, fun q hq => (hm q hq).wl, fun q hq => (hm q hq).ck, fun q hq => (hm q hq).z⟩

/-- How far noteMost has come. -/
def NtAt (t : Nat) (ts0 : List Tk) (k : Nat) (ts : List Tk) : Prop := ts.length = ts0.length ∧ ∀ (j : Nat) (x : Tk), ts0[j]? = some x → ts[j]? = some (if j < k then noteX ts0 t x else x)
theorem NtAt.start (t : Nat) (ts : List Tk) : NtAt t ts 0 ts := ⟨rfl, fun j x h => by rw [if_neg (by omega)]; exact h⟩
theorem NtAt.fin {t : Nat} {ts0 ts : List Tk} {k : Nat} (h : NtAt t ts0 k ts) (hk : ts0.length ≤ k) : ts = noteL ts0 t := by
  unfold noteL
  apply List.ext_getElem?
  intro j
  rw [List.getElem?_map]
  cases hj : ts0[j]? with
  | none =>
    rw [List.getElem?_eq_none_iff] at hj
    rw [List.getElem?_eq_none_iff.2 (by rw [h.1]; exact hj)]; rfl
  | some x =>
    rw [h.2 j x hj, if_pos (by have := (List.getElem?_eq_some_iff.1 hj).1; omega)]; rfl
theorem NtAt.here {t : Nat} {ts0 ts : List Tk} {k : Nat} {x : Tk} (h : NtAt t ts0 k ts) (hx : ts[k]? = some x) : ts0[k]? = some x := by
  have hl : k < ts0.length := by rw [← h.1]; exact (List.getElem?_eq_some_iff.1 hx).1
  have := h.2 k _ (List.getElem?_eq_getElem hl)
  rw [if_neg (by omega), hx] at this
  rw [List.getElem?_eq_getElem hl, ← this]
theorem NtAt.held {t : Nat} {ts0 ts : List Tk} {k : Nat} (h : NtAt t ts0 k ts) (x : Tk) : heldL ts x t = heldL ts0 x t := by
  unfold heldL
  split
  · cases hu : x.st.uses[0]? with
    | none => rfl
    | some j =>
      simp only
      cases hj : ts0[j]? with
      | none =>
        rw [List.getElem?_eq_none_iff] at hj
        rw [List.getElem?_eq_none_iff.2 (by rw [h.1]; exact hj)]
      | some y =>
        rw [h.2 j y hj]
        simp only
        have : rchL (if j < k then noteX ts0 t y else y) t = rchL y t := by
          split
          · unfold rchL Tk.bit
            rw [(noteX_st ts0 t y).1, (noteX_st ts0 t y).2.2.2]
          · rfl
        rw [this]
  · rfl
theorem NtAt.next {t : Nat} {ts0 ts : List Tk} {k : Nat} {x : Tk} (h : NtAt t ts0 k ts) (hx : ts[k]? = some x) : NtAt t ts0 (k + 1) (ts.set k (noteX ts0 t x)) := by
  have h0 := h.here hx
  refine ⟨by rw [List.length_set]; exact h.1, fun j y hy => ?_⟩
  by_cases e : k = j
  · subst e
    rw [List.getElem?_set_self (List.getElem?_eq_some_iff.1 hx).1, if_pos (by omega)]
    rw [h0] at hy; injection hy with hy; rw [hy]
  · rw [List.getElem?_set_ne e, h.2 j y hy]
    by_cases hj : j < k
    · rw [if_pos hj, if_pos (by omega)]
    · rw [if_neg hj, if_neg (by omega)]
theorem NtAt.st {t : Nat} {ts0 ts : List Tk} {k : Nat} (h : NtAt t ts0 k ts) : ts.map Tk.st = ts0.map Tk.st := by
  apply List.ext_getElem?
  intro j
  rw [List.getElem?_map, List.getElem?_map]
  cases hj : ts0[j]? with
  | none =>
    rw [List.getElem?_eq_none_iff] at hj
    rw [List.getElem?_eq_none_iff.2 (by rw [h.1]; exact hj)]
  | some y =>
    rw [h.2 j y hj]
    simp only [Option.map_some]
    split
    · rw [(noteX_st ts0 t y).1]
    · rfl
theorem tick_made {t : Nat} {ts : List Tk} {X : List Nat} (hX : X.Nodup) (h : ∀ x ∈ ts, x.made.length ≤ t) : ∀ x ∈ tickL t ts X, x.made.length ≤ t + 1 := by
  intro y hy
  obtain ⟨j, hj⟩ := List.getElem?_of_mem hy
  have hl : (tickL t ts X).length = ts.length := by have := congrArg List.length (tickL_st t X ts); simpa using this
  have hjl : j < ts.length := by rw [← hl]; exact (List.getElem?_eq_some_iff.1 hj).1
  have hx := List.getElem?_eq_getElem hjl
  have hb := h _ (List.getElem_mem hjl)
  by_cases hm : j ∈ X
  · obtain ⟨i, hi, hij⟩ := List.getElem_of_mem hm
    have := tickL_at (t := t) hX hi (x := ts[j]) (by rw [hij]; exact hx)
    rw [hij, hj] at this
    injection this with this
    have hle : y.made.length ≤ (ts[j]).made.length + 1 := by
      rw [this]
      show List.length (_ ++ _) ≤ _
      rw [List.length_append]
      split <;> simp
    exact Nat.le_trans hle (Nat.succ_le_succ hb)
  · rw [tickL_ne hm, hx] at hj
    injection hj with hj
    rw [← hj]; omega

theorem TA.noteX {w0 w : World} {B g n cap : Nat} {ps : List TV} (h : TA w0 w B g n cap ps) {k : Nat} (hk : k < ps.length) (x : Tk) (h1 : x = ps[k].1) : TA w0 w B g n cap (ps.set k (x, ps[k].2)) := by
  have : (x, ps[k].2) = ps[k] := by rw [h1]
  rw [this, List.set_getElem_self]; exact h
theorem map_set_tv {ps : List TV} {k : Nat} {q : TV} : (ps.set k q).map Prod.fst = (ps.map Prod.fst).set k q.1 := by rw [List.map_set]

/-- What a call gives that changes tracks. -/
def NoteIs (w0 : World) (B g n cap : Nat) (ts : List Tk) (e : Ending) (w' : World) : Prop := e = .returned (.tuple #[]) ∧ ∃ qs, TA w0 w' B g n cap qs ∧ qs.map Prod.fst = ts

set_option maxRecDepth 50000 in
set_option maxHeartbeats 1000000 in
theorem noteMost_any (w0 : World) (B g n cap t : Nat) (rs : List St) (ps : List TV) (w : World) (h : TA w0 w B g n cap ps) (hn : n ≤ 24) (hst : (ps.map Prod.fst).map Tk.st = rs) (hok : ∀ s ∈ rs, StOk rs.length s) (hlen : ∀ x ∈ ps.map Prod.fst, x.made.length ≤ 4096) (ht : t ≤ 1048576) :
    Calls Try.prog 52 #[.slice (some ⟨g, 0, none⟩) n cap, .int .i64 t] w
      fun e w' => NoteIs w0 B g n cap (noteL (ps.map Prod.fst) t) e w' ∧ Keep g B w w' := by
  obtain ⟨ts0, hts⟩ : ∃ ts, ps.map Prod.fst = ts := ⟨_, rfl⟩
  have hl0 : ts0.length = n := by rw [← hts, List.length_map, h.len]
  have HL0 : Hid (ts0.length = n) := hl0
  have HST : Hid (ts0.map Tk.st = rs) := by show _ = _; rw [← hts]; exact hst
  have HLN : Hid (∀ x ∈ ts0, x.made.length ≤ 4096) := by show ∀ x ∈ ts0, _; rw [← hts]; exact hlen
  have H0 : Hid (NtAt t ts0 0 (ps.map Prod.fst)) := by show NtAt _ _ _ _; rw [hts]; exact NtAt.start t ts0
  have HOK : Hid (∀ s ∈ rs, StOk rs.length s) := hok
  have HT0 : Hid (TA w0 w B g n cap ps) := h
  rw [hts]
  clear hts hst hlen hok h hl0
  go_enter Try.func52, Try.ntmps52
  go_wp2
  go_loopw [4] (fun i wr => ∃ (k : Nat) (qs : List TV), k ≤ n ∧ i = .int .i64 k ∧ Hid (NtAt t ts0 k (qs.map Prod.fst)) ∧ Hid (TA w0 wr B g n cap qs) ∧ Hid (Keep g B w wr)) (fun i _ => n - (intOf i).toNat)
  case atStart => exact ⟨0, ps, Nat.zero_le _, rfl, H0, HT0, Keep.of (Below.refl _ _)⟩
  case round =>
    clear H0 HT0
    obtain ⟨k, qs, hk, rfl, HN, HT, HK⟩ := hrel
    by_cases hlt : k < n
    · have hta := HT.out
      have hkq : k < qs.length := by rw [hta.len]; exact hlt
      have hstq : (qs.map Prod.fst).map Tk.st = rs := HN.out.st.trans HST.out
      have hlnq : ∀ x ∈ qs.map Prod.fst, x.made.length ≤ 4096 := by
        intro x hx
        obtain ⟨j, hj⟩ := List.getElem?_of_mem hx
        have hjl : j < ts0.length := by rw [← HN.out.1]; exact (List.getElem?_eq_some_iff.1 hj).1
        have := HN.out.2 j _ (List.getElem?_eq_getElem hjl)
        rw [hj] at this
        injection this with this
        rw [this]
        have hb := HLN.out _ (List.getElem_mem hjl)
        split
        · rw [(noteX_st ts0 t _).2.2.2]; exact hb
        · exact hb
      have hwf := TWf.of hstq HOK.out hlnq
      have hcall := held_any qs (some ⟨g, 0, none⟩) cap k t wr hta.tr hkq hwf ht
      have hget : (qs.map Prod.fst)[k]? = some qs[k].1 := by simp [hkq]
      rw [HN.out.held, hta.len] at hcall
      have c12 : wr.cell? ⟨g, k * 13 + 12, none⟩ = some (.int .i64 qs[k].1.most) := by
        rw [hta.row.cellAt (k * 13 + 12) (by omega), tkRows_get qs k 12 hkq (by omega)]; rfl
      have hgz := (hta.row.lt g rfl).2
      have HN2 : Hid (NtAt t ts0 (k + 1) ((qs.map Prod.fst).set k (noteX ts0 t qs[k].1))) := HN.out.next hget
      obtain ⟨z, hz⟩ : ∃ z, heldL ts0 qs[k].1 t = z := ⟨_, rfl⟩
      rw [hz] at hcall
      by_cases hm : qs[k].1.most < z
      · have hnx : noteX ts0 t qs[k].1 = { qs[k].1 with most := z } := by unfold Go.Proofs.Ytfbkjopidjojeab.noteX; rw [hz, if_pos hm]
        have HQ : Hid (NtAt t ts0 (k + 1) ((qs.set k ({ qs[k].1 with most := z }, qs[k].2)).map Prod.fst)) := by
          show NtAt _ _ _ _
          rw [map_set_tv, ← hnx]; exact HN2.out
        have HS : ∀ w1, Below wr.heap.size wr w1 → Hid (TA w0 (w1.setCell ⟨g, k * 13 + 12, none⟩ (.int .i64 z)) B g n cap (qs.set k ({ qs[k].1 with most := z }, qs[k].2))) := fun w1 h1 => (hta.below h1).note hkq z
        have HF : Hid (∀ w1, Below wr.heap.size wr w1 → w1.frozen? ⟨g, k * 13 + 12, none⟩ = false) := fun w1 h1 => (hta.below h1).row.frozenAt _
        have hBw := hta.Bw
        obtain ⟨m0, hm0⟩ : ∃ m0, qs[k].1.most = m0 := ⟨_, rfl⟩
        rw [hm0] at c12 hm
        clear hta hstq hlnq hwf hget hnx hz HN2 hm0
        go_wp2_with fail
        refine hcall.mono ?_
        rintro e w1 ⟨rfl, hb1⟩
        have d12 : w1.cell? ⟨g, k * 13 + 12, none⟩ = some (.int .i64 m0) := by rw [hb1.cell (p := ⟨g, k * 13 + 12, none⟩) hgz]; exact c12
        have f12 := HF.out w1 hb1
        have HS2 := HS w1 hb1
        have HK2 : Hid (Keep g B w (w1.setCell ⟨g, k * 13 + 12, none⟩ (.int .i64 z))) := (HK.out.trans (Keep.of (hb1.mono hBw))).trans (Keep.set _ _)
        go_wp2
        go_roundw
        case rel => exact ⟨k + 1, _, by omega, by go_num, HQ, HS2, HK2⟩
        case measure => simp [intOf]; omega
      · have hnx : noteX ts0 t qs[k].1 = qs[k].1 := by unfold Go.Proofs.Ytfbkjopidjojeab.noteX; rw [hz, if_neg hm]
        have HQ : Hid (NtAt t ts0 (k + 1) (qs.map Prod.fst)) := by
          have := HN2.out
          rw [hnx] at this
          have e : (qs.map Prod.fst).set k qs[k].1 = qs.map Prod.fst := by
            rw [← map_set_tv (q := qs[k]), List.set_getElem_self]
          rw [e] at this
          exact this
        have HS : ∀ w1, Below wr.heap.size wr w1 → Hid (TA w0 w1 B g n cap qs) := fun w1 h1 => hta.below h1
        have hBw := hta.Bw
        obtain ⟨m0, hm0⟩ : ∃ m0, qs[k].1.most = m0 := ⟨_, rfl⟩
        rw [hm0] at c12 hm
        clear hta hstq hlnq hwf hget hnx hz HN2 hm0
        go_wp2_with fail
        refine hcall.mono ?_
        rintro e w1 ⟨rfl, hb1⟩
        have d12 : w1.cell? ⟨g, k * 13 + 12, none⟩ = some (.int .i64 m0) := by rw [hb1.cell (p := ⟨g, k * 13 + 12, none⟩) hgz]; exact c12
        have HS2 := HS w1 hb1
        have HK2 : Hid (Keep g B w w1) := HK.out.trans (Keep.of (hb1.mono hBw))
        go_wp2
        go_roundw
        case rel => exact ⟨k + 1, qs, by omega, by go_num, HQ, HS2, HK2⟩
        case measure => simp [intOf]; omega
    · have HE : Hid (qs.map Prod.fst = noteL ts0 t) := HN.out.fin (by rw [HL0.out]; omega)
      go_wp2
      go_end0
      exact ⟨⟨rfl, qs, HT.out, HE.out⟩, HK.out⟩
end Go.Proofs.Ytfbkjopidjojeab

namespace Go.Proofs.Ytfbkjopidjojeab
open Go.RowKit

theorem tick_snoc {X : List Nat} {i : Nat} (h : i < X.length) {t : Nat} {ts : List Tk} : tickL t ts (X.take (i + 1)) = putL t (tickL t ts (X.take i)) X[i] := by
  rw [take_one h, tickL_append]; rfl
theorem nodup_take {X : List Nat} (h : X.Nodup) (i : Nat) : (X.take i).Nodup := (List.take_sublist i X).nodup h

set_option maxRecDepth 50000 in
set_option maxHeartbeats 2000000 in
theorem makeTick_any (w0 : World) (B g n cap t : Nat) (rs : List St) (ps : List TV) (X : List Nat) (xb xo xc : Nat) (w : World) (h : TA w0 w B g n cap ps) (_hn : n ≤ 24) (hst : (ps.map Prod.fst).map Tk.st = rs) (hok : ∀ s ∈ rs, StOk rs.length s)
    (hlen : ∀ x ∈ ps.map Prod.fst, x.made.length ≤ t) (ht : t < 4096) (hX : X.Nodup) (hXn : ∀ x ∈ X, x < n) (hXl : X.length ≤ 24) (hXr : Row w xb xo (ints X)) (hXB : xb < B) (hXg : xb ≠ g) :
    Calls Try.prog 53 #[.slice (some ⟨g, 0, none⟩) n cap, .slice (some ⟨xb, xo, none⟩) X.length xc, .int .i64 t] w
      fun e w' => NoteIs w0 B g n cap (tickL t (ps.map Prod.fst) X) e w' ∧ Keep g B w w' := by
  obtain ⟨j0, hjI, hyI0, hyI1, hyI2⟩ := info_parts Try.info3
  obtain ⟨ts0, hts⟩ : ∃ ts, ps.map Prod.fst = ts := ⟨_, rfl⟩
  have HST : Hid (ts0.map Tk.st = rs) := by show _ = _; rw [← hts]; exact hst
  have HLN : Hid (∀ x ∈ ts0, x.made.length ≤ t) := by show ∀ x ∈ ts0, _; rw [← hts]; exact hlen
  have HOK : Hid (∀ s ∈ rs, StOk rs.length s) := hok
  have HX : Hid X.Nodup := hX
  have HXn : Hid (∀ x ∈ X, x < n) := hXn
  have HXr : Hid (Row w xb xo (ints X)) := hXr
  have HT0 : Hid (TA w0 w B g n cap ps ∧ ps.map Prod.fst = tickL t ts0 (X.take 0)) := ⟨h, hts⟩
  rw [hts]
  clear hts hst hlen hok h hX hXn hXr
  go_enter Try.func53, Try.ntmps53
  go_wp2
  go_loopw [6] (fun i wr => ∃ (k : Nat) (qs : List TV), k ≤ X.length ∧ i = .int .i64 k ∧ Hid (TA w0 wr B g n cap qs ∧ qs.map Prod.fst = tickL t ts0 (X.take k)) ∧ Hid (Keep g B w wr)) (fun i _ => X.length - (intOf i).toNat)
  case atStart => exact ⟨0, ps, Nat.zero_le _, rfl, HT0, Keep.of (Below.refl _ _)⟩
  case round =>
    clear HT0
    obtain ⟨k, qs, hk, rfl, HT, HK⟩ := hrel
    by_cases hlt : k < X.length
    · obtain ⟨hta, hmap⟩ := HT.out
      obtain ⟨j, hj⟩ : ∃ j, X[k] = j := ⟨_, rfl⟩
      have hjn : j < n := by rw [← hj]; exact HXn.out _ (List.getElem_mem _)
      have hjq : j < qs.length := by rw [hta.len]; exact hjn
      have hlnq : ∀ x ∈ qs.map Prod.fst, x.made.length ≤ t + 1 := by rw [hmap]; exact tick_made (nodup_take HX.out k) HLN.out
      have hstq : (qs.map Prod.fst).map Tk.st = rs := by rw [hmap, tickL_st]; exact HST.out
      have hwf := TWf.of hstq HOK.out (fun x hx => by have := hlnq x hx; omega)
      have cx : wr.cell? ⟨xb, xo + k, none⟩ = some (.int .i64 (j : Int)) := by
        rw [World.cell?_of_block (HK.out.block xb hXB hXg), HXr.out.2 k (by rw [ints_length]; exact hlt), ints_get hlt, hj]
      have hxz : xb < wr.heap.size := Nat.lt_of_lt_of_le HXr.out.1 HK.out.size
      have hcel := fun i (hi : i < 13) => (hta.row.cellAt (j * 13 + i) (by omega)).trans (tkRows_get qs j i hjq hi)
      have c7 : wr.cell? ⟨g, j * 13 + 7, none⟩ = some (.string (bs qs[j].1.st.ck.1)) := hcel 7 (by omega)
      have c8 : wr.cell? ⟨g, j * 13 + 8, none⟩ = some (.string (bs qs[j].1.st.ck.2)) := hcel 8 (by omega)
      have c11 : wr.cell? ⟨g, j * 13 + 11, none⟩ = some qs[j].2.2.2 := hcel 11 (by omega)
      have hgz := (hta.row.lt g rfl).2
      have hbit := fun w1 => bit_all qs[j].1.st.ck.1 qs[j].1.st.ck.2 t w1 (hwf.z qs[j] (List.getElem_mem hjq)) (hwf.ck qs[j] (List.getElem_mem hjq)).1 (hwf.ck qs[j] (List.getElem_mem hjq)).2 (by omega)
      have hget : (qs.map Prod.fst)[j]? = some qs[j].1 := by simp [hjq]
      have hsn : tickL t ts0 (X.take (k + 1)) = putL t (qs.map Prod.fst) j := by rw [tick_snoc hlt, hmap, hj]
      have hBw := hta.Bw
      obtain ⟨c, hc⟩ : ∃ c, qs[j].1.st.ck = c := ⟨_, rfl⟩
      rw [hc] at c7 c8 hbit
      cases hb : bitAt c.1 c.2 t with
      | false =>
        have HQ : Hid (∀ w1, Below wr.heap.size wr w1 → TA w0 w1 B g n cap qs ∧ qs.map Prod.fst = tickL t ts0 (X.take (k + 1))) := fun w1 h1 => by
          refine ⟨hta.below h1, ?_⟩
          rw [hsn]
          unfold putL
          rw [hget]
          simp only
          rw [if_neg]
          unfold Tk.bit ckS
          rw [hc, hb]; simp
        rw [hb] at hbit
        clear hta hmap hlnq hstq hwf hcel hget hsn hc hj hb c11
        go_wp2_with fail
        refine (hbit _).mono ?_
        rintro e w1 ⟨rfl, hb1⟩
        have HQ2 : Hid (TA w0 w1 B g n cap qs ∧ qs.map Prod.fst = tickL t ts0 (X.take (k + 1))) := HQ.out w1 hb1
        have HK2 : Hid (Keep g B w w1) := HK.out.trans (Keep.of (hb1.mono hBw))
        go_wp2
        go_roundw
        case rel => exact ⟨k + 1, qs, by omega, by go_num, HQ2, HK2⟩
        case measure => simp [intOf]; omega
      | true =>
        have hcall := fun w1 (h1 : Below wr.heap.size wr w1) => next_any qs (some ⟨g, 0, none⟩) cap j w1 (hta.below h1).tr hjq hwf
        rw [hta.len] at hcall
        obtain ⟨z, hz⟩ : ∃ z, nextL (qs.map Prod.fst) qs[j].1 = z := ⟨_, rfl⟩
        have hput : (qs.set j ({ qs[j].1 with made := qs[j].1.made ++ [z] }, qs[j].2.1, qs[j].2.2.1, .bool true)).map Prod.fst = tickL t ts0 (X.take (k + 1)) := by
          rw [map_set_tv, hsn]
          unfold putL
          rw [hget]
          simp only
          rw [if_pos (by unfold Tk.bit ckS; rw [hc]; exact hb), hz]
        have HP : Hid (∀ m', (qs.set j ({ qs[j].1 with made := qs[j].1.made ++ [z] }, qs[j].2.1, qs[j].2.2.1, m')).map Prod.fst = tickL t ts0 (X.take (k + 1))) := fun m' => by
          rw [← hput, map_set_tv, map_set_tv]
        rw [hz] at hcall
        rw [hb] at hbit
        have hmown := hta.made qs[j] (List.getElem_mem _)
        have hml := hlnq qs[j].1 (List.mem_map.2 ⟨_, List.getElem_mem hjq, rfl⟩)
        obtain ⟨mp, mc, hmv, _⟩ := (Reads.of hmown).form
        have HTA : Hid (∀ w2, Below wr.heap.size wr w2 → TA w0 w2 B g n cap qs) := fun w2 h2 => hta.below h2
        have HMV : Hid (qs[j].2.2.2 = .slice mp qs[j].1.made.length mc) := hmv
        obtain ⟨L, hL⟩ : ∃ L, qs[j].1.made = L := ⟨_, rfl⟩
        have HLL : Hid (qs[j].1.made = L) := hL
        rw [hmv, hL] at hmown c11
        rw [hL] at hml
        have HMO : Hid (wr.ownsRow B 3 1 (.slice mp L.length mc) L.length (zs L)) := hmown
        have HE11 : Hid (∀ w2, Below wr.heap.size wr w2 → ∀ w3, (w2.alloc (.cells #[.int .i64 z] 3)).grownBy w3 (Value.slice mp L.length mc).ownBlock → w3.cell? ⟨g, j * 13 + 11, none⟩ = some (.slice mp L.length mc)) := fun w2 hB2 w3 hgrow => by
          have hr := HTA.out w2 hB2
          have hgB := hr.gB
          have hz2 := hB2.size
          have hgz2 : g < w2.heap.size := by omega
          have hne : some g ≠ (Value.slice mp L.length mc).ownBlock := fun e => by have := (HMO.out.lt g e.symm).1; omega
          exact hgrow.cell (by rw [Below.cell ((Below.refl w2.heap.size w2).alloc (Nat.le_refl _) _) hgz2, hB2.cell (p := ⟨g, j * 13 + 11, none⟩) hgz]; exact c11) hne
        have HF11 : Hid (∀ w2, Below wr.heap.size wr w2 → ∀ w3, (w2.alloc (.cells #[.int .i64 z] 3)).grownBy w3 (Value.slice mp L.length mc).ownBlock → w3.frozen? ⟨g, j * 13 + 11, none⟩ = false) := fun w2 hB2 w3 hgrow => by
          have hr := (HTA.out w2 hB2).below ((Below.refl w2.heap.size w2).alloc (Nat.le_refl _) (.cells #[.int .i64 z] 3))
          have hne : (Value.slice (some ⟨g, 0, none⟩) n cap).ownBlock = none ∨ (Value.slice (some ⟨g, 0, none⟩) n cap).ownBlock ≠ (Value.slice mp L.length mc).ownBlock := .inr (fun e => by have := (HMO.out.lt g e.symm).1; have := hr.gB; omega)
          exact (hr.row.kept hgrow hne).frozenAt _
        clear hta hmap hlnq hstq hwf hcel hget hsn hc hj hb hput hz hmv hL hmown
        go_wp2_with fail
        refine (hbit _).mono ?_
        rintro e w1 ⟨rfl, hb1⟩
        go_wp2_with fail
        refine (hcall w1 hb1).mono ?_
        rintro e w2 ⟨rfl, hb2⟩
        have hB2 : Below wr.heap.size wr w2 := hb1.trans (hb2.mono hb1.size)
        have hz2 := hB2.size
        have d11 : w2.cell? ⟨g, j * 13 + 11, none⟩ = some (.slice mp L.length mc) := by rw [hB2.cell (p := ⟨g, j * 13 + 11, none⟩) hgz]; exact c11
        have hgz2 : g < w2.heap.size := by omega
        have HM2 := ownsRow_below HMO.out hB2
        go_wp2_with (at_builtin; refine wpList_append_own_at _ rfl _ _ 38 rfl B 3 j0 (.int .i64 0) 1 8 Try.under38 hjI hyI0 hyI1 hyI2 rfl (by decide) _ _ _ rfl (HM2.alloc _) ⟨w2.heap.size, 0, none⟩ 1 1 [.int .i64 z] rfl rfl (cell_one_new _ _ _) (by intro x hx; simp at hx; subst hx; rfl) (by unfold maxLen; omega) (by omega) (by simp; omega) ?_; intro v' w3 hown' hgrow _ hat; obtain ⟨vb, vc, hv'⟩ := own_form hown' (by omega); subst hv'; have e11 := HE11.out w2 hB2 w3 hgrow; have f11 := HF11.out w2 hB2 w3 hgrow)
        have HT3 : Hid (TA w0 (w3.setCell ⟨g, j * 13 + 11, none⟩ (.slice (some ⟨vb, 0, none⟩) (L.length + 1) vc)) B g n cap (qs.set j ({ qs[j].1 with made := qs[j].1.made ++ [z] }, qs[j].2.1, qs[j].2.2.1, (.slice (some ⟨vb, 0, none⟩) (L.length + 1) vc))) ∧ (qs.set j ({ qs[j].1 with made := qs[j].1.made ++ [z] }, qs[j].2.1, qs[j].2.2.1, (.slice (some ⟨vb, 0, none⟩) (L.length + 1) vc))).map Prod.fst = tickL t ts0 (X.take (k + 1))) := by
          refine ⟨(HTA.out w2 hB2).put (o := .cells #[.int .i64 z] 3) hjq ?_ ?_ ?_, HP.out _⟩
          · rw [HLL.out]; exact hown'
          · rw [HMV.out, HLL.out]; exact hgrow
          · rw [HMV.out, HLL.out]; exact hat
        have hK3 : Keep g B w (w3.setCell ⟨g, j * 13 + 11, none⟩ (.slice (some ⟨vb, 0, none⟩) (L.length + 1) vc)) := by
          refine (HK.out.trans ?_).trans (Keep.set _ _)
          have h1 : Below B wr (w2.alloc (.cells #[.int .i64 z] 3)) := (hB2.mono hBw).alloc (by omega) _
          exact Keep.of (h1.grown hgrow (by simp; omega) (fun c hc => (HM2.lt c hc).1))
        have HK3 : Hid (Keep g B w (w3.setCell ⟨g, j * 13 + 11, none⟩ (.slice (some ⟨vb, 0, none⟩) (L.length + 1) vc))) := hK3
        clear hown' hgrow hat hK3 HM2 HMO d11
        go_roundw
        case rel => exact ⟨k + 1, _, by omega, by go_num, HT3, HK3⟩
        case measure => simp [intOf]; omega
    · have HE : Hid (qs.map Prod.fst = tickL t ts0 X) := by have := HT.out.2; rw [List.take_of_length_le (by omega)] at this; exact this
      go_wp2
      go_end0
      exact ⟨⟨rfl, qs, HT.out.1, HE.out⟩, HK.out⟩
end Go.Proofs.Ytfbkjopidjojeab

namespace Go.Proofs.Ytfbkjopidjojeab
open Go.RowKit

theorem cnt_add {l : List St} {s : St} {k : Nat} : cntL (l ++ [s]) k = cntL l k + if s.kind = k then 1 else 0 := by
  unfold cntL
  rw [List.filter_append, List.length_append]
  congr 1
  by_cases h : s.kind = k
  · rw [if_pos h, List.filter_cons, if_pos (by simpa using h)]; rfl
  · rw [if_neg h, List.filter_cons, if_neg (by simpa using h)]; rfl
theorem cnt_le (l : List St) (k : Nat) : cntL l k ≤ l.length := List.length_filter_le _ _

set_option maxRecDepth 50000 in
set_option maxHeartbeats 1000000 in
theorem rcount_any (qs : List (St × Value)) (p : Option Addr) (cap kind : Nat) (w : World) (hl : qs.length ≤ 24) (hr : RS w p qs) :
    Calls Try.prog 68 #[.slice p qs.length cap, .int .i64 kind] w fun e w' => e = .returned (.int .i64 (cntL (qs.map Prod.fst) kind)) ∧ w' = w := by
  obtain ⟨L, hL⟩ : ∃ L, qs.map Prod.fst = L := ⟨_, rfl⟩
  have HLen : Hid (L.length = qs.length) := by show L.length = _; rw [← hL]; simp
  have HL : Hid (qs.map Prod.fst = L) := hL
  rw [hL]
  clear hL
  go_enter Try.func68, Try.ntmps68
  go_wp2
  go_loop [5, 6] (fun c i => ∃ k m : Nat, k ≤ qs.length ∧ i = .int .i64 k ∧ c = .int .i64 m ∧ m ≤ k ∧ Hid (cntL (L.take k) kind = m)) (fun _ i => qs.length - (intOf i).toNat)
  case atStart => exact ⟨0, 0, Nat.zero_le _, rfl, rfl, Nat.le_refl _, rfl⟩
  case round =>
    obtain ⟨k, m, hk, rfl, rfl, hm, HC⟩ := hrel
    by_cases hlt : k < qs.length
    · obtain ⟨b, rfl, hb, hc⟩ : ∃ b, p = some ⟨b, 0, none⟩ ∧ b < w.heap.size ∧ ∀ k (h : k < qs.length) j, j < 9 → w.cell? ⟨b, k * 9 + j, none⟩ = (stCells qs[k].1 qs[k].2)[j]? := by
        rcases hr.1 with h | h
        · rw [h] at hlt; simp at hlt
        · exact h
      have hkL : k < L.length := by rw [HLen.out]; exact hlt
      obtain ⟨s, hs⟩ : ∃ s, L[k] = s := ⟨_, rfl⟩
      have hqs : qs[k].1 = s := by
        have : L[k]? = some qs[k].1 := by rw [← HL.out]; simp [hlt]
        rw [List.getElem?_eq_getElem hkL, hs] at this
        injection this with this
        exact this.symm
      have c1 : w.cell? ⟨b, k * 9 + 1, none⟩ = some (.int .i64 s.kind) := by rw [← hqs]; exact hc k hlt 1 (by omega)
      have HT : Hid (L.take (k + 1) = L.take k ++ [s]) := by show _ = _; rw [take_one hkL, hs]
      clear hc hr hqs hs
      by_cases hkd : s.kind = kind
      · have g1 : ((s.kind : Int) == (kind : Int)) = true := by simp; omega
        have HC2 : Hid (cntL (L.take (k + 1)) kind = m + 1) := by show _ = _; rw [HT.out, cnt_add, HC.out, if_pos hkd]
        clear hkd
        go_wp2
        go_round
        case rel => exact ⟨k + 1, m + 1, by omega, by go_num, by go_num, by omega, HC2⟩
        case measure => simp [intOf]; omega
      · have g1 : ((s.kind : Int) == (kind : Int)) = false := by simp; omega
        have HC2 : Hid (cntL (L.take (k + 1)) kind = m) := by show _ = _; rw [HT.out, cnt_add, HC.out, if_neg hkd]; rfl
        clear hkd
        go_wp2
        go_round
        case rel => exact ⟨k + 1, m, by omega, by go_num, rfl, by omega, HC2⟩
        case measure => simp [intOf]; omega
    · have HF : Hid (cntL L kind = m) := by have := HC.out; rw [List.take_of_length_le (by rw [HLen.out]; omega)] at this; exact this
      clear hr
      go_wp2
      go_ret
      exact ⟨ret_int (by rw [HF.out]), rfl⟩

/-- Sizes that are told, or none. -/
def ZsAt (w : World) (v : Value) (z : Option (List Int)) : Prop := match z with
  | none => v = .slice none 0 0
  | some l => ∃ p c, v = .slice p l.length c ∧ p ≠ none ∧ Reads w v 1 l.length (zs l)
theorem ZsAt.below {w w' : World} {B : Nat} {v : Value} {z : Option (List Int)} (h : ZsAt w v z) (hb : Below B w w') (hB : w.heap.size ≤ B) : ZsAt w' v z := by
  cases z with
  | none => exact h
  | some l =>
    obtain ⟨p, c, h1, h2, h3⟩ := h
    exact ⟨p, c, h1, h2, h3.below hb hB⟩

set_option maxRecDepth 50000 in
set_option maxHeartbeats 1000000 in
theorem refuse_nil (qs : List (St × Value)) (p lp : Option Addr) (cap lc n : Nat) (ticks : Int) (w : World) (hl : qs.length ≤ 24) (hr : RS w p qs) :
    Calls Try.prog 46 #[.slice p qs.length cap, .slice lp n lc, .int .i64 ticks, .slice none 0 0] w fun e w' => e = .returned (.int .i64 (refuseL (qs.map Prod.fst) n ticks none)) ∧ w' = w := by
  have hcall := rcount_any qs p cap 1 w hl hr
  obtain ⟨R, hR⟩ : ∃ R, refuseL (qs.map Prod.fst) n ticks none = R := ⟨_, rfl⟩
  obtain ⟨c, hc⟩ : ∃ c, cntL (qs.map Prod.fst) 1 = c := ⟨_, rfl⟩
  rw [hc] at hcall
  have hRc : R = if n ≠ c then 11 else if ticks < 0 ∨ 4096 < ticks then 12 else 0 := by rw [← hR, ← hc]; rfl
  rw [hR]
  have hnil := fun w => Lib.run_eql_slice_nil (P := Try.prog) w 38 3 none 0 0 0 0 Try.under38
  clear hR hc hr
  by_cases hn : n = c
  · have g1 : ((n : Int) == (c : Int)) = true := by simp; omega
    have g2 : ((n : Int) != (c : Int)) = false := by simp; omega
    rw [if_neg (by simpa using hn)] at hRc
    clear hn
    by_cases h0 : ticks < 0
    · rw [if_pos (.inl h0)] at hRc
      subst hRc
      go_enter Try.func46, Try.ntmps46
      go_wp2_with fail
      refine hcall.mono ?_
      rintro e w1 ⟨rfl, hw1⟩
      subst w1
      go_wp2
      go_ret
      exact ⟨rfl, rfl⟩
    · by_cases h1 : 4096 < ticks
      · rw [if_pos (.inr h1)] at hRc
        subst hRc
        go_enter Try.func46, Try.ntmps46
        go_wp2_with fail
        refine hcall.mono ?_
        rintro e w1 ⟨rfl, hw1⟩
        subst w1
        go_wp2
        go_ret
        exact ⟨rfl, rfl⟩
      · rw [if_neg (by omega)] at hRc
        subst hRc
        go_enter Try.func46, Try.ntmps46
        go_wp2_with fail
        refine hcall.mono ?_
        rintro e w1 ⟨rfl, hw1⟩
        subst w1
        go_wp2
        go_ret
        exact ⟨rfl, rfl⟩
  · have g1 : ((n : Int) == (c : Int)) = false := by simp; omega
    have g2 : ((n : Int) != (c : Int)) = true := by simp; omega
    rw [if_pos hn] at hRc
    subst hRc
    clear hn
    go_enter Try.func46, Try.ntmps46
    go_wp2_with fail
    refine hcall.mono ?_
    rintro e w1 ⟨rfl, hw1⟩
    subst w1
    go_wp2
    go_ret
    exact ⟨rfl, rfl⟩

set_option maxRecDepth 50000 in
set_option maxHeartbeats 1000000 in
theorem refuse_ok (qs : List (St × Value)) (p lp : Option Addr) (za : Addr) (cap lc zc n : Nat) (Z : List Int) (ticks : Int) (w : World) (hl : qs.length ≤ 24) (hr : RS w p qs)
    (hn : n = cntL (qs.map Prod.fst) 1) (ht0 : 0 ≤ ticks) (ht1 : ticks ≤ 4096) (hz : Z.length = cntL (qs.map Prod.fst) 12) (hZ : Reads w (.slice (some za) Z.length zc) 1 Z.length (zs Z)) (hzs : ∀ z ∈ Z, 0 ≤ z ∧ z ≤ 1048576) :
    Calls Try.prog 46 #[.slice p qs.length cap, .slice lp n lc, .int .i64 ticks, .slice (some za) Z.length zc] w fun e w' => e = .returned (.int .i64 0) ∧ w' = w := by
  have hcall := rcount_any qs p cap 1 w hl hr
  have hcall2 := rcount_any qs p cap 12 w hl hr
  have hzl := cnt_le (qs.map Prod.fst) 12
  rw [← hn] at hcall
  rw [← hz] at hcall2 hzl
  rw [List.length_map] at hzl
  have g1 : ((n : Int) == (n : Int)) = true := by simp
  have g2 : ((n : Int) != (n : Int)) = false := by simp
  have g3 : ((Z.length : Int) == (Z.length : Int)) = true := by simp
  have g4 : ((Z.length : Int) != (Z.length : Int)) = false := by simp
  have hnil := fun w => Lib.run_eql_slice_nil (P := Try.prog) w 38 3 (some za) Z.length zc 0 0 Try.under38
  clear hr hn hz
  go_enter Try.func46, Try.ntmps46
  go_wp2_with fail
  refine hcall.mono ?_
  rintro e w1 ⟨rfl, hw1⟩
  subst w1
  go_wp2_with fail
  refine hcall2.mono ?_
  rintro e w1 ⟨rfl, hw1⟩
  subst w1
  clear hcall hcall2
  go_wp2
  go_loop [9] (fun i => ∃ k : Nat, k ≤ Z.length ∧ i = .int .i64 k) (fun i => Z.length - (intOf i).toNat)
  case atStart => exact ⟨0, Nat.zero_le _, rfl⟩
  case round =>
    obtain ⟨k, hk, rfl⟩ := hrel
    by_cases hlt : k < Z.length
    · obtain ⟨b, off, hba, hb, hcl⟩ := hZ.cell (by omega)
      injection hba with hba
      subst hba
      have c0 : w.cell? ⟨b, off + k, none⟩ = some (.int .i64 Z[k]) := by rw [hcl k hlt, zs_get hlt]
      obtain ⟨h1, h2⟩ := hzs Z[k] (List.getElem_mem _)
      obtain ⟨z, hzz⟩ : ∃ z, Z[k] = z := ⟨_, rfl⟩
      rw [hzz] at c0 h1 h2
      clear hcl hZ hzz hzs
      go_wp2
      go_round
      case rel => exact ⟨k + 1, by omega, by go_num⟩
      case measure => simp [intOf]; omega
    · clear hZ hzs
      go_wp2
      go_ret
      exact ⟨rfl, rfl⟩
end Go.Proofs.Ytfbkjopidjojeab

namespace Go.Proofs.Ytfbkjopidjojeab
open Go.RowKit

/-- Lists of numbers that can be read. -/
def LL (w : World) (v : Value) (Ls : List (List Int)) : Prop := ∃ vs : List Value, vs.length = Ls.length ∧ Reads w v 1 Ls.length vs ∧ ∀ (i : Nat) (h : i < vs.length) (h' : i < Ls.length), Reads w vs[i] 1 Ls[i].length (zs Ls[i])
theorem LL.below {w w' : World} {B : Nat} {v : Value} {Ls : List (List Int)} (h : LL w v Ls) (hb : Below B w w') (hB : w.heap.size ≤ B) : LL w' v Ls := by
  obtain ⟨vs, h1, h2, h3⟩ := h
  exact ⟨vs, h1, h2.below hb hB, fun i hi hi' => (h3 i hi hi').below hb hB⟩

/-- How far begin has come. -/
structure BgAt (w : World) (rs : List St) (Ls : List (List Int)) (Zs : List Int) (k a c : Nat) (ps : List TV) : Prop where
  len : ps.length = k
  al : a ≤ Ls.length
  cl : c ≤ Zs.length
  eq : beginL rs Ls Zs = ps.map Prod.fst ++ beginL (rs.drop k) (Ls.drop a) (Zs.drop c)
  uses : ∀ q ∈ ps, Reads w q.2.1 1 q.1.st.uses.length (ints q.1.st.uses)
  list : ∀ q ∈ ps, Reads w q.2.2.1 1 q.1.list.length (zs q.1.list)
  made : ∀ q ∈ ps, q.2.2.2 = .slice none 0 0 ∧ q.1.made = []
theorem BgAt.start (w : World) (rs : List St) (Ls : List (List Int)) (Zs : List Int) : BgAt w rs Ls Zs 0 0 0 [] :=
  ⟨rfl, Nat.zero_le _, Nat.zero_le _, rfl, by simp, by simp, by simp⟩
theorem BgAt.next {w : World} {rs : List St} {Ls : List (List Int)} {Zs : List Int} {k a c a' c' : Nat} {ps : List TV} {s : St} {u l : Value} {L : List Int} {z : Int} (h : BgAt w rs Ls Zs k a c ps) (hs : rs[k]? = some s)
    (hL : tk0 s (Ls.drop a) (Zs.drop c) = ⟨s, L, z, [], 0⟩) (ha : (if s.kind = 1 then (Ls.drop a).drop 1 else Ls.drop a) = Ls.drop a') (hc : (if s.kind = 12 then (Zs.drop c).drop 1 else Zs.drop c) = Zs.drop c') (hal : a' ≤ Ls.length) (hcl : c' ≤ Zs.length)
    (hu : Reads w u 1 s.uses.length (ints s.uses)) (hl : Reads w l 1 L.length (zs L)) : BgAt w rs Ls Zs (k + 1) a' c' (ps ++ [(⟨s, L, z, [], 0⟩, u, l, .slice none 0 0)]) := by
  have hk := (List.getElem?_eq_some_iff.1 hs).1
  have hd : rs.drop k = s :: rs.drop (k + 1) := by
    rw [List.drop_eq_getElem_cons hk]
    rw [List.getElem?_eq_getElem hk] at hs
    injection hs with hs
    rw [hs]
  refine ⟨by simp [h.len], hal, hcl, ?_, fun q hq => ?_, fun q hq => ?_, fun q hq => ?_⟩
  · rw [h.eq, hd, beginL, hL, ha, hc, List.map_append, List.append_assoc]; rfl
  · rcases List.mem_append.1 hq with hq | hq
    · exact h.uses q hq
    · rw [List.mem_singleton.1 hq]; exact hu
  · rcases List.mem_append.1 hq with hq | hq
    · exact h.list q hq
    · rw [List.mem_singleton.1 hq]; exact hl
  · rcases List.mem_append.1 hq with hq | hq
    · exact h.made q hq
    · rw [List.mem_singleton.1 hq]; exact ⟨rfl, rfl⟩
theorem Reads.nil (w : World) : Reads w (.slice none 0 0) 1 0 (zs []) := ⟨rfl, none, 0, rfl, Nat.le_refl _, .inl rfl⟩
theorem own_start_trk (W : World) (B b : Nat) (h : W.heap.size = b) (hB : B ≤ b) : (W.alloc (.cells #[] 114)).ownsRow B 114 13 (.slice (some ⟨b, 0, none⟩) 0 0) 0 [] := by
  subst h
  exact World.ownsRow_made W #[] 0 hB (by unfold maxLen; omega) rfl
theorem drop_more {α : Type} {L : List α} {a : Nat} (_h : a < L.length) : (L.drop a).drop 1 = L.drop (a + 1) := by rw [List.drop_drop]
theorem drop_none {α : Type} {L : List α} {a : Nat} (h : ¬ a < L.length) : (L.drop a).drop 1 = L.drop a := by rw [List.drop_of_length_le (l := L) (i := a) (by omega)]; rfl

/-- What begin gives. -/
def BegIs (w : World) (rs : List St) (Ls : List (List Int)) (Zs : List Int) (e : Ending) (w' : World) : Prop :=
  ∃ g cap ps a c, e = .returned (.slice (some ⟨g, 0, none⟩) rs.length cap) ∧ w'.ownsRow w.heap.size 114 13 (.slice (some ⟨g, 0, none⟩) rs.length cap) rs.length (tkRows ps) ∧ BgAt w rs Ls Zs rs.length a c ps

set_option maxRecDepth 50000 in
set_option maxHeartbeats 2000000 in
theorem begin_any (qs : List (St × Value)) (p lp zp : Option Addr) (cap lc zc : Nat) (Ls : List (List Int)) (Zs : List Int) (w : World) (hl : qs.length ≤ 24) (hr : RS w p qs) (hLb : Ls.length ≤ 1048576) (hZb : Zs.length ≤ 1048576)
    (hL : LL w (.slice lp Ls.length lc) Ls) (hZ : Reads w (.slice zp Zs.length zc) 1 Zs.length (zs Zs)) :
    Calls Try.prog 47 #[.slice p qs.length cap, .slice lp Ls.length lc, .slice zp Zs.length zc] w fun e w' => BegIs w (qs.map Prod.fst) Ls Zs e w' ∧ Below w.heap.size w w' := by
  obtain ⟨i0, hi, hz0, hz1, hz2⟩ := info_parts Try.info114
  obtain ⟨R, hR⟩ : ∃ R, qs.map Prod.fst = R := ⟨_, rfl⟩
  have HLen : Hid (R.length = qs.length) := by show R.length = _; rw [← hR]; simp
  have HR : Hid (qs.map Prod.fst = R) := hR
  rw [hR]
  have H0 : Hid (BgAt w R Ls Zs 0 0 0 []) := BgAt.start _ _ _ _
  clear hR
  go_enter Try.func47, Try.ntmps47
  go_wp2
  go_loopw [7, 8, 9, 10] (fun r ia ic i wr => ∃ (k a c : Nat) (ps : List TV) (g gc : Nat), i = .int .i64 k ∧ ia = .int .i64 a ∧ ic = .int .i64 c ∧ k ≤ qs.length ∧ a ≤ Ls.length ∧ c ≤ Zs.length ∧ r = .slice (some ⟨g, 0, none⟩) k gc ∧ wr.ownsRow w.heap.size 114 13 r k (tkRows ps) ∧ Hid (BgAt w R Ls Zs k a c ps) ∧ Below w.heap.size w wr) (fun _ _ _ i _ => qs.length - (intOf i).toNat)
  case atStart => exact ⟨0, 0, 0, [], w.heap.size, 0, rfl, rfl, rfl, Nat.zero_le _, Nat.zero_le _, Nat.zero_le _, rfl, own_start_trk _ _ _ rfl (Nat.le_refl _), H0, (Below.refl _ _).alloc (Nat.le_refl _) _⟩
  case round =>
    clear H0
    obtain ⟨k, a, c, ps, g, gc, rfl, rfl, rfl, hk, ha, hc', rfl, hown, HB, hnx⟩ := hrel
    have hsz := hnx.size
    by_cases hlt : k < qs.length
    · have hrr := hr.below hnx (Nat.le_refl _)
      obtain ⟨b, rfl, hb, hc⟩ : ∃ b, p = some ⟨b, 0, none⟩ ∧ b < wr.heap.size ∧ ∀ k (h : k < qs.length) j, j < 9 → wr.cell? ⟨b, k * 9 + j, none⟩ = (stCells qs[k].1 qs[k].2)[j]? := by
        rcases hrr.1 with h | h
        · rw [h] at hlt; simp at hlt
        · exact h
      have hu0 := hr.2 qs[k] (List.getElem_mem _)
      have hsR : R[k]? = some qs[k].1 := by rw [← HR.out]; simp [hlt]
      have c0 := hc k hlt 0 (by omega)
      have c1 := hc k hlt 1 (by omega)
      have c2 := hc k hlt 2 (by omega)
      have c3 := hc k hlt 3 (by omega)
      have c4 := hc k hlt 4 (by omega)
      have c5 := hc k hlt 5 (by omega)
      have c6 := hc k hlt 6 (by omega)
      have c7 := hc k hlt 7 (by omega)
      have c8 := hc k hlt 8 (by omega)
      obtain ⟨⟨s, u⟩, hq⟩ : ∃ q, qs[k] = q := ⟨_, rfl⟩
      rw [hq] at c0 c1 c2 c3 c4 c5 c6 c7 c8 hu0 hsR
      simp only [stCells, List.getElem?_cons_zero, List.getElem?_cons_succ, Nat.add_zero] at c0 c1 c2 c3 c4 c5 c6 c7 c8 hu0 hsR
      obtain ⟨up, uc, rfl, _⟩ := hu0.form
      have HS : Hid (R[k]? = some s) := hsR
      have HU : Hid (Reads w (.slice up s.uses.length uc) 1 s.uses.length (ints s.uses)) := hu0
      clear hc hrr hq hu0 hsR
      by_cases h1 : s.kind = 1
      · have g1 : ((s.kind : Int) == 1) = true := by simp; omega
        have g12 : ((s.kind : Int) == 12) = false := by simp; omega
        by_cases hal : a < Ls.length
        · obtain ⟨vs, hv1, hv2, hv3⟩ := hL
          have hav : a < vs.length := by omega
          obtain ⟨lb, lo, rfl, hlb, hlw⟩ := hv2.cell (by omega)
          have cl0 : w.cell? ⟨lb, lo + a, none⟩ = some vs[a] := by rw [hlw a (by omega), List.getElem?_eq_getElem hav]
          have cl : wr.cell? ⟨lb, lo + a, none⟩ = some vs[a] := by rw [hnx.cell (p := ⟨lb, lo + a, none⟩) hlb]; exact cl0
          have hlb2 : lb < wr.heap.size := by omega
          have hv := hv3 a hav hal
          obtain ⟨vp, vc, hve, _⟩ := hv.form
          rw [hve] at hv cl
          have HN : Hid (BgAt w R Ls Zs (k + 1) (a + 1) c (ps ++ [(⟨s, Ls[a], 4096, [], 0⟩, .slice up s.uses.length uc, .slice vp Ls[a].length vc, .slice none 0 0)])) := HB.out.next HS.out (by unfold tk0; rw [if_pos h1, if_neg (by omega), List.drop_eq_getElem_cons hal]; rfl) (by rw [if_pos h1]; exact drop_more hal) (by rw [if_neg (by omega)]) hal HB.out.cl HU.out hv
          obtain ⟨L, hLL⟩ : ∃ L, Ls[a] = L := ⟨_, rfl⟩
          rw [hLL] at HN cl
          clear hv hve hv3 hv2 hlw hv1 cl0 h1 hLL hZ
          go_wp2_with (at_builtin; refine wpList_append_own _ rfl _ _ 91 rfl w.heap.size 114 i0 (.agg #[.int .i64 0, .int .i64 0, .string ⟨#[]⟩, .slice none 0 0, .int .i64 0, .string ⟨#[]⟩, .string ⟨#[]⟩, .string ⟨#[]⟩, .string ⟨#[]⟩, .slice none 0 0, .int .i64 0, .slice none 0 0, .int .i64 0]) 13 192 Try.under91 hi hz0 hz1 hz2 rfl (by decide) _ _ _ rfl ((hown.alloc _).alloc _) ⟨wr.heap.size + 1, 0, none⟩ 1 1 [.int .i64 s.no, .int .i64 s.kind, .string (S s.name), .slice up s.uses.length uc, .int .i64 s.num, .string (bs s.wd.1), .string (bs s.wd.2), .string (bs s.ck.1), .string (bs s.ck.2), .slice vp L.length vc, .int .i64 4096, .slice none 0 0, .int .i64 0] rfl rfl (cells_new _ _ _ _ (by simp)) (by intro x hx; simp only [List.mem_cons, List.not_mem_nil, or_false] at hx; rcases hx with rfl | rfl | rfl | rfl | rfl | rfl | rfl | rfl | rfl | rfl | rfl | rfl | rfl <;> rfl) (by unfold maxLen; omega) (by omega) (by simp; omega) ?_; intro v' w' hown' hgrow _)
          have hb' : Below w.heap.size w w' := ((hnx.alloc hsz _).alloc (by simp; omega) _).grown hgrow (by simp; omega) (fun j hj => (hown.lt j hj).1)
          have hw2 : w'.ownsRow w.heap.size 114 13 v' (k + 1) (tkRows (ps ++ [(⟨s, L, 4096, [], 0⟩, .slice up s.uses.length uc, .slice vp L.length vc, .slice none 0 0)])) := by
            have e : tkRows (ps ++ [(⟨s, L, 4096, [], 0⟩, .slice up s.uses.length uc, .slice vp L.length vc, .slice none 0 0)]) = tkRows ps ++ [.int .i64 s.no, .int .i64 s.kind, .string (S s.name), .slice up s.uses.length uc, .int .i64 s.num, .string (bs s.wd.1), .string (bs s.wd.2), .string (bs s.ck.1), .string (bs s.ck.2), .slice vp L.length vc, .int .i64 4096, .slice none 0 0, .int .i64 0] := by simp [tkRows, tkCells]
            rw [e]; exact hown'
          obtain ⟨vb, vcc, hv'⟩ := own_form hown' (by omega)
          subst hv'
          clear hown' hgrow hown hnx
          go_wp2
          go_roundw
          case rel => exact ⟨k + 1, a + 1, c, _, vb, vcc, by go_num, by go_num, rfl, by omega, by omega, by omega, rfl, hw2, HN, hb'⟩
          case measure => simp [intOf]; omega
        · have HN : Hid (BgAt w R Ls Zs (k + 1) a c (ps ++ [(⟨s, [], 4096, [], 0⟩, .slice up s.uses.length uc, .slice none 0 0, .slice none 0 0)])) := HB.out.next HS.out (by unfold tk0; rw [if_pos h1, if_neg (by omega), List.drop_of_length_le (by omega)]; rfl) (by rw [if_pos h1]; exact drop_none hal) (by rw [if_neg (by omega)]) HB.out.al HB.out.cl HU.out (Reads.nil w)
          clear h1 hZ hL
          go_wp2_with (at_builtin; refine wpList_append_own _ rfl _ _ 91 rfl w.heap.size 114 i0 (.agg #[.int .i64 0, .int .i64 0, .string ⟨#[]⟩, .slice none 0 0, .int .i64 0, .string ⟨#[]⟩, .string ⟨#[]⟩, .string ⟨#[]⟩, .string ⟨#[]⟩, .slice none 0 0, .int .i64 0, .slice none 0 0, .int .i64 0]) 13 192 Try.under91 hi hz0 hz1 hz2 rfl (by decide) _ _ _ rfl ((hown.alloc _).alloc _) ⟨wr.heap.size + 1, 0, none⟩ 1 1 [.int .i64 s.no, .int .i64 s.kind, .string (S s.name), .slice up s.uses.length uc, .int .i64 s.num, .string (bs s.wd.1), .string (bs s.wd.2), .string (bs s.ck.1), .string (bs s.ck.2), .slice none 0 0, .int .i64 4096, .slice none 0 0, .int .i64 0] rfl rfl (cells_new _ _ _ _ (by simp)) (by intro x hx; simp only [List.mem_cons, List.not_mem_nil, or_false] at hx; rcases hx with rfl | rfl | rfl | rfl | rfl | rfl | rfl | rfl | rfl | rfl | rfl | rfl | rfl <;> rfl) (by unfold maxLen; omega) (by omega) (by simp; omega) ?_; intro v' w' hown' hgrow _)
          have hb' : Below w.heap.size w w' := ((hnx.alloc hsz _).alloc (by simp; omega) _).grown hgrow (by simp; omega) (fun j hj => (hown.lt j hj).1)
          have hw2 : w'.ownsRow w.heap.size 114 13 v' (k + 1) (tkRows (ps ++ [(⟨s, [], 4096, [], 0⟩, .slice up s.uses.length uc, .slice none 0 0, .slice none 0 0)])) := by
            have e : tkRows (ps ++ [(⟨s, [], 4096, [], 0⟩, .slice up s.uses.length uc, .slice none 0 0, .slice none 0 0)]) = tkRows ps ++ [.int .i64 s.no, .int .i64 s.kind, .string (S s.name), .slice up s.uses.length uc, .int .i64 s.num, .string (bs s.wd.1), .string (bs s.wd.2), .string (bs s.ck.1), .string (bs s.ck.2), .slice none 0 0, .int .i64 4096, .slice none 0 0, .int .i64 0] := by simp [tkRows, tkCells]
            rw [e]; exact hown'
          obtain ⟨vb, vcc, hv'⟩ := own_form hown' (by omega)
          subst hv'
          clear hown' hgrow hown hnx
          go_wp2
          go_roundw
          case rel => exact ⟨k + 1, a, c, _, vb, vcc, by go_num, rfl, rfl, by omega, by omega, by omega, rfl, hw2, HN, hb'⟩
          case measure => simp [intOf]; omega
      · have g1 : ((s.kind : Int) == 1) = false := by simp; omega
        by_cases h12 : s.kind = 12
        · have g12 : ((s.kind : Int) == 12) = true := by simp; omega
          by_cases hcl : c < Zs.length
          · obtain ⟨zb, zo, rfl, hzb, hzw⟩ := hZ.cell (by omega)
            have cz0 : w.cell? ⟨zb, zo + c, none⟩ = some (.int .i64 Zs[c]) := by rw [hzw c hcl, zs_get hcl]
            have cz : wr.cell? ⟨zb, zo + c, none⟩ = some (.int .i64 Zs[c]) := by rw [hnx.cell (p := ⟨zb, zo + c, none⟩) hzb]; exact cz0
            have hzb2 : zb < wr.heap.size := by omega
            have HN : Hid (BgAt w R Ls Zs (k + 1) a (c + 1) (ps ++ [(⟨s, [], Zs[c], [], 0⟩, .slice up s.uses.length uc, .slice none 0 0, .slice none 0 0)])) := HB.out.next HS.out (by unfold tk0; rw [if_neg h1, if_pos h12, List.drop_eq_getElem_cons hcl]; rfl) (by rw [if_neg h1]) (by rw [if_pos h12]; exact drop_more hcl) HB.out.al hcl HU.out (Reads.nil w)
            obtain ⟨z, hzz⟩ : ∃ z, Zs[c] = z := ⟨_, rfl⟩
            rw [hzz] at HN cz
            clear h1 h12 hzz hZ hL hzw cz0
            go_wp2_with (at_builtin; refine wpList_append_own _ rfl _ _ 91 rfl w.heap.size 114 i0 (.agg #[.int .i64 0, .int .i64 0, .string ⟨#[]⟩, .slice none 0 0, .int .i64 0, .string ⟨#[]⟩, .string ⟨#[]⟩, .string ⟨#[]⟩, .string ⟨#[]⟩, .slice none 0 0, .int .i64 0, .slice none 0 0, .int .i64 0]) 13 192 Try.under91 hi hz0 hz1 hz2 rfl (by decide) _ _ _ rfl ((hown.alloc _).alloc _) ⟨wr.heap.size + 1, 0, none⟩ 1 1 [.int .i64 s.no, .int .i64 s.kind, .string (S s.name), .slice up s.uses.length uc, .int .i64 s.num, .string (bs s.wd.1), .string (bs s.wd.2), .string (bs s.ck.1), .string (bs s.ck.2), .slice none 0 0, .int .i64 z, .slice none 0 0, .int .i64 0] rfl rfl (cells_new _ _ _ _ (by simp)) (by intro x hx; simp only [List.mem_cons, List.not_mem_nil, or_false] at hx; rcases hx with rfl | rfl | rfl | rfl | rfl | rfl | rfl | rfl | rfl | rfl | rfl | rfl | rfl <;> rfl) (by unfold maxLen; omega) (by omega) (by simp; omega) ?_; intro v' w' hown' hgrow _)
            have hb' : Below w.heap.size w w' := ((hnx.alloc hsz _).alloc (by simp; omega) _).grown hgrow (by simp; omega) (fun j hj => (hown.lt j hj).1)
            have hw2 : w'.ownsRow w.heap.size 114 13 v' (k + 1) (tkRows (ps ++ [(⟨s, [], z, [], 0⟩, .slice up s.uses.length uc, .slice none 0 0, .slice none 0 0)])) := by
              have e : tkRows (ps ++ [(⟨s, [], z, [], 0⟩, .slice up s.uses.length uc, .slice none 0 0, .slice none 0 0)]) = tkRows ps ++ [.int .i64 s.no, .int .i64 s.kind, .string (S s.name), .slice up s.uses.length uc, .int .i64 s.num, .string (bs s.wd.1), .string (bs s.wd.2), .string (bs s.ck.1), .string (bs s.ck.2), .slice none 0 0, .int .i64 z, .slice none 0 0, .int .i64 0] := by simp [tkRows, tkCells]
              rw [e]; exact hown'
            obtain ⟨vb, vcc, hv'⟩ := own_form hown' (by omega)
            subst hv'
            clear hown' hgrow hown hnx
            go_wp2
            go_roundw
            case rel => exact ⟨k + 1, a, c + 1, _, vb, vcc, by go_num, rfl, by go_num, by omega, by omega, by omega, rfl, hw2, HN, hb'⟩
            case measure => simp [intOf]; omega
          · have HN : Hid (BgAt w R Ls Zs (k + 1) a c (ps ++ [(⟨s, [], 4096, [], 0⟩, .slice up s.uses.length uc, .slice none 0 0, .slice none 0 0)])) := HB.out.next HS.out (by unfold tk0; rw [if_neg h1, if_pos h12, List.drop_of_length_le (by omega)]; rfl) (by rw [if_neg h1]) (by rw [if_pos h12]; exact drop_none hcl) HB.out.al HB.out.cl HU.out (Reads.nil w)
            clear h1 h12 hZ hL
            go_wp2_with (at_builtin; refine wpList_append_own _ rfl _ _ 91 rfl w.heap.size 114 i0 (.agg #[.int .i64 0, .int .i64 0, .string ⟨#[]⟩, .slice none 0 0, .int .i64 0, .string ⟨#[]⟩, .string ⟨#[]⟩, .string ⟨#[]⟩, .string ⟨#[]⟩, .slice none 0 0, .int .i64 0, .slice none 0 0, .int .i64 0]) 13 192 Try.under91 hi hz0 hz1 hz2 rfl (by decide) _ _ _ rfl ((hown.alloc _).alloc _) ⟨wr.heap.size + 1, 0, none⟩ 1 1 [.int .i64 s.no, .int .i64 s.kind, .string (S s.name), .slice up s.uses.length uc, .int .i64 s.num, .string (bs s.wd.1), .string (bs s.wd.2), .string (bs s.ck.1), .string (bs s.ck.2), .slice none 0 0, .int .i64 4096, .slice none 0 0, .int .i64 0] rfl rfl (cells_new _ _ _ _ (by simp)) (by intro x hx; simp only [List.mem_cons, List.not_mem_nil, or_false] at hx; rcases hx with rfl | rfl | rfl | rfl | rfl | rfl | rfl | rfl | rfl | rfl | rfl | rfl | rfl <;> rfl) (by unfold maxLen; omega) (by omega) (by simp; omega) ?_; intro v' w' hown' hgrow _)
            have hb' : Below w.heap.size w w' := ((hnx.alloc hsz _).alloc (by simp; omega) _).grown hgrow (by simp; omega) (fun j hj => (hown.lt j hj).1)
            have hw2 : w'.ownsRow w.heap.size 114 13 v' (k + 1) (tkRows (ps ++ [(⟨s, [], 4096, [], 0⟩, .slice up s.uses.length uc, .slice none 0 0, .slice none 0 0)])) := by
              have e : tkRows (ps ++ [(⟨s, [], 4096, [], 0⟩, .slice up s.uses.length uc, .slice none 0 0, .slice none 0 0)]) = tkRows ps ++ [.int .i64 s.no, .int .i64 s.kind, .string (S s.name), .slice up s.uses.length uc, .int .i64 s.num, .string (bs s.wd.1), .string (bs s.wd.2), .string (bs s.ck.1), .string (bs s.ck.2), .slice none 0 0, .int .i64 4096, .slice none 0 0, .int .i64 0] := by simp [tkRows, tkCells]
              rw [e]; exact hown'
            obtain ⟨vb, vcc, hv'⟩ := own_form hown' (by omega)
            subst hv'
            clear hown' hgrow hown hnx
            go_wp2
            go_roundw
            case rel => exact ⟨k + 1, a, c, _, vb, vcc, by go_num, rfl, rfl, by omega, by omega, by omega, rfl, hw2, HN, hb'⟩
            case measure => simp [intOf]; omega
        · have g12 : ((s.kind : Int) == 12) = false := by simp; omega
          have HN : Hid (BgAt w R Ls Zs (k + 1) a c (ps ++ [(⟨s, [], 4096, [], 0⟩, .slice up s.uses.length uc, .slice none 0 0, .slice none 0 0)])) := HB.out.next HS.out (by unfold tk0; rw [if_neg h1, if_neg h12]) (by rw [if_neg h1]) (by rw [if_neg h12]) HB.out.al HB.out.cl HU.out (Reads.nil w)
          clear h1 h12 hZ hL
          go_wp2_with (at_builtin; refine wpList_append_own _ rfl _ _ 91 rfl w.heap.size 114 i0 (.agg #[.int .i64 0, .int .i64 0, .string ⟨#[]⟩, .slice none 0 0, .int .i64 0, .string ⟨#[]⟩, .string ⟨#[]⟩, .string ⟨#[]⟩, .string ⟨#[]⟩, .slice none 0 0, .int .i64 0, .slice none 0 0, .int .i64 0]) 13 192 Try.under91 hi hz0 hz1 hz2 rfl (by decide) _ _ _ rfl ((hown.alloc _).alloc _) ⟨wr.heap.size + 1, 0, none⟩ 1 1 [.int .i64 s.no, .int .i64 s.kind, .string (S s.name), .slice up s.uses.length uc, .int .i64 s.num, .string (bs s.wd.1), .string (bs s.wd.2), .string (bs s.ck.1), .string (bs s.ck.2), .slice none 0 0, .int .i64 4096, .slice none 0 0, .int .i64 0] rfl rfl (cells_new _ _ _ _ (by simp)) (by intro x hx; simp only [List.mem_cons, List.not_mem_nil, or_false] at hx; rcases hx with rfl | rfl | rfl | rfl | rfl | rfl | rfl | rfl | rfl | rfl | rfl | rfl | rfl <;> rfl) (by unfold maxLen; omega) (by omega) (by simp; omega) ?_; intro v' w' hown' hgrow _)
          have hb' : Below w.heap.size w w' := ((hnx.alloc hsz _).alloc (by simp; omega) _).grown hgrow (by simp; omega) (fun j hj => (hown.lt j hj).1)
          have hw2 : w'.ownsRow w.heap.size 114 13 v' (k + 1) (tkRows (ps ++ [(⟨s, [], 4096, [], 0⟩, .slice up s.uses.length uc, .slice none 0 0, .slice none 0 0)])) := by
            have e : tkRows (ps ++ [(⟨s, [], 4096, [], 0⟩, .slice up s.uses.length uc, .slice none 0 0, .slice none 0 0)]) = tkRows ps ++ [.int .i64 s.no, .int .i64 s.kind, .string (S s.name), .slice up s.uses.length uc, .int .i64 s.num, .string (bs s.wd.1), .string (bs s.wd.2), .string (bs s.ck.1), .string (bs s.ck.2), .slice none 0 0, .int .i64 4096, .slice none 0 0, .int .i64 0] := by simp [tkRows, tkCells]
            rw [e]; exact hown'
          obtain ⟨vb, vcc, hv'⟩ := own_form hown' (by omega)
          subst hv'
          clear hown' hgrow hown hnx
          go_wp2
          go_roundw
          case rel => exact ⟨k + 1, a, c, _, vb, vcc, by go_num, rfl, rfl, by omega, by omega, by omega, rfl, hw2, HN, hb'⟩
          case measure => simp [intOf]; omega
    · have hke : k = qs.length := by omega
      have HE : Hid (BgAt w R Ls Zs R.length a c ps) := by have := HB.out; rw [HLen.out, ← hke]; exact this
      have HRL : Hid (R.length = k) := by show _ = _; rw [HLen.out]; omega
      clear hr hL hZ
      go_wp2
      go_ret
      refine ⟨⟨g, gc, ps, a, c, ?_, ?_, HE.out⟩, hnx⟩
      · rw [HRL.out]; rfl
      · rw [HRL.out]; exact hown
end Go.Proofs.Ytfbkjopidjojeab

