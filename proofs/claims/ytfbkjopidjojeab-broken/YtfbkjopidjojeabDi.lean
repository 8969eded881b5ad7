/-
  Walks over package plan: findClocks.
-/
import Derived.Test.YtfbkjopidjojeabDh
namespace Go.Proofs.Ytfbkjopidjojeab
open Go.RowKit

theorem give_no {s : St} (h : isGv s.kind = false) : give s = s := by simp [give, h]
theorem give_yes {s : St} (h : isGv s.kind = true) : give s = { s with ck := s.wd } := by simp [give, h]
/-- How far the clocks are given. -/
def GvAt (o : List St) (k : Nat) (qs : List (St × Value)) : Prop := qs.map Prod.fst = (o.take k).map give ++ o.drop k
theorem GvAt.get {o : List St} {k : Nat} {qs : List (St × Value)} (h : GvAt o k qs) (hk : k < qs.length) (hl : qs.length = o.length) : o[k]? = some qs[k].1 := by
  have e : (qs.map Prod.fst)[k]? = some qs[k].1 := by simp [hk]
  rw [h, List.getElem?_append_right (by simp; omega)] at e
  rw [List.getElem?_drop] at e
  rw [← e]; congr 1; simp; omega
theorem GvAt.step {o : List St} {k : Nat} {qs : List (St × Value)} (h : GvAt o k qs) (hk : k < qs.length) (hl : qs.length = o.length) (a : St × Value) (ha : a.1 = give qs[k].1) : GvAt o (k + 1) (qs.set k a) := by
  have hg := h.get hk hl
  have hko : k < o.length := by omega
  unfold GvAt at h ⊢
  have hok : o[k] = qs[k].1 := by rw [List.getElem?_eq_getElem hko] at hg; injection hg
  have hd : o.drop k = o[k] :: o.drop (k + 1) := List.drop_eq_getElem_cons hko
  have hlen : ((o.take k).map give).length = k := by simp; omega
  rw [map_set_fst, h, hd, List.set_append_right _ _ (by rw [hlen]; exact Nat.le_refl _), hlen, Nat.sub_self, List.set_cons_zero, ha, take_one hko, List.map_append, ← hok]
  simp
theorem GvAt.same {o : List St} {k : Nat} {qs : List (St × Value)} (h : GvAt o k qs) (hk : k < qs.length) (hl : qs.length = o.length) (hg : isGv qs[k].1.kind = false) : GvAt o (k + 1) qs := by
  have := h.step hk hl qs[k] (give_no hg).symm
  rwa [List.set_getElem_self] at this

/-- How far one time through has come. -/
def PsAt (o : List St) (qs : List St) (k : Nat) (m : Bool) : Prop := pass o.length o 0 false = pass (o.length - k) qs k m ∧ unc qs ≤ unc o ∧ (m = true → unc qs + 1 ≤ unc o)
theorem PsAt.start (o : List St) : PsAt o o 0 false := ⟨by rw [Nat.sub_zero], Nat.le_refl _, fun h => by cases h⟩
theorem PsAt.next {o qs qs' : List St} {k : Nat} {m m' : Bool} (h : PsAt o qs k m) (hk : k < o.length) (ht : tick qs k m = .ok (qs', m')) (hu : unc qs' ≤ unc qs) (hm : m' = true → m = true ∨ unc qs' + 1 ≤ unc qs) : PsAt o qs' (k + 1) m' := by
  obtain ⟨h1, h2, h3⟩ := h
  obtain ⟨n, hn⟩ : ∃ n, o.length - k = n + 1 := ⟨o.length - k - 1, by omega⟩
  rw [hn, pass, ht] at h1
  refine ⟨by rw [h1, show o.length - (k + 1) = n by omega], by omega, fun e => ?_⟩
  rcases hm e with g | g
  · have := h3 g; omega
  · omega
theorem PsAt.err {o qs : List St} {k : Nat} {m : Bool} {f : Flt} (h : PsAt o qs k m) (hk : k < o.length) (ht : tick qs k m = .error f) : pass o.length o 0 false = .error f := by
  obtain ⟨h1, h2, h3⟩ := h
  obtain ⟨n, hn⟩ : ∃ n, o.length - k = n + 1 := ⟨o.length - k - 1, by omega⟩
  rw [hn, pass, ht] at h1
  exact h1
theorem PsAt.fin {o qs : List St} {k : Nat} {m : Bool} (h : PsAt o qs k m) (hk : ¬ k < o.length) : pass o.length o 0 false = .ok (qs, m) := by
  rw [h.1, show o.length - k = 0 by omega]; rfl

theorem own_set_other {w : World} {B : Nat} {e : TypeId} {size : Nat} {v : Value} {n : Nat} {xs : List Value} (h : w.ownsRow B e size v n xs) {a : Addr} (ha : v.ownBlock ≠ some a.block) (u : Value) : (w.setCell a u).ownsRow B e size v n xs :=
  h.kept (row := some a.block) ⟨rfl, rfl, rfl, by simp [World.setCell], fun k _ hk => heap_setCell_other w a k u (fun e => hk (by rw [e]))⟩ (.inr ha)
theorem own_set_flt {w : World} {B : Nat} {e : TypeId} {size : Nat} {v : Value} {n : Nat} {xs : List Value} (h : w.ownsRow B e size v n xs) {b j : Nat} {cs : Array Value} {t : TypeId} {fr : Nat × Nat} (hf : w.heap[b]? = some (.cells cs t fr)) (he : e ≠ t) (u : Value) : (w.setCell ⟨b, j, none⟩ u).ownsRow B e size v n xs := by
  rcases h.2 with ⟨rfl, _⟩ | ⟨g, cap, cur, rfl, _, hg, _⟩
  · exact own_set_other h (by simp [Value.ownBlock]) _
  · refine own_set_other h ?_ _
    simp only [Value.ownBlock, ne_eq, Option.some.injEq]
    intro hgb
    have hgb : g = b := hgb
    subst hgb
    rw [hf] at hg
    injection hg with hg
    injection hg with _ h2 _
    exact he h2.symm
theorem FltB.keep {w : World} {b : Nat} {x y z : Int} (h : FltB w b x y) : (w.setCell ⟨b, 0, none⟩ (.int .i64 z)).heap[b]? = some (.cells #[.int .i64 z, .int .i64 y] 30 (0, 0)) := by
  have h1 : w.heap[b]? = some (.cells [Value.int .i64 x, .int .i64 y].toArray 30 (0, 0)) := h
  exact blk_set (j := 0) h1 (.int .i64 z)

theorem StepsAt.rs' {w : World} {B g n cap : Nat} {qs : List (St × Value)} (h : StepsAt w B (.slice (some ⟨g, 0, none⟩) n cap) qs) (hn : n = qs.length) : RS w (some ⟨g, 0, none⟩) qs :=
  ⟨.inr ⟨g, rfl, (h.1.lt g rfl).2, fun _ hk j hj => h.cel hn hk j hj⟩, fun q hq => Reads.of (h.2 q hq)⟩
theorem CkOk.mono {n m : Nat} {qs : List St} (h : CkOk n qs) (hm : n ≤ m) : CkOk m qs := fun s hs => ⟨Nat.le_trans (h s hs).1 hm, Nat.le_trans (h s hs).2 hm⟩

/-- What findClocks gives. -/
def FindIs (B : Nat) (v : Value) (o : Except Flt (List St)) (e : Ending) (w' : World) : Prop :=
  (∃ f, o = .error f ∧ FltIs f e) ∨ ∃ qs, o = .ok (qs.map Prod.fst) ∧ FltIs (0, 0) e ∧ StepsAt w' B v qs ∧ CkOk 64 (qs.map Prod.fst) ∧ Wf (qs.map Prod.fst)

set_option maxRecDepth 50000 in
set_option maxHeartbeats 1000000 in
theorem findClocks_nil (p : Option Addr) (cap : Nat) (w : World) :
    Calls Try.prog 44 #[.slice p 0 cap] w fun e w' => FltIs (0, 0) e ∧ Below w.heap.size w w' := by
  have hf := G1_f w
  obtain ⟨fc0, fc1, ff0, ff1⟩ := hf.c
  go_enter Try.func44, Try.ntmps44
  go_wp2
  go_loopw [3] (fun i wr => i = .int .i64 0 ∧ wr = G1 w) (fun _ _ => 0)
  case atStart => exact ⟨rfl, rfl⟩
  case round =>
    obtain ⟨rfl, rfl⟩ := hrel
    go_wp2
    go_loopg [4] 1 (fun gk m wr => ∃ b : Bool, m = .bool b ∧ (b = true → 1 ≤ gk) ∧ wr = G1 w)
    case atStart => exact ⟨true, rfl, fun _ => Nat.le_refl _, rfl⟩
    case round =>
      obtain ⟨b, rfl, hb, rfl⟩ := hrel
      cases b with
      | false =>
        go_wp2
        have q0 := (hf.set 0 0).c.1
        have q1 := (hf.set 0 0).c.2.1
        refine bodyPost_ret (v := .agg #[.int .i64 0, .int .i64 0]) (by simp [results, Try.results44, go_sem, q0, q1]) rfl ⟨rfl, ?_⟩
        exact (((G1_below w).setCell (Nat.le_refl _) _).setCell (Nat.le_refl _) _)
      | true =>
        have hb1 := hb rfl
        go_wp2
        go_loopw [4, 5] (fun m i wr => m = .bool false ∧ i = .int .i64 0 ∧ wr = G1 w) (fun _ _ _ => 0)
        case atStart => exact ⟨rfl, rfl, rfl⟩
        case round =>
          obtain ⟨rfl, rfl, rfl⟩ := hrel
          go_wp2
          go_roundg 0
          case measure => omega
          case rel => exact ⟨false, rfl, (fun h => by cases h), rfl⟩

set_option maxRecDepth 50000 in
set_option maxHeartbeats 2000000 in
theorem findClocks_any (qs0 : List (St × Value)) (O : List St) (B g cap n : Nat) (w : World) (hO : (qs0.map Prod.fst).map give = O) (hn0 : 0 < n) (hn : n ≤ 24) (hlen : qs0.length = n) (hat : StepsAt w B (.slice (some ⟨g, 0, none⟩) n cap) qs0) (hB : B ≤ w.heap.size) (hwf : Wf (qs0.map Prod.fst)) (hok : CkOk 64 (qs0.map Prod.fst)) :
    Calls Try.prog 44 #[.slice (some ⟨g, 0, none⟩) n cap] w fun e w' => FindIs B (.slice (some ⟨g, 0, none⟩) n cap) (solveL (n + 1) O) e w' ∧ Below B w w' := by
  have HO : Hid (O = (qs0.map Prod.fst).map give) := hO.symm
  clear hO
  obtain ⟨hg1, hg2⟩ := hat.1.lt g rfl
  have HML : Hid ((qs0.map Prod.fst).length = n) := by show (qs0.map Prod.fst).length = n; simp [hlen]
  have H0 : Hid (FC w B g n cap (G1 w) qs0) := ⟨hlen, hat.below (G1_below w), G1_f w, (G1_below w).mono hB, by rw [G1_size]; omega, hg2, hg1, hwf, hok⟩
  clear hat hwf hok hlen
  go_enter Try.func44, Try.ntmps44
  go_wp2
  go_loopw [3] (fun i wr => ∃ (k : Nat) (qs : List (St × Value)), i = .int .i64 k ∧ k ≤ n ∧ Hid (GvAt (qs0.map Prod.fst) k qs) ∧ Hid (FC w B g n cap wr qs)) (fun i _ => n - (intOf i).toNat)
  case atStart => exact ⟨0, qs0, rfl, Nat.zero_le _, by show _ = _; simp, H0⟩
  case round =>
    obtain ⟨k, qs, rfl, hk, HG, HF⟩ := hrel
    by_cases hlt : k < n
    · have hF := HF.out
      have hkq : k < qs.length := by rw [hF.len]; exact hlt
      have c1 := hF.at_.cel hF.len.symm hkq 1 (by omega)
      have c5 := hF.at_.cel hF.len.symm hkq 5 (by omega)
      have c6 := hF.at_.cel hF.len.symm hkq 6 (by omega)
      have c7 := hF.at_.cel hF.len.symm hkq 7 (by omega)
      have c8 := hF.at_.cel hF.len.symm hkq 8 (by omega)
      simp only [stCells, List.getElem?_cons_zero, List.getElem?_cons_succ] at c1 c5 c6 c7 c8
      have f7 := hF.at_.frz hF.len.symm (k * 9 + 7)
      have f8 := hF.at_.frz hF.len.symm (k * 9 + 8)
      have hkind : qs[k].1.kind ≤ 13 := (hF.wf qs[k].1 (by simp; exact ⟨_, List.getElem_mem _⟩)).kind
      cases hgv : isGv qs[k].1.kind with
      | true =>
        have HG2 : Hid (GvAt (qs0.map Prod.fst) (k + 1) (qs.set k ({ qs[k].1 with ck := qs[k].1.wd }, qs[k].2))) := HG.out.step hkq (by rw [hF.len, HML.out]) _ (give_yes hgv).symm
        have hwd := (hF.wf qs[k].1 (by simp; exact ⟨_, List.getElem_mem _⟩)).wd
        have HF2 : Hid (FC w B g n cap _ _) := hF.set hkq qs[k].1.wd ⟨by omega, by omega⟩
        clear hF
        go_wp2_with (go_at_call 63; refine (isGiven_any qs[k].1.kind _ (by omega)).mono ?_; rintro e w1 ⟨hE, hw1⟩; subst hE; subst w1)
        go_roundw
        case rel => exact ⟨k + 1, _, by go_num, by omega, HG2, HF2⟩
        case measure => simp [intOf]; omega
      | false =>
        have HG2 : Hid (GvAt (qs0.map Prod.fst) (k + 1) qs) := HG.out.same hkq (by rw [hF.len, HML.out]) hgv
        clear hF
        go_wp2_with (go_at_call 63; refine (isGiven_any qs[k].1.kind _ (by omega)).mono ?_; rintro e w1 ⟨hE, hw1⟩; subst hE; subst w1)
        go_roundw
        case rel => exact ⟨k + 1, qs, by go_num, by omega, HG2, HF⟩
        case measure => simp [intOf]; omega
    · have hke : k = n := by omega
      have hgd : qs.map Prod.fst = O := by
        have := HG.out
        unfold GvAt at this
        rw [HO.out, this, List.take_of_length_le (by rw [HML.out]; omega), List.drop_of_length_le (by rw [HML.out]; omega)]; simp
      have HGD : Hid (qs.map Prod.fst = O) := hgd
      clear HG hgd H0 hke
      go_wp2
      go_loopg [4] (n + 1) (fun gk m wr => ∃ (b : Bool) (qs : List (St × Value)), m = .bool b ∧ Hid (FC w B g n cap wr qs) ∧ Hid ((b = true → unc (qs.map Prod.fst) + 1 ≤ gk ∧ solveL (n + 1) O = solveL gk (qs.map Prod.fst)) ∧ (b = false → solveL (n + 1) O = .ok (qs.map Prod.fst))))
      case atStart => exact ⟨true, qs, rfl, HF, fun _ => ⟨by have := unc_le (qs.map Prod.fst); rw [List.length_map, HF.out.len] at this; omega, by rw [HGD.out]⟩, fun h => by cases h⟩
      case round =>
        clear HF HGD
        obtain ⟨b, qs, rfl, HF, HS⟩ := hrel
        cases b with
        | false =>
          have hF := HF.out
          obtain ⟨fc0, fc1, ff0, ff1⟩ := hF.flt.c
          have hsol := HS.out.2 rfl
          have HSol : Hid (solveL (n + 1) O = .ok (qs.map Prod.fst)) := hsol
          clear hF hsol
          go_wp2
          have q0 := (HF.out.flt.set 0 0).c.1
          have q1 := (HF.out.flt.set 0 0).c.2.1
          refine bodyPost_ret (v := .agg #[.int .i64 0, .int .i64 0]) (by simp [results, Try.results44, go_sem, q0, q1]) rfl ⟨?_, ?_⟩
          · have hF := HF.out
            refine .inr ⟨qs, HSol.out, rfl, ?_, hF.ok, hF.wf⟩
            have hgw := hF.gl
            exact ⟨own_set_other (own_set_other hF.at_.1 (by simp only [Value.ownBlock]; intro h; injection h with h; have h : g = w.heap.size := h; omega) _) (by simp only [Value.ownBlock]; intro h; injection h with h; have h : g = w.heap.size := h; omega) _, fun p hp => own_set_flt (own_set_flt (hF.at_.2 p hp) hF.flt (by decide) _) (FltB.keep hF.flt) (by decide) _⟩
          · exact (HF.out.bel.setCell (by show B ≤ w.heap.size; omega) _).setCell (by show B ≤ w.heap.size; omega) _
        | true =>
          have HS2 : Hid (unc (qs.map Prod.fst) + 1 ≤ gk ∧ solveL (n + 1) O = solveL gk (qs.map Prod.fst)) := HS.out.1 rfl
          clear HS
          go_wp2
          have hoL : (qs.map Prod.fst).length = n := by rw [List.length_map]; exact HF.out.len
          have HOL : Hid ((qs.map Prod.fst).length = n) := hoL
          clear hoL
          rename World => W1
          go_loopw [4, 5] (fun m i wr => ∃ (k : Nat) (b : Bool) (rs : List (St × Value)), m = .bool b ∧ i = .int .i64 k ∧ k ≤ n ∧ Hid (PsAt (qs.map Prod.fst) (rs.map Prod.fst) k b) ∧ Hid (FC w B g n cap wr rs)) (fun _ i _ => n - (intOf i).toNat)
          case atStart => exact ⟨0, false, qs, rfl, rfl, Nat.zero_le _, PsAt.start _, HF⟩
          case round =>
            clear HF
            obtain ⟨k, b, rs, rfl, rfl, hk, HP, HF⟩ := hrel
            by_cases hlt : k < n
            · have hF := HF.out
              have hkr : k < rs.length := by rw [hF.len]; exact hlt
              obtain ⟨⟨s, u⟩, hq⟩ : ∃ q, rs[k] = q := ⟨_, rfl⟩
              have hmem : (s, u) ∈ rs := by rw [← hq]; exact List.getElem_mem _
              have hget : (rs.map Prod.fst)[k]? = some s := by simp [hkr, hq]
              have c0 := hF.at_.cel hF.len.symm hkr 0 (by omega)
              have c1 := hF.at_.cel hF.len.symm hkr 1 (by omega)
              have c2 := hF.at_.cel hF.len.symm hkr 2 (by omega)
              have c3 := hF.at_.cel hF.len.symm hkr 3 (by omega)
              have c4 := hF.at_.cel hF.len.symm hkr 4 (by omega)
              have c5 := hF.at_.cel hF.len.symm hkr 5 (by omega)
              have c6 := hF.at_.cel hF.len.symm hkr 6 (by omega)
              have c7 := hF.at_.cel hF.len.symm hkr 7 (by omega)
              have c8 := hF.at_.cel hF.len.symm hkr 8 (by omega)
              rw [hq] at c0 c1 c2 c3 c4 c5 c6 c7 c8
              simp only [stCells, List.getElem?_cons_zero, List.getElem?_cons_succ, Nat.add_zero] at c0 c1 c2 c3 c4 c5 c6 c7 c8
              have hrd := Reads.of (hF.at_.2 (s, u) hmem)
              obtain ⟨_, up, uc, hue, _, _⟩ := hrd
              simp only at hue
              subst hue
              have hws := hF.wf s (List.mem_of_getElem? hget)
              rw [List.length_map, hF.len] at hws
              have HGet : Hid ((rs.map Prod.fst)[k]? = some s) := hget
              clear hget
              have hgs := hF.gl
              have hsz := hF.sz
              cases hh : s.ck.2.isEmpty with
              | false =>
                have HT : Hid (tick (rs.map Prod.fst) k b = .ok (rs.map Prod.fst, b)) := by
                  show tick _ _ _ = _
                  unfold tick; rw [HGet.out]; simp [hasC, hh]
                have HP2 : Hid (PsAt (qs.map Prod.fst) (rs.map Prod.fst) (k + 1) b) := HP.out.next (by rw [HOL.out]; exact hlt) HT.out (Nat.le_refl _) (fun h => .inl h)
                clear hF
                go_wp2_with (go_at_call 64; refine (None_any s.ck.1 s.ck.2 _).mono ?_; rintro e w1 ⟨hK, hb1⟩; subst hK)
                go_roundw
                case rel => exact ⟨k + 1, b, rs, rfl, by go_num, by omega, HP2, HF.out.below hb1⟩
                case measure => simp [intOf]; omega
              | true =>
                have hckl := hF.ok s (List.mem_of_getElem? HGet.out)
                obtain ⟨c, hc⟩ : ∃ c, ckOf (rs.map Prod.fst) s = c := ⟨_, rfl⟩
                have HT0 : Hid (tick (rs.map Prod.fst) k b = if longW c then .error (2, s.no) else if hasC c then .ok ((rs.map Prod.fst).set k { s with ck := c }, true) else .ok (rs.map Prod.fst, b)) := by
                  show tick _ _ _ = _
                  unfold tick; rw [HGet.out]; simp [hasC, hh, hc]
                go_wp2_with (go_at_call 64; refine (None_any s.ck.1 s.ck.2 _).mono ?_; rintro e w1 ⟨hK, hb1⟩; subst hK; rw [hh]; have hF1 := HF.out.below hb1; have d0 := hF1.at_.cel hF1.len.symm hkr 0 (by omega); have d1 := hF1.at_.cel hF1.len.symm hkr 1 (by omega); have d2 := hF1.at_.cel hF1.len.symm hkr 2 (by omega); have d3 := hF1.at_.cel hF1.len.symm hkr 3 (by omega); have d4 := hF1.at_.cel hF1.len.symm hkr 4 (by omega); have d5 := hF1.at_.cel hF1.len.symm hkr 5 (by omega); have d6 := hF1.at_.cel hF1.len.symm hkr 6 (by omega); have d7 := hF1.at_.cel hF1.len.symm hkr 7 (by omega); have d8 := hF1.at_.cel hF1.len.symm hkr 8 (by omega); rw [hq] at d0 d1 d2 d3 d4 d5 d6 d7 d8; simp only [stCells, List.getElem?_cons_zero, List.getElem?_cons_succ, Nat.add_zero] at d0 d1 d2 d3 d4 d5 d6 d7 d8)
                have hcall := clockOf_any rs (some ⟨g, 0, none⟩) cap s up uc w1 (hF1.at_.rs' hF1.len.symm) (Reads.of (hF1.at_.2 _ hmem)) hws.len (fun x hx => by rw [hF1.len]; exact hws.use x hx) hws.kind (hF1.ok.mono (by omega)) (fun h10 => ⟨hws.has (.inl h10), by have := hws.wd; omega, by have := hws.wd; omega⟩)
                rw [hF1.len, hc] at hcall
                refine hcall.mono ?_
                rintro e w2 ⟨⟨hK, HLen⟩, hb2⟩
                unfold CkIs at hK
                subst hK
                have hF2 := hF1.below hb2
                have hbx : Below w2.heap.size w2 (w2.alloc (Obj.cells #[.string (bs c.1), .string (bs c.2)] 74)) := (Below.refl _ _).alloc (Nat.le_refl _) _
                have hF2' := hF2.below hbx
                have hbox := Boxed.new w2 _ (bs c.1) (bs c.2) 74 rfl
                have hl1 : (bs c.1).size ≤ 1152921504606846976 := by rw [bs_size]; have := HLen.out.1; omega
                have hl2 : (bs c.2).size ≤ 1152921504606846976 := by rw [bs_size]; have := HLen.out.2; omega
                have hlw : (decide (64 < (bs c.1).size) || decide (64 < (bs c.2).size)) = longW c := by rw [bs_size, bs_size]; rfl
                clear hcall c0 c1 c2 c3 c4 c5 c6 c7 c8 d0 d1 d2 d3 d4 d5 d6 d7 d8 hc hF
                cases hlong : longW c with
                | true =>
                  have HT : Hid (pass (qs.map Prod.fst).length (qs.map Prod.fst) 0 false = .error (2, s.no)) := HP.out.err (by rw [HOL.out]; exact hlt) (by rw [HT0.out, hlong]; rfl)
                  have HSol : Hid (solveL (n + 1) O = .error (2, s.no)) := by
                    show solveL _ _ = _
                    rw [HS2.out.2]
                    obtain ⟨f, hf⟩ : ∃ f, gk = f + 1 := ⟨gk - 1, by have := HS2.out.1; omega⟩
                    rw [hf, solveL, HT.out]
                  go_wp2_with (go_at_call 66; refine (Long_any (bs c.1) (bs c.2) _ hl1 hl2).mono ?_; rintro e w3 ⟨hK, hb3⟩; rw [hlw, hlong] at hK; subst hK; have hF3 := hF2'.below hb3; have d0 := hF3.at_.cel hF3.len.symm hkr 0 (by omega); rw [hq] at d0; simp only [stCells, List.getElem?_cons_zero, Nat.add_zero] at d0; obtain ⟨fc0, fc1, ff0, ff1⟩ := hF3.flt.c; have hsz3 := hF3.sz)
                  have q0 := (hF3.flt.set 2 s.no).c.1
                  have q1 := (hF3.flt.set 2 s.no).c.2.1
                  refine bodyPost_ret (v := .agg #[.int .i64 2, .int .i64 s.no]) (by simp [results, Try.results44, go_sem, q0, q1]) rfl ⟨?_, ?_⟩
                  · exact .inl ⟨(2, s.no), HSol.out, rfl⟩
                  · exact (hF3.bel.setCell (by show B ≤ w.heap.size; omega) _).setCell (by show B ≤ w.heap.size; omega) _
                | false =>
                  have hlc : c.1.length ≤ 64 ∧ c.2.length ≤ 64 := by
                    unfold longW at hlong
                    simp at hlong
                    omega
                  go_wp2_with (go_at_call 66; refine (Long_any (bs c.1) (bs c.2) _ hl1 hl2).mono ?_; rintro e w3 ⟨hK, hb3⟩; rw [hlw, hlong] at hK; subst hK; have hF3 := hF2'.below hb3; have hbox3 := hbox.below hb3 (by simp); obtain ⟨x0, x1, _, _⟩ := hbox3)
                  refine (None_any c.1 c.2 w3).mono ?_
                  rintro e w4 ⟨hK, hb4⟩
                  subst hK
                  have hF4 := hF3.below hb4
                  have hbox4 := (Boxed.below (B := w3.heap.size) ⟨x0, x1, by assumption, by assumption⟩ hb4 (by have := hb3.size; simp at this; omega))
                  obtain ⟨y0, y1, _, _⟩ := hbox4
                  cases hhc : c.2.isEmpty with
                  | true =>
                    have HP2 : Hid (PsAt (qs.map Prod.fst) (rs.map Prod.fst) (k + 1) b) := HP.out.next (by rw [HOL.out]; exact hlt) (by rw [HT0.out, hlong]; simp [hasC, hhc]) (Nat.le_refl _) (fun h => .inl h)
                    go_wp2
                    go_roundw
                    case rel => exact ⟨k + 1, b, rs, rfl, by go_num, by omega, HP2, hF4⟩
                    case measure => simp [intOf]; omega
                  | false =>
                    have hset := hF4.set hkr c hlc
                    rw [hq] at hset
                    have hu1 := unc_set (c := c) HGet.out (by simp [hasC, hh]) (by simp [hasC, hhc])
                    have HP2 : Hid (PsAt (qs.map Prod.fst) ((rs.set k ({ s with ck := c }, .slice up s.uses.length uc)).map Prod.fst) (k + 1) true) := by
                      show PsAt _ _ _ _
                      rw [map_set_fst]
                      exact HP.out.next (qs' := (rs.map Prod.fst).set k { s with ck := c }) (by rw [HOL.out]; exact hlt) (by rw [HT0.out, hlong]; simp [hasC, hhc]) (by omega) (fun _ => .inr (by omega))
                    have e7 := hF4.at_.cel hF4.len.symm hkr 7 (by omega)
                    have e8 := hF4.at_.cel hF4.len.symm hkr 8 (by omega)
                    rw [hq] at e7 e8
                    simp only [stCells, List.getElem?_cons_zero, List.getElem?_cons_succ] at e7 e8
                    have g7 := hF4.at_.frz hF4.len.symm (k * 9 + 7)
                    have g8 := hF4.at_.frz hF4.len.symm (k * 9 + 8)
                    clear hu1
                    go_wp2
                    go_roundw
                    case rel => exact ⟨k + 1, true, _, rfl, by go_num, by omega, HP2, hset⟩
                    case measure => simp [intOf]; omega
            · have HPf := HP.out.fin (by rw [HOL.out]; exact hlt)
              have HPf2 : Hid (pass (qs.map Prod.fst).length (qs.map Prod.fst) 0 false = .ok (rs.map Prod.fst, b)) := HPf
              obtain ⟨f, hf⟩ : ∃ f, gk = f + 1 := ⟨gk - 1, by have := HS2.out.1; omega⟩
              have hsol : solveL (n + 1) O = if b then solveL f (rs.map Prod.fst) else .ok (rs.map Prod.fst) := by
                rw [HS2.out.2, hf, solveL, HPf2.out]
              have hun := HP.out.2
              have HX : Hid ((b = true → unc (rs.map Prod.fst) + 1 ≤ f ∧ solveL (n + 1) O = solveL f (rs.map Prod.fst)) ∧ (b = false → solveL (n + 1) O = .ok (rs.map Prod.fst))) := by
                refine ⟨fun hb => ?_, fun hb => ?_⟩
                · rw [hb] at hsol
                  have := hun.2 hb
                  have := HS2.out.1
                  exact ⟨by omega, hsol⟩
                · rw [hb] at hsol; exact hsol
              have hfl : f < gk := by omega
              clear HPf hsol hun hf
              go_wp2
              go_roundg f
              case measure => exact hfl
              case rel => exact ⟨b, rs, rfl, HF, HX⟩
end Go.Proofs.Ytfbkjopidjojeab
