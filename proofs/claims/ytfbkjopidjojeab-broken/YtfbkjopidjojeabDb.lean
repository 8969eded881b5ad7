/-
  Walks over package plan: findTwice.
-/
import Derived.Test.YtfbkjopidjojeabDa
namespace Go.Proofs.Ytfbkjopidjojeab
open Go.RowKit

/-- What findTwice tells. -/
def twF (ls : List Ln) : Flt := match twiceL ls with
  | none => (0, 0)
  | some n => (7, ((ls[n]?).map Ln.no).getD 0)
theorem twF_none {ls : List Ln} (h : ∀ j, j < ls.length → twiceAt ls j = false) : twF ls = (0, 0) := by
  have : twiceL ls = none := by
    unfold twiceL
    rw [List.find?_eq_none]
    intro j hj
    rw [h j (List.mem_range.1 hj)]; simp
  unfold twF; rw [this]
theorem twF_some {ls : List Ln} {k : Nat} {l : Ln} (hk : k < ls.length) (hb : ∀ j, j < k → twiceAt ls j = false) (h : twiceAt ls k = true) (hl : ls[k]? = some l) : twF ls = (7, l.no) := by
  have : twiceL ls = some k := by
    unfold twiceL
    rw [List.find?_range_eq_some]
    exact ⟨h, List.mem_range.2 hk, fun j hj => by rw [hb j hj]; rfl⟩
  unfold twF; rw [this]; show (7, ((ls[k]?).map Ln.no).getD 0) = _; rw [hl]; rfl

theorem owner_len (ps : List (Ln × Value)) (n : Nat) (hn : ps.length = n) (p : Option Addr) (cap : Nat) (nm : List UInt8) (w : World) (hl : n ≤ 1048576) (hr : RL w p ps) :
    Calls Try.prog 60 #[.slice p n cap, .string (S nm)] w fun e w' => e = .returned (.int .i64 (owI (ownerL (ps.map Prod.fst) nm))) ∧ w' = w := by
  subst hn
  exact owner_any ps p cap nm w hl hr
theorem RL.drewN {w : World} {p : Option Addr} {ps : List (Ln × Value)} (h : RL w p ps) (n : Nat) : RL (w.drewN n) p ps := by
  refine ⟨h.1.imp id fun ⟨b, e, hlt, hc⟩ => ⟨b, e, by simpa using hlt, fun k hk j hj => by simpa using hc k hk j hj⟩, fun q hq => ?_⟩
  obtain ⟨h1, p', c', h2, h3, h4⟩ := h.2 q hq
  exact ⟨h1, p', c', h2, h3, h4.imp id fun ⟨b, o, e, hr⟩ => ⟨b, o, e, by simpa using hr.1, fun i hi => by simpa using hr.2 i hi⟩⟩
theorem FltB.drewN {w : World} {b : Nat} {x y : Int} (h : FltB w b x y) (n : Nat) : FltB (w.drewN n) b x y := by
  unfold FltB at *; simpa using h

/-- A fault is given. -/
def FltIs (f : Flt) (e : Ending) : Prop := e = .returned (.agg #[.int .i64 f.1, .int .i64 f.2])

theorem tw_name {ps : List (Ln × Value)} {k : Nat} (hk : k < ps.length) : (ps.map Prod.fst)[k]? = some ps[k].1 := by simp [hk]
theorem tw_take {ps : List (Ln × Value)} {k : Nat} : (ps.take k).map Prod.fst = (ps.map Prod.fst).take k := by rw [List.map_take]

set_option maxRecDepth 50000 in
set_option maxHeartbeats 1000000 in
theorem findTwice_any (ps : List (Ln × Value)) (p : Option Addr) (cap : Nat) (w : World) (hl : ps.length ≤ 1048576) (hcap : ps.length ≤ cap) (hr : RL w p ps) :
    Calls Try.prog 41 #[.slice p ps.length cap] w fun e w' => FltIs (twF (ps.map Prod.fst)) e ∧ Below w.heap.size w w' := by
  have hf0 := G1_f w
  have hml : (ps.map Prod.fst).length = ps.length := by simp
  have HML : Hid ((ps.map Prod.fst).length = ps.length) := hml
  clear hml
  go_enter Try.func41, Try.ntmps41
  go_wp2
  go_loopw [3] (fun i wr => ∃ k : Nat, k ≤ ps.length ∧ i = .int .i64 k ∧ Hid (∀ j, j < k → twiceAt (ps.map Prod.fst) j = false) ∧ Hid (Below (w.heap.size + 1) (G1 w) wr)) (fun i _ => ps.length - (intOf i).toNat)
  case atStart => exact ⟨0, Nat.zero_le _, rfl, fun j hj => by omega, Below.refl _ _⟩
  case round =>
    obtain ⟨k, hk, rfl, HB, HW⟩ := hrel
    have hnx := HW.out
    have hsz := hnx.size
    rw [G1_size] at hsz
    have hfr := hf0.below hnx (by omega)
    obtain ⟨fc0, fc1, ff0, ff1⟩ := hfr.c
    have hbw : Below w.heap.size w wr := (G1_below w).trans (hnx.mono (by omega))
    have hrr := hr.below hbw (Nat.le_refl _)
    have hltr : w.heap.size < wr.heap.size := by omega
    by_cases hlt : k < ps.length
    · obtain ⟨b, rfl, hb, hc⟩ : ∃ b, p = some ⟨b, 0, none⟩ ∧ b < wr.heap.size ∧ ∀ k (h : k < ps.length) j, j < 7 → wr.cell? ⟨b, k * 7 + j, none⟩ = (lnCells ps[k].1 ps[k].2)[j]? := by
        rcases hrr.1 with h | h
        · rw [h] at hlt; simp at hlt
        · exact h
      have c2 : wr.cell? ⟨b, k * 7 + 2, none⟩ = some (.string (S ps[k].1.name)) := hc k hlt 2 (by omega)
      have c0 : wr.cell? ⟨b, k * 7, none⟩ = some (.int .i64 ps[k].1.no) := hc k hlt 0 (by omega)
      have hrt := hrr.take k
      have htl : (ps.take k).length = k := by rw [List.length_take]; omega
      have I1 : (0 : Int) ≤ (k : Int) := by omega
      have I2 : (k : Int) < (ps.length : Int) := by omega
      have I3 : (k : Int) ≤ (cap : Int) := by omega
      clear hc hrr hr
      have hnl : (S ps[k].1.name).toList = ps[k].1.name := by rw [ByteArray.toList_eq, S_data]
      by_cases hne : (S ps[k].1.name).toList.isEmpty = true
      · have hne2 : (!(S ps[k].1.name).toList.isEmpty) = false := by rw [hne]; rfl
        have HT : Hid (twiceAt (ps.map Prod.fst) k = false) := by
          show twiceAt _ _ = _
          unfold twiceAt; rw [tw_name hlt]; rw [hnl] at hne; simp [hne]
        clear hnl
        go_wp2
        go_quiet (fail)
        go_wp2
        go_roundw
        case rel => exact ⟨k + 1, by omega, by go_num, fun j hj => by
          rcases Nat.lt_or_ge j k with q | q
          · exact HB.out j q
          · have : j = k := by omega
            subst this; exact HT.out, below_drewN HW.out _⟩
        case measure => simp [intOf]; omega
      · have hne1 : (S ps[k].1.name).toList.isEmpty = false := by simpa using hne
        have hne2 : (!(S ps[k].1.name).toList.isEmpty) = true := by rw [hne1]; rfl
        have hT0 : twiceAt (ps.map Prod.fst) k = (ownerL ((ps.take k).map Prod.fst) ps[k].1.name).isSome := by
          unfold twiceAt; rw [tw_name hlt, tw_take]; rw [hnl] at hne1; simp [hne1]
        have HT0 : Hid (twiceAt (ps.map Prod.fst) k = (ownerL ((ps.take k).map Prod.fst) ps[k].1.name).isSome) := hT0
        clear hnl hne hT0
        cases ho : ownerL ((ps.take k).map Prod.fst) ps[k].1.name with
        | none =>
          have hcall : ∀ n, Calls Try.prog 60 #[.slice (some ⟨b, 0, none⟩) k cap, .string (S ps[k].1.name)] (wr.drewN n) fun e w' => e = .returned (.int .i64 (-1)) ∧ w' = wr.drewN n := fun n => by
            have := owner_len (ps.take k) k htl (some ⟨b, 0, none⟩) cap ps[k].1.name (wr.drewN n) (by omega) (hrt.drewN n)
            rw [ho] at this
            exact this
          have HT : Hid (twiceAt (ps.map Prod.fst) k = false) := by show twiceAt _ _ = _; rw [HT0.out, ho]; rfl
          clear ho hrt
          go_wp2
          go_quiet ((go_at_call 60; refine Calls.quiet_of_same (hcall _)))
          clear hcall
          go_wp2
          go_roundw
          case rel => exact ⟨k + 1, by omega, by go_num, fun j hj => by
            rcases Nat.lt_or_ge j k with q | q
            · exact HB.out j q
            · have : j = k := by omega
              subst this; exact HT.out, below_drewN HW.out _⟩
          case measure => simp [intOf]; omega
        | some m =>
          have hcall : ∀ n, Calls Try.prog 60 #[.slice (some ⟨b, 0, none⟩) k cap, .string (S ps[k].1.name)] (wr.drewN n) fun e w' => e = .returned (.int .i64 m) ∧ w' = wr.drewN n := fun n => by
            have := owner_len (ps.take k) k htl (some ⟨b, 0, none⟩) cap ps[k].1.name (wr.drewN n) (by omega) (hrt.drewN n)
            rw [ho] at this
            exact this
          have HT : Hid (twF (ps.map Prod.fst) = (7, ps[k].1.no)) := twF_some (by rw [HML.out]; exact hlt) HB.out (by rw [HT0.out, ho]; rfl) (tw_name hlt)
          clear ho hrt
          go_wp2
          go_quiet ((go_at_call 60; refine Calls.quiet_of_same (hcall _)))
          clear hcall
          go_wp2
          have q0 := fun n => ((hfr.drewN n).set 7 ps[k].1.no).c.1
          have q1 := fun n => ((hfr.drewN n).set 7 ps[k].1.no).c.2.1
          refine bodyPost_ret (v := .agg #[.int .i64 7, .int .i64 ps[k].1.no]) (by simp [results, Try.results41, go_sem, q0, q1]) rfl ⟨?_, ?_⟩
          · unfold FltIs; rw [HT.out]; rfl
          · exact ((below_drewN hbw _).setCell (Nat.le_refl _) _).setCell (Nat.le_refl _) _
    · have HT : Hid (twF (ps.map Prod.fst) = (0, 0)) := twF_none (fun j hj => HB.out j (by rw [HML.out] at hj; omega))
      clear hr hrr
      go_wp2
      have q0 := (hfr.set 0 0).c.1
      have q1 := (hfr.set 0 0).c.2.1
      refine bodyPost_ret (v := .agg #[.int .i64 0, .int .i64 0]) (by simp [results, Try.results41, go_sem, q0, q1]) rfl ⟨?_, ?_⟩
      · unfold FltIs; rw [HT.out]; rfl
      · exact (hbw.setCell (Nat.le_refl _) _).setCell (Nat.le_refl _) _
end Go.Proofs.Ytfbkjopidjojeab
