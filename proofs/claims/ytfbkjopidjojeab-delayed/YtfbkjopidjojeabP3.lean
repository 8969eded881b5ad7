/-
  Joined: Da Db Dc Dd De Df Dg Dh Di Dj.
-/
import Derived.Test.YtfbkjopidjojeabP2
import Derived.Deep.LoopGhost
namespace Go.Proofs.Ytfbkjopidjojeab
open Go.RowKit

/-- Lines that can be read. -/
def RL (w : World) (p : Option Addr) (ps : List (Ln × Value)) : Prop :=
  (ps = [] ∨ ∃ b, p = some ⟨b, 0, none⟩ ∧ b < w.heap.size ∧ ∀ k (h : k < ps.length) j, j < 7 → w.cell? ⟨b, k * 7 + j, none⟩ = (lnCells ps[k].1 ps[k].2)[j]?) ∧ ∀ q ∈ ps, Reads w q.2 1 q.1.uses.length (strs q.1.uses)
theorem RL.below {w w' : World} {B : Nat} {p : Option Addr} {ps : List (Ln × Value)} (h : RL w p ps) (hb : Below B w w') (hB : w.heap.size ≤ B) : RL w' p ps := by
  refine ⟨h.1.imp id fun ⟨b, e, hlt, hc⟩ => ⟨b, e, Nat.lt_of_lt_of_le hlt hb.size, fun k hk j hj => ?_⟩, fun q hq => (h.2 q hq).below hb hB⟩
  rw [hb.cell (p := ⟨b, k * 7 + j, none⟩) (by show b < B; omega)]; exact hc k hk j hj
theorem RL.take {w : World} {p : Option Addr} {ps : List (Ln × Value)} (h : RL w p ps) (n : Nat) : RL w p (ps.take n) := by
  refine ⟨?_, fun q hq => h.2 q (List.mem_of_mem_take hq)⟩
  rcases h.1 with h1 | ⟨b, e, hlt, hc⟩
  · exact .inl (by rw [h1]; simp)
  · refine .inr ⟨b, e, hlt, fun k hk j hj => ?_⟩
    rw [List.length_take] at hk
    rw [List.getElem_take]; exact hc k (by omega) j hj
theorem LinesAt.rl {w : World} {B : Nat} {v : Value} {ps : List (Ln × Value)} (h : LinesAt w B v ps) : ∃ p cap, v = .slice p ps.length cap ∧ ps.length ≤ cap ∧ RL w p ps := by
  have hr := fun q hq => Reads.of (h.2 q hq)
  rcases h.1.2 with ⟨rfl, hn⟩ | ⟨g, cap, cur, rfl, hg, hh, hc, rest⟩
  · exact ⟨none, 0, by rw [hn], by omega, .inl (List.length_eq_zero_iff.1 hn), hr⟩
  · refine ⟨some ⟨g, 0, none⟩, cap, rfl, hc, .inr ⟨g, rfl, (Array.getElem?_eq_some_iff.1 hh).1, fun k hk j hj => ?_⟩, hr⟩
    have := h.1.cellAt (k * 7 + j) (by omega)
    rw [this, lnRows_get ps k j hk hj]

/-- A place, or -1. -/
def owI : Option Nat → Int
  | some n => n
  | none => -1
theorem owner_hit {ps : List (Ln × Value)} {nm : List UInt8} {k : Nat} (hk : k < ps.length) (hb : ∀ j (h : j < ps.length), j < k → ps[j].1.name ≠ nm) (he : ps[k].1.name = nm) : ownerL (ps.map Prod.fst) nm = some k := by
  unfold ownerL
  rw [List.findIdx?_eq_some_iff_getElem]
  refine ⟨by simpa using hk, by simpa using he, fun j hj => ?_⟩
  simpa using hb j (by omega) hj
theorem owner_none {ps : List (Ln × Value)} {nm : List UInt8} (hb : ∀ j (h : j < ps.length), ps[j].1.name ≠ nm) : ownerL (ps.map Prod.fst) nm = none := by
  unfold ownerL
  rw [List.findIdx?_eq_none_iff]
  intro l hl
  obtain ⟨q, hq, rfl⟩ := List.mem_map.1 hl
  obtain ⟨k, hk, rfl⟩ := List.getElem_of_mem hq
  simpa using hb k hk

set_option maxRecDepth 50000 in
set_option maxHeartbeats 1000000 in
theorem owner_any (ps : List (Ln × Value)) (p : Option Addr) (cap : Nat) (nm : List UInt8) (w : World) (hl : ps.length ≤ 1048576) (hr : RL w p ps) :
    Calls Try.prog 60 #[.slice p ps.length cap, .string (S nm)] w fun e w' => e = .returned (.int .i64 (owI (ownerL (ps.map Prod.fst) nm))) ∧ w' = w := by
  go_enter Try.func60, Try.ntmps60
  go_wp2
  go_loop [5] (fun i => ∃ k : Nat, k ≤ ps.length ∧ i = .int .i64 k ∧ Hid (∀ j (h : j < ps.length), j < k → ps[j].1.name ≠ nm)) (fun i => ps.length - (intOf i).toNat)
  case atStart => exact ⟨0, Nat.zero_le _, rfl, fun j h hj => by omega⟩
  case round =>
    obtain ⟨k, hk, rfl, HB⟩ := hrel
    by_cases hlt : k < ps.length
    · obtain ⟨b, rfl, hb, hc⟩ : ∃ b, p = some ⟨b, 0, none⟩ ∧ b < w.heap.size ∧ ∀ k (h : k < ps.length) j, j < 7 → w.cell? ⟨b, k * 7 + j, none⟩ = (lnCells ps[k].1 ps[k].2)[j]? := by
        rcases hr.1 with h | h
        · rw [h] at hlt; simp at hlt
        · exact h
      have c2 : w.cell? ⟨b, k * 7 + 2, none⟩ = some (.string (S ps[k].1.name)) := hc k hlt 2 (by omega)
      clear hc hr
      by_cases he : ps[k].1.name = nm
      · have HO := owner_hit hlt HB.out he
        have g : ((S ps[k].1.name).toList == (S nm).toList) = true := by rw [he]; simp
        have HO2 : Hid (ownerL (ps.map Prod.fst) nm = some k) := HO
        clear he HO
        go_wp2
        go_ret
        exact ⟨ret_int (by rw [HO2.out]; rfl), rfl⟩
      · have g : ((S ps[k].1.name).toList == (S nm).toList) = false := by rw [ByteArray.toList_eq, ByteArray.toList_eq, S_data, S_data]; exact beq_eq_false_iff_ne.2 he
        go_wp2
        go_round
        case rel => exact ⟨k + 1, by omega, by go_num, fun j h hj => by
          rcases Nat.lt_or_ge j k with q | q
          · exact HB.out j h q
          · have : j = k := by omega
            subst this; exact he⟩
        case measure => simp [intOf]; omega
    · have HO := owner_none (ps := ps) (nm := nm) (fun j h => HB.out j h (by omega))
      have HO2 : Hid (ownerL (ps.map Prod.fst) nm = none) := HO
      clear HO
      go_wp2
      go_ret
      exact ⟨ret_int (by rw [HO2.out]; rfl), rfl⟩

theorem Try.info3 : (Try.prog.info? 3).map (fun i => (i.zero, i.size, i.bytes)) = some (some (.int .i64 0), 1, 8) := by kernel_rfl
theorem Try.under38 : Try.prog.underlying 38 = some (.slice 3) := by kernel_rfl

/-- Places as cells. -/
def ints (L : List Nat) : List Value := L.map fun (n : Nat) => .int .i64 (n : Int)
theorem ints_length (L : List Nat) : (ints L).length = L.length := by simp [ints]

/-- What owners gives. -/
def OwnersIs (B : Nat) (o : Option (List Nat)) (e : Ending) (w' : World) : Prop :=
  (o = none ∧ e = .returned (.tuple #[.slice none 0 0, .bool false])) ∨ ∃ L v, o = some L ∧ e = .returned (.tuple #[v, .bool true]) ∧ w'.ownsRow B 3 1 v L.length (ints L)

theorem own_start_int (W : World) (B b : Nat) (h : W.heap.size = b) (hB : B ≤ b) : (W.alloc (.cells #[] 3)).ownsRow B 3 1 (.slice (some ⟨b, 0, none⟩) 0 0) 0 [] := by
  subst h
  exact World.ownsRow_made W #[] 0 hB (by unfold maxLen; omega) rfl
theorem rel_int {wr w' w : World} {B k : Nat} {r v' : Value} {L : List Nat} {x : Nat} {o : Obj} (hB : B ≤ wr.heap.size) (hown : wr.ownsRow B 3 1 r k (ints L)) (hnx : Below B w wr)
    (hown' : w'.ownsRow B 3 1 v' (k + 1) (ints L ++ [.int .i64 x])) (hg : (wr.alloc o).grownBy w' r.ownBlock) :
    w'.ownsRow B 3 1 v' (k + 1) (ints (L ++ [x])) ∧ Below B w w' := by
  refine ⟨by simpa [ints] using hown', ?_⟩
  exact (hnx.alloc hB o).grown hg (by simp; omega) (fun j hj => (hown.lt j hj).1)
/-- How far owners has come. -/
def OwAt (ls : List Ln) (N : List (List UInt8)) (k : Nat) (P : List Nat) : Prop := (∀ n ∈ N.take k, (ownerL ls n).isSome = true) ∧ P = (N.take k).map fun n => (ownerL ls n).getD 0
theorem OwAt.step {ls : List Ln} {N : List (List UInt8)} {k m : Nat} {P : List Nat} (h : OwAt ls N k P) (hk : k < N.length) (ho : ownerL ls N[k] = some m) : OwAt ls N (k + 1) (P ++ [m]) := by
  unfold OwAt
  rw [take_one hk]
  refine ⟨fun n hn => ?_, by rw [List.map_append, ← h.2]; simp [ho]⟩
  rcases List.mem_append.1 hn with hn | hn
  · exact h.1 n hn
  · rw [List.mem_singleton.1 hn, ho]; rfl
theorem ownersL_bad {ls : List Ln} {N : List (List UInt8)} {k : Nat} (hk : k < N.length) (ho : ownerL ls N[k] = none) : ownersL ls N = none := by
  unfold ownersL
  rw [if_neg]
  rw [Bool.not_eq_true, List.all_eq_false]
  exact ⟨N[k], List.getElem_mem _, by rw [ho]; simp⟩
theorem OwAt.fin {ls : List Ln} {N : List (List UInt8)} {k : Nat} {P : List Nat} (h : OwAt ls N k P) (hk : N.length ≤ k) : ownersL ls N = some P := by
  unfold OwAt at h
  rw [List.take_of_length_le hk] at h
  unfold ownersL
  rw [if_pos (List.all_eq_true.2 h.1), h.2]

set_option maxRecDepth 50000 in
set_option maxHeartbeats 1000000 in
theorem owners_any (ps : List (Ln × Value)) (p : Option Addr) (cap : Nat) (N : List (List UInt8)) (v : Value) (w : World) (hl : ps.length ≤ 1048576) (hr : RL w p ps) (hN : N.length ≤ 1048576) (hv : Reads w v 1 N.length (strs N)) :
    Calls Try.prog 61 #[.slice p ps.length cap, v] w fun e w' => OwnersIs w.heap.size (ownersL (ps.map Prod.fst) N) e w' ∧ Below w.heap.size w w' := by
  obtain ⟨i0, hi, hz0, hz1, hz2⟩ := info_parts Try.info3
  obtain ⟨_, q, qc, rfl, hqc, hrow⟩ := hv
  go_enter Try.func61, Try.ntmps61
  go_wp2
  go_loopw [6, 7] (fun r i wr => ∃ (k : Nat) (P : List Nat), i = .int .i64 k ∧ k ≤ N.length ∧ P.length = k ∧ Hid (OwAt (ps.map Prod.fst) N k P) ∧ wr.ownsRow w.heap.size 3 1 r P.length (ints P) ∧ Below w.heap.size w wr)
    (fun _ i _ => N.length - (intOf i).toNat)
  case atStart => exact ⟨0, [], rfl, Nat.zero_le _, rfl, ⟨fun n hn => by simp at hn, by simp⟩, own_start_int _ _ _ rfl (Nat.le_refl _), (Below.refl _ _).alloc (Nat.le_refl _) _⟩
  case round =>
    obtain ⟨k, P, rfl, hk, hPk, HO, hown, hnx⟩ := hrel
    have hsz := hnx.size
    have hPk2 : P.length ≤ 1048576 := by omega
    have HPk : Hid (P.length = k) := hPk
    clear hPk
    by_cases hlt : k < N.length
    · obtain ⟨b, off, rfl, hrw⟩ : ∃ b off, q = some ⟨b, off, none⟩ ∧ Row w b off (strs N) := by
        rcases hrow with h | h
        · omega
        · exact h
      have hc : wr.cell? ⟨b, off + k, none⟩ = some (.string (S N[k])) := by
        rw [(hrw.below hnx hrw.1).2 k (by rw [strs_length]; exact hlt), strs_get hlt]
      have hr2 := hr.below hnx (Nat.le_refl _)
      clear hrow
      cases ho : ownerL (ps.map Prod.fst) N[k] with
      | none =>
        have HB : Hid (ownersL (ps.map Prod.fst) N = none) := ownersL_bad hlt ho
        go_wp2_with (go_at_call 60; refine (owner_any ps p cap N[k] _ hl hr2).mono ?_; rintro e w1 ⟨rfl, hw1⟩; subst w1; rw [ho]; simp only [owI])
        go_ret2
        exact ⟨.inl ⟨HB.out, rfl⟩, hnx⟩
      | some m =>
        have HS := HO.out.step hlt ho
        have HS2 : Hid (OwAt (ps.map Prod.fst) N (k + 1) (P ++ [m])) := HS
        go_wp2_with (first
          | (go_at_call 60; refine (owner_any ps p cap N[k] _ hl hr2).mono ?_; rintro e w1 ⟨rfl, hw1⟩; subst w1; rw [ho]; simp only [owI]; clear ho HS)
          | (at_builtin; refine wpList_append_own _ rfl _ _ 38 rfl w.heap.size 3 i0 (.int .i64 0) 1 8 Try.under38 hi hz0 hz1 hz2 rfl (by decide) _ _ _ rfl (hown.alloc _) ⟨wr.heap.size, 0, none⟩ 1 1 [.int .i64 m] rfl rfl (cell_one_new _ _ _) (by intro x hx; simp at hx; subst hx; rfl) (by unfold maxLen; omega) (by omega) (by simp; omega) ?_; intro v' w' hown' hgrow _))
        have R := rel_int hsz hown hnx hown' hgrow
        clear hown' hgrow hown hnx hr2
        go_wp2
        go_roundw
        case rel => exact ⟨k + 1, P ++ [m], by go_num, by omega, by simp [HPk.out], HS2, by simpa using R.1, R.2⟩
        case measure => simp [intOf]; omega
    · have HF := HO.out.fin (by omega)
      have HF2 : Hid (ownersL (ps.map Prod.fst) N = some P) := HF
      clear HF
      go_wp2
      go_ret2
      exact ⟨.inr ⟨P, _, HF2.out, rfl, hown⟩, hnx⟩
end Go.Proofs.Ytfbkjopidjojeab

namespace Go.Proofs.Ytfbkjopidjojeab
open Go.RowKit

/-- What findTwice tells. -/
def twF (ls : List Ln) : Flt := match twiceL ls with
  | none => (0, 0)
  | some n => (7, ((ls[n]?).map Ln.no).getD 0)
theorem twF_none {ls : List Ln} (h : ∀ j, j < ls.length → twiceAt ls j = false) : twF ls = (0, 0) := by
  have : twiceL ls = none := by
    unfold twiceL
    rw [List.find?_eq_none]
    intro j hj
    rw [h j (List.mem_range.1 hj)]; simp
  unfold twF; rw [this]
theorem twF_some {ls : List Ln} {k : Nat} {l : Ln} (hk : k < ls.length) (hb : ∀ j, j < k → twiceAt ls j = false) (h : twiceAt ls k = true) (hl : ls[k]? = some l) : twF ls = (7, l.no) := by
  have : twiceL ls = some k := by
    unfold twiceL
    rw [List.find?_range_eq_some]
    exact ⟨h, List.mem_range.2 hk, fun j hj => by rw [hb j hj]; rfl⟩
  unfold twF; rw [this]; show (7, ((ls[k]?).map Ln.no).getD 0) = _; rw [hl]; rfl

theorem owner_len (ps : List (Ln × Value)) (n : Nat) (hn : ps.length = n) (p : Option Addr) (cap : Nat) (nm : List UInt8) (w : World) (hl : n ≤ 1048576) (hr : RL w p ps) :
    Calls Try.prog 60 #[.slice p n cap, .string (S nm)] w fun e w' => e = .returned (.int .i64 (owI (ownerL (ps.map Prod.fst) nm))) ∧ w' = w := by
  subst hn
  exact owner_any ps p cap nm w hl hr
theorem RL.drewN {w : World} {p : Option Addr} {ps : List (Ln × Value)} (h : RL w p ps) (n : Nat) : RL (w.drewN n) p ps := by
  refine ⟨h.1.imp id fun ⟨b, e, hlt, hc⟩ => ⟨b, e, by simpa using hlt, fun k hk j hj => by simpa using hc k hk j hj⟩, fun q hq => ?_⟩
  obtain ⟨h1, p', c', h2, h3, h4⟩ := h.2 q hq
  exact ⟨h1, p', c', h2, h3, h4.imp id fun ⟨b, o, e, hr⟩ => ⟨b, o, e, by simpa using hr.1, fun i hi => by simpa using hr.2 i hi⟩⟩
theorem FltB.drewN {w : World} {b : Nat} {x y : Int} (h : FltB w b x y) (n : Nat) : FltB (w.drewN n) b x y := by
  unfold FltB at *; simpa using h

/-- A fault is given. -/
def FltIs (f : Flt) (e : Ending) : Prop := e = .returned (.agg #[.int .i64 f.1, .int .i64 f.2])

theorem tw_name {ps : List (Ln × Value)} {k : Nat} (hk : k < ps.length) : (ps.map Prod.fst)[k]? = some ps[k].1 := by simp [hk]
theorem tw_take {ps : List (Ln × Value)} {k : Nat} : (ps.take k).map Prod.fst = (ps.map Prod.fst).take k := by rw [List.map_take]

set_option maxRecDepth 50000 in
set_option maxHeartbeats 1000000 in
theorem findTwice_any (ps : List (Ln × Value)) (p : Option Addr) (cap : Nat) (w : World) (hl : ps.length ≤ 1048576) (hcap : ps.length ≤ cap) (hr : RL w p ps) :
    Calls Try.prog 41 #[.slice p ps.length cap] w fun e w' => FltIs (twF (ps.map Prod.fst)) e ∧ Below w.heap.size w w' := by
  have hf0 := G1_f w
  have hml : (ps.map Prod.fst).length = ps.length := by simp
  have HML : Hid ((ps.map Prod.fst).length = ps.length) := hml
  clear hml
  go_enter Try.func41, Try.ntmps41
  go_wp2
  go_loopw [3] (fun i wr => ∃ k : Nat, k ≤ ps.length ∧ i = .int .i64 k ∧ Hid (∀ j, j < k → twiceAt (ps.map Prod.fst) j = false) ∧ Hid (Below (w.heap.size + 1) (G1 w) wr)) (fun i _ => ps.length - (intOf i).toNat)
  case atStart => exact ⟨0, Nat.zero_le _, rfl, fun j hj => by omega, Below.refl _ _⟩
  case round =>
    obtain ⟨k, hk, rfl, HB, HW⟩ := hrel
    have hnx := HW.out
    have hsz := hnx.size
    rw [G1_size] at hsz
    have hfr := hf0.below hnx (by omega)
    obtain ⟨fc0, fc1, ff0, ff1⟩ := hfr.c
    have hbw : Below w.heap.size w wr := (G1_below w).trans (hnx.mono (by omega))
    have hrr := hr.below hbw (Nat.le_refl _)
    have hltr : w.heap.size < wr.heap.size := by omega
    by_cases hlt : k < ps.length
    · obtain ⟨b, rfl, hb, hc⟩ : ∃ b, p = some ⟨b, 0, none⟩ ∧ b < wr.heap.size ∧ ∀ k (h : k < ps.length) j, j < 7 → wr.cell? ⟨b, k * 7 + j, none⟩ = (lnCells ps[k].1 ps[k].2)[j]? := by
        rcases hrr.1 with h | h
        · rw [h] at hlt; simp at hlt
        · exact h
      have c2 : wr.cell? ⟨b, k * 7 + 2, none⟩ = some (.string (S ps[k].1.name)) := hc k hlt 2 (by omega)
      have c0 : wr.cell? ⟨b, k * 7, none⟩ = some (.int .i64 ps[k].1.no) := hc k hlt 0 (by omega)
      have hrt := hrr.take k
      have htl : (ps.take k).length = k := by rw [List.length_take]; omega
      have I1 : (0 : Int) ≤ (k : Int) := by omega
      have I2 : (k : Int) < (ps.length : Int) := by omega
      have I3 : (k : Int) ≤ (cap : Int) := by omega
      clear hc hrr hr
      have hnl : (S ps[k].1.name).toList = ps[k].1.name := by rw [ByteArray.toList_eq, S_data]
      by_cases hne : (S ps[k].1.name).toList.isEmpty = true
      · have hne2 : (!(S ps[k].1.name).toList.isEmpty) = false := by rw [hne]; rfl
        have HT : Hid (twiceAt (ps.map Prod.fst) k = false) := by
          show twiceAt _ _ = _
          unfold twiceAt; rw [tw_name hlt]; rw [hnl] at hne; simp [hne]
        clear hnl
        go_wp2
        go_quiet (fail)
        go_wp2
        go_roundw
        case rel => exact ⟨k + 1, by omega, by go_num, fun j hj => by
          rcases Nat.lt_or_ge j k with q | q
          · exact HB.out j q
          · have : j = k := by omega
            subst this; exact HT.out, below_drewN HW.out _⟩
        case measure => simp [intOf]; omega
      · have hne1 : (S ps[k].1.name).toList.isEmpty = false := by simpa using hne
        have hne2 : (!(S ps[k].1.name).toList.isEmpty) = true := by rw [hne1]; rfl
        have hT0 : twiceAt (ps.map Prod.fst) k = (ownerL ((ps.take k).map Prod.fst) ps[k].1.name).isSome := by
          unfold twiceAt; rw [tw_name hlt, tw_take]; rw [hnl] at hne1; simp [hne1]
        have HT0 : Hid (twiceAt (ps.map Prod.fst) k = (ownerL ((ps.take k).map Prod.fst) ps[k].1.name).isSome) := hT0
        clear hnl hne hT0
        cases ho : ownerL ((ps.take k).map Prod.fst) ps[k].1.name with
        | none =>
          have hcall : ∀ n, Calls Try.prog 60 #[.slice (some ⟨b, 0, none⟩) k cap, .string (S ps[k].1.name)] (wr.drewN n) fun e w' => e = .returned (.int .i64 (-1)) ∧ w' = wr.drewN n := fun n => by
            have := owner_len (ps.take k) k htl (some ⟨b, 0, none⟩) cap ps[k].1.name (wr.drewN n) (by omega) (hrt.drewN n)
            rw [ho] at this
            exact this
          have HT : Hid (twiceAt (ps.map Prod.fst) k = false) := by show twiceAt _ _ = _; rw [HT0.out, ho]; rfl
          clear ho hrt
          go_wp2
          go_quiet ((go_at_call 60; refine Calls.quiet_of_same (hcall _)))
          clear hcall
          go_wp2
          go_roundw
          case rel => exact ⟨k + 1, by omega, by go_num, fun j hj => by
            rcases Nat.lt_or_ge j k with q | q
            · exact HB.out j q
            · have : j = k := by omega
              subst this; exact HT.out, below_drewN HW.out _⟩
          case measure => simp [intOf]; omega
        | some m =>
          have hcall : ∀ n, Calls Try.prog 60 #[.slice (some ⟨b, 0, none⟩) k cap, .string (S ps[k].1.name)] (wr.drewN n) fun e w' => e = .returned (.int .i64 m) ∧ w' = wr.drewN n := fun n => by
            have := owner_len (ps.take k) k htl (some ⟨b, 0, none⟩) cap ps[k].1.name (wr.drewN n) (by omega) (hrt.drewN n)
            rw [ho] at this
            exact this
          have HT : Hid (twF (ps.map Prod.fst) = (7, ps[k].1.no)) := twF_some (by rw [HML.out]; exact hlt) HB.out (by rw [HT0.out, ho]; rfl) (tw_name hlt)
          clear ho hrt
          go_wp2
          go_quiet ((go_at_call 60; refine Calls.quiet_of_same (hcall _)))
          clear hcall
          go_wp2
          have q0 := fun n => ((hfr.drewN n).set 7 ps[k].1.no).c.1
          have q1 := fun n => ((hfr.drewN n).set 7 ps[k].1.no).c.2.1
          refine bodyPost_ret (v := .agg #[.int .i64 7, .int .i64 ps[k].1.no]) (by simp [results, Try.results41, go_sem, q0, q1]) rfl ⟨?_, ?_⟩
          · unfold FltIs; rw [HT.out]; rfl
          · exact ((below_drewN hbw _).setCell (Nat.le_refl _) _).setCell (Nat.le_refl _) _
    · have HT : Hid (twF (ps.map Prod.fst) = (0, 0)) := twF_none (fun j hj => HB.out j (by rw [HML.out] at hj; omega))
      clear hr hrr
      go_wp2
      have q0 := (hfr.set 0 0).c.1
      have q1 := (hfr.set 0 0).c.2.1
      refine bodyPost_ret (v := .agg #[.int .i64 0, .int .i64 0]) (by simp [results, Try.results41, go_sem, q0, q1]) rfl ⟨?_, ?_⟩
      · unfold FltIs; rw [HT.out]; rfl
      · exact (hbw.setCell (Nat.le_refl _) _).setCell (Nat.le_refl _) _
end Go.Proofs.Ytfbkjopidjojeab

namespace Go.Proofs.Ytfbkjopidjojeab
open Go.RowKit

theorem Try.info76 : (Try.prog.info? 76).map (fun i => (i.zero, i.size, i.bytes)) = some (some (.agg #[.int .i64 0, .int .i64 0, .string ⟨#[]⟩, .slice none 0 0, .int .i64 0, .string ⟨#[]⟩, .string ⟨#[]⟩, .string ⟨#[]⟩, .string ⟨#[]⟩]), 9, 128) := by kernel_rfl
theorem Try.under64 : Try.prog.underlying 64 = some (.slice 76) := by kernel_rfl

/-- A step as cells. -/
def stCells (l : St) (u : Value) : List Value := [.int .i64 l.no, .int .i64 l.kind, .string (S l.name), u, .int .i64 l.num, .string (bs l.wd.1), .string (bs l.wd.2), .string (bs l.ck.1), .string (bs l.ck.2)]
def stRows (qs : List (St × Value)) : List Value := qs.flatMap fun p => stCells p.1 p.2
theorem stRows_length (ps : List (St × Value)) : (stRows ps).length = ps.length * 9 := by
  induction ps with
  | nil => rfl
  | cons p ps ih => rw [stRows, List.flatMap_cons, List.length_append]; rw [stRows] at ih; rw [ih]; simp [stCells]; omega
theorem stRows_get (ps : List (St × Value)) : ∀ (k j : Nat) (h : k < ps.length), j < 9 → (stRows ps)[k * 9 + j]? = (stCells ps[k].1 ps[k].2)[j]? := by
  induction ps with
  | nil => intro k j h; simp at h
  | cons p ps ih =>
    intro k j h hj
    have e : stRows (p :: ps) = stCells p.1 p.2 ++ stRows ps := by simp [stRows]
    rw [e]
    cases k with
    | zero => rw [List.getElem?_append_left (by simp [stCells]; omega)]; simp
    | succ k =>
      rw [List.getElem?_append_right (by simp [stCells]; omega)]
      have : (k + 1) * 9 + j - (stCells p.1 p.2).length = k * 9 + j := by simp [stCells]; omega
      rw [this, ih k j (by simpa using h) hj]; simp

/-- Steps in rows of their own. -/
def StepsAt (w : World) (B : Nat) (v : Value) (qs : List (St × Value)) : Prop :=
  w.ownsRow B 76 9 v qs.length (stRows qs) ∧ ∀ p ∈ qs, w.ownsRow B 3 1 p.2 p.1.uses.length (ints p.1.uses)
theorem StepsAt.app {w wr w2 w' : World} {B : Nat} {r v' u : Value} {ps : List (St × Value)} {l : St} {o2 : Obj} {Bu : Nat} (h : StepsAt wr B r ps) (hB : B ≤ wr.heap.size) (hnx : Below B w wr) (hb2 : Below wr.heap.size wr w2)
    (hu : w2.ownsRow Bu 3 1 u l.uses.length (ints l.uses)) (hBu : wr.heap.size ≤ Bu) (hown' : w'.ownsRow B 76 9 v' (ps.length + 1) (stRows ps ++ stCells l u)) (hg : (w2.alloc o2).grownBy w' r.ownBlock) :
    StepsAt w' B v' (ps ++ [(l, u)]) ∧ Below B w w' := by
  have hz := hb2.size
  have hr2 : (w2.alloc o2).ownsRow B 76 9 r ps.length (stRows ps) := (ownsRow_below h.1 hb2).alloc o2
  refine ⟨⟨by simpa [stRows] using hown', fun p hp => ?_⟩, ?_⟩
  · rcases List.mem_append.1 hp with hp | hp
    · have h1 := (ownsRow_below (h.2 p hp) hb2).alloc o2
      exact h1.kept hg (own_ne h1 hr2 (by decide))
    · rw [List.mem_singleton.1 hp]
      have h1 := ((own_mono hu (Nat.le_trans hB hBu)).alloc o2)
      exact h1.kept hg (own_ne h1 hr2 (by decide))
  · exact ((hnx.trans (hb2.mono hB)).alloc (by omega) o2).grown hg (by simp; omega) (fun j hj => (h.1.lt j hj).1)

theorem own_start_step (W : World) (B b : Nat) (h : W.heap.size = b) (hB : B ≤ b) : (W.alloc (.cells #[] 76)).ownsRow B 76 9 (.slice (some ⟨b, 0, none⟩) 0 0) 0 [] := by
  subst h
  exact World.ownsRow_made W #[] 0 hB (by unfold maxLen; omega) rfl

/-- How far link has come. -/
def LinkAt (ls : List Ln) (k : Nat) (acc : List St) : Prop := linkL ls ls = match linkL ls (ls.drop k) with
  | .error f => .error f
  | .ok r => .ok (acc ++ r)
theorem LinkAt.start (ls : List Ln) : LinkAt ls 0 [] := by
  unfold LinkAt; rw [List.drop_zero]; cases linkL ls ls <;> simp
theorem LinkAt.bad {ls : List Ln} {k : Nat} {acc : List St} (h : LinkAt ls k acc) (hk : k < ls.length) (ho : ownersL ls ls[k].uses = none) : linkL ls ls = .error (8, ls[k].no) := by
  unfold LinkAt at h
  rw [List.drop_eq_getElem_cons hk, linkL] at h
  rw [h]; simp only [stepL, ho]; rfl
theorem LinkAt.good {ls : List Ln} {k : Nat} {acc : List St} {u : List Nat} (h : LinkAt ls k acc) (hk : k < ls.length) (ho : ownersL ls ls[k].uses = some u) : LinkAt ls (k + 1) (acc ++ [⟨ls[k].no, ls[k].kind, ls[k].name, u, ls[k].num, ls[k].wd, ([], [])⟩]) := by
  unfold LinkAt at h ⊢
  rw [List.drop_eq_getElem_cons hk, linkL] at h
  rw [h]; simp only [stepL, ho, Option.map_some]
  cases linkL ls (ls.drop (k + 1)) <;> simp
theorem LinkAt.fin {ls : List Ln} {k : Nat} {acc : List St} (h : LinkAt ls k acc) (hk : ¬ k < ls.length) : linkL ls ls = .ok acc := by
  unfold LinkAt at h
  rw [List.drop_of_length_le (by omega)] at h
  rw [h]; simp [linkL]

/-- What link gives. -/
def LinkIs (B : Nat) (o : Except Flt (List St)) (e : Ending) (w' : World) : Prop :=
  (∃ f : Flt, o = .error f ∧ e = .returned (.tuple #[.slice none 0 0, .agg #[.int .i64 f.1, .int .i64 f.2]])) ∨
  ∃ qs v, o = .ok (qs.map Prod.fst) ∧ e = .returned (.tuple #[v, .agg #[.int .i64 0, .int .i64 0]]) ∧ StepsAt w' B v qs

theorem map_get {α β : Type} {ps : List (α × β)} {k : Nat} (hk : k < (ps.map Prod.fst).length) : (ps.map Prod.fst)[k] = (ps[k]'(by simpa using hk)).1 := by simp

set_option maxRecDepth 50000 in
set_option maxHeartbeats 2000000 in
theorem link_any (ps : List (Ln × Value)) (p : Option Addr) (cap : Nat) (w : World) (hl : ps.length ≤ 24) (hu : ∀ q ∈ ps, q.1.uses.length ≤ 1048576) (hr : RL w p ps) :
    Calls Try.prog 42 #[.slice p ps.length cap] w fun e w' => LinkIs w.heap.size (linkL (ps.map Prod.fst) (ps.map Prod.fst)) e w' ∧ Below w.heap.size w w' := by
  obtain ⟨i0, hi, hz0, hz1, hz2⟩ := info_parts Try.info76
  have hf0 := G1_f w
  have HML : Hid ((ps.map Prod.fst).length = ps.length) := by show (ps.map Prod.fst).length = ps.length; simp
  go_enter Try.func42, Try.ntmps42
  go_wp2
  go_loopw [4, 5] (fun r i wr => ∃ (k : Nat) (qs : List (St × Value)), i = .int .i64 k ∧ k ≤ ps.length ∧ qs.length ≤ k ∧ Hid (LinkAt (ps.map Prod.fst) k (qs.map Prod.fst)) ∧ StepsAt wr (w.heap.size + 1) r qs ∧ Hid (Below (w.heap.size + 1) (G1 w) wr)) (fun _ i _ => ps.length - (intOf i).toNat)
  case atStart => exact ⟨0, [], rfl, Nat.zero_le _, Nat.le_refl _, LinkAt.start _, ⟨own_start_step _ _ _ (by simp) (Nat.le_refl _), fun p hp => by simp at hp⟩, (Below.refl _ _).alloc (by rw [G1_size]; omega) _⟩
  case round =>
    obtain ⟨k, qs, rfl, hk, hqk, HL, hsteps, HW⟩ := hrel
    have hnx := HW.out
    have hsz := hnx.size
    rw [G1_size] at hsz
    have hfr := hf0.below hnx (by omega)
    have hbw : Below w.heap.size w wr := (G1_below w).trans (hnx.mono (by omega))
    have hrr := hr.below hbw (Nat.le_refl _)
    by_cases hlt : k < ps.length
    · obtain ⟨b, rfl, hb, hc⟩ : ∃ b, p = some ⟨b, 0, none⟩ ∧ b < wr.heap.size ∧ ∀ k (h : k < ps.length) j, j < 7 → wr.cell? ⟨b, k * 7 + j, none⟩ = (lnCells ps[k].1 ps[k].2)[j]? := by
        rcases hrr.1 with h | h
        · rw [h] at hlt; simp at hlt
        · exact h
      obtain ⟨⟨l, u⟩, hq⟩ : ∃ q, ps[k] = q := ⟨_, rfl⟩
      have hmem : (l, u) ∈ ps := by rw [← hq]; exact List.getElem_mem _
      have c0 := hc k hlt 0 (by omega); have c1 := hc k hlt 1 (by omega); have c2 := hc k hlt 2 (by omega); have c3 := hc k hlt 3 (by omega); have c4 := hc k hlt 4 (by omega); have c5 := hc k hlt 5 (by omega); have c6 := hc k hlt 6 (by omega)
      rw [hq] at c0 c1 c2 c3 c4 c5 c6
      simp only [lnCells, List.getElem?_cons_zero, List.getElem?_cons_succ, Nat.add_zero] at c0 c1 c2 c3 c4 c5 c6
      have hrd := hrr.2 (l, u) hmem
      have hul := hu (l, u) hmem
      obtain ⟨_, up, uc, hue, _, _⟩ := hrd
      have hrd := hrr.2 (l, u) hmem
      simp only at hue hrd hul
      subst hue
      clear hc
      go_wp2_with fail
      obtain ⟨W1, hW1⟩ : ∃ W1, W1 = wr.alloc (Obj.cells #[Value.int IntKind.i64 l.no, Value.int IntKind.i64 l.kind, Value.string (S l.name), Value.slice up l.uses.length uc, Value.int IntKind.i64 l.num, Value.string (bs l.wd.fst), Value.string (bs l.wd.snd)] 85) := ⟨_, rfl⟩
      have hbW : Below wr.heap.size wr W1 := by rw [hW1]; exact (Below.refl _ _).alloc (Nat.le_refl _) _
      have hWs : W1.heap.size = wr.heap.size + 1 := by rw [hW1]; simp
      have hWl : LnB W1 wr.heap.size l (.slice up l.uses.length uc) := by unfold LnB; rw [hW1, heap_alloc_new]; rfl
      rw [← hW1]
      refine (owners_any ps (some ⟨b, 0, none⟩) cap l.uses _ W1 (by omega) (hrr.below hbW (Nat.le_refl _)) hul (hrd.below hbW (Nat.le_refl _))).mono ?_
      rintro e w2 ⟨hO, hb2⟩
      have hb2' : Below wr.heap.size wr w2 := hbW.trans (hb2.mono (by omega))
      have hz2' := hb2'.size
      have hl2 := hWl.below hb2 (by omega)
      have hf2 := hfr.below hb2' (by omega)
      obtain ⟨fc0, fc1, ff0, ff1⟩ := hf2.c
      have hlt2 : w.heap.size < w2.heap.size := by have := hb2.size; omega
      have hlt3 : wr.heap.size < w2.heap.size := by have := hb2.size; omega
      have hnew : w.heap.size ≠ wr.heap.size := by omega
      have hnew2 : wr.heap.size ≠ w.heap.size := by omega
      have hlk : (ps.map Prod.fst)[k]'(by rw [HML.out]; exact hlt) = l := by simp [hq]
      have HO : Hid (OwnersIs W1.heap.size (ownersL (ps.map Prod.fst) l.uses) e w2) := hO
      have b0 := hl2.c 0; have b1 := hl2.c 1; have b2 := hl2.c 2; have b3 := hl2.c 3; have b4 := hl2.c 4; have b5 := hl2.c 5; have b6 := hl2.c 6
      simp only [lnCells, List.getElem?_cons_zero, List.getElem?_cons_succ] at b0 b1 b2 b3 b4 b5 b6
      have g0 := hl2.fz 0; have g1 := hl2.fz 1; have g2 := hl2.fz 2; have g3 := hl2.fz 3; have g4 := hl2.fz 4; have g5 := hl2.fz 5; have g6 := hl2.fz 6
      clear hO hrd hW1 hWl hq hrr c0 c1 c2 c3 c4 c5 c6
      rcases HO.out with ⟨h1, rfl⟩ | ⟨P, v, h1, rfl, hown⟩
      · have HB := HL.out.bad (by rw [HML.out]; exact hlt) (by rw [hlk]; exact h1)
        rw [hlk] at HB
        have HB2 : Hid (linkL (ps.map Prod.fst) (ps.map Prod.fst) = .error (8, l.no)) := HB
        clear HO h1 HB hlk
        go_wp2
        go_region
        go_wp2
        have hset := hf2.set 8 l.no
        obtain ⟨q0, q1, _, _⟩ := FltB.c (w := ((w2.setCell ⟨w.heap.size, 0, none⟩ (.int .i64 8)).setCell ⟨w.heap.size, 1, none⟩ (.int .i64 l.no)).drew) hset
        refine bodyPost_ret (v := .tuple #[.slice none 0 0, .agg #[.int .i64 8, .int .i64 l.no]]) (by simp [results, Try.results42, go_sem, q0, q1]) rfl ⟨?_, ?_⟩
        · exact .inl ⟨(8, l.no), HB2.out, rfl⟩
        · exact (((hbw.trans (hb2'.mono (by omega))).setCell (Nat.le_refl _) _).setCell (Nat.le_refl _) _).drew
      · have HG := HL.out.good (by rw [HML.out]; exact hlt) (by rw [hlk]; exact h1)
        rw [hlk] at HG
        have HG2 : Hid (LinkAt (ps.map Prod.fst) (k + 1) (qs.map Prod.fst ++ [⟨l.no, l.kind, l.name, P, l.num, l.wd, ([], [])⟩])) := HG
        obtain ⟨vp, vn, vc, rfl⟩ := own_isSlice hown
        have hst2 := ownsRow_below hsteps.1 hb2'
        clear HO h1 HG hlk
        have hqs : qs.length ≤ 24 := by omega
        go_wp2_with (at_builtin; refine wpList_append_own _ rfl _ _ 64 rfl (w.heap.size + 1) 76 i0 (.agg #[.int .i64 0, .int .i64 0, .string ⟨#[]⟩, .slice none 0 0, .int .i64 0, .string ⟨#[]⟩, .string ⟨#[]⟩, .string ⟨#[]⟩, .string ⟨#[]⟩]) 9 128 Try.under64 hi hz0 hz1 hz2 rfl (by decide) _ _ _ rfl (hst2.alloc _) ⟨w2.heap.size, 0, none⟩ 1 1 [.int .i64 l.no, .int .i64 l.kind, .string (S l.name), .slice vp vn vc, .int .i64 l.num, .string (bs l.wd.1), .string (bs l.wd.2), .string ⟨#[]⟩, .string ⟨#[]⟩] rfl rfl (cells_new _ _ _ _ (by simp)) (by intro x hx; simp at hx; rcases hx with rfl | rfl | rfl | rfl | rfl | rfl | rfl | rfl <;> rfl) (by unfold maxLen; omega) (by omega) (by simp; omega) ?_; intro v' w' hown' hgrow _)
        have R2 := hsteps.app (l := ⟨l.no, l.kind, l.name, P, l.num, l.wd, ([], [])⟩) (by omega) hnx hb2' hown (by omega) hown' hgrow
        clear hown' hgrow hsteps hst2 hown
        go_wp2
        go_roundw
        case rel => exact ⟨k + 1, qs ++ [(⟨l.no, l.kind, l.name, P, l.num, l.wd, ([], [])⟩, .slice vp vn vc)], by go_num, by omega, by simp; omega, by rw [List.map_append]; exact HG2, R2.1, R2.2⟩
        case measure => simp [intOf]; omega
    · have HF := HL.out.fin (by rw [HML.out]; exact hlt)
      have HF2 : Hid (linkL (ps.map Prod.fst) (ps.map Prod.fst) = .ok (qs.map Prod.fst)) := HF
      obtain ⟨fc0, fc1, ff0, ff1⟩ := hfr.c
      have hltr : w.heap.size < wr.heap.size := by omega
      obtain ⟨vp, vn, vc, hve⟩ := own_isSlice hsteps.1
      subst hve
      clear HF hrr hr
      go_wp2
      obtain ⟨q0, q1, _, _⟩ := (hfr.set 0 0).c
      refine bodyPost_ret (v := .tuple #[.slice vp vn vc, .agg #[.int .i64 0, .int .i64 0]]) (by simp [results, Try.results42, go_sem, q0, q1]) rfl ⟨?_, ?_⟩
      · refine .inr ⟨qs, _, HF2.out, rfl, ?_, fun p hp => ?_⟩
        · exact own_mono (ownsRow_setCell_below (ownsRow_setCell_below hsteps.1 (by show w.heap.size < _; omega) _) (by show w.heap.size < _; omega) _) (by omega)
        · exact own_mono (ownsRow_setCell_below (ownsRow_setCell_below (hsteps.2 p hp) (by show w.heap.size < _; omega) _) (by show w.heap.size < _; omega) _) (by omega)
      · exact (hbw.setCell (Nat.le_refl _) _).setCell (Nat.le_refl _) _
end Go.Proofs.Ytfbkjopidjojeab

namespace Go.Proofs.Ytfbkjopidjojeab
open Go.RowKit

/-- Steps that can be read. -/
def RS (w : World) (p : Option Addr) (qs : List (St × Value)) : Prop :=
  (qs = [] ∨ ∃ b, p = some ⟨b, 0, none⟩ ∧ b < w.heap.size ∧ ∀ k (h : k < qs.length) j, j < 9 → w.cell? ⟨b, k * 9 + j, none⟩ = (stCells qs[k].1 qs[k].2)[j]?) ∧ ∀ q ∈ qs, Reads w q.2 1 q.1.uses.length (ints q.1.uses)
theorem RS.below {w w' : World} {B : Nat} {p : Option Addr} {ps : List (St × Value)} (h : RS w p ps) (hb : Below B w w') (hB : w.heap.size ≤ B) : RS w' p ps := by
  refine ⟨h.1.imp id fun ⟨b, e, hlt, hc⟩ => ⟨b, e, Nat.lt_of_lt_of_le hlt hb.size, fun k hk j hj => ?_⟩, fun q hq => (h.2 q hq).below hb hB⟩
  rw [hb.cell (p := ⟨b, k * 9 + j, none⟩) (by show b < B; omega)]; exact hc k hk j hj
theorem StepsAt.rs {w : World} {B : Nat} {v : Value} {ps : List (St × Value)} (h : StepsAt w B v ps) : ∃ p cap, v = .slice p ps.length cap ∧ ps.length ≤ cap ∧ RS w p ps := by
  have hr := fun q hq => Reads.of (h.2 q hq)
  rcases h.1.2 with ⟨rfl, hn⟩ | ⟨g, cap, cur, rfl, hg, hh, hc, rest⟩
  · exact ⟨none, 0, by rw [hn], by omega, .inl (List.length_eq_zero_iff.1 hn), hr⟩
  · refine ⟨some ⟨g, 0, none⟩, cap, rfl, hc, .inr ⟨g, rfl, (Array.getElem?_eq_some_iff.1 hh).1, fun k hk j hj => ?_⟩, hr⟩
    have := h.1.cellAt (k * 9 + j) (by omega)
    rw [this, stRows_get ps k j hk hj]

/-- The clock of the n-th name that is used. -/
def ucL (qs : List St) (s : St) (n : Nat) : Wd := match s.uses[n]? with
  | none => ([], [])
  | some k => match qs[k]? with
    | none => ([], [])
    | some t => t.ck
def hasC (c : Wd) : Bool := !c.2.isEmpty
/-- The first clock among those of the names that are used. -/
def fcL (qs : List St) (s : St) : Wd := (((List.range s.uses.length).find? fun n => hasC (ucL qs s n)).map (ucL qs s)).getD ([], [])
def isEv (k : Nat) : Bool := decide (3 ≤ k) && decide (k ≤ 9)
def isGv (k : Nat) : Bool := k == 1 || k == 2 || k == 12

theorem ints_get {L : List Nat} {k : Nat} (h : k < L.length) : (ints L)[k]? = some (.int .i64 (L[k] : Int)) := by simp [ints, h]

/-- A clock is given. -/
def CkIs (c : Wd) (e : Ending) : Prop := e = .returned (.agg #[.string (bs c.1), .string (bs c.2)])

set_option maxRecDepth 50000 in
set_option maxHeartbeats 1000000 in
theorem usedClock_any (qs : List (St × Value)) (p : Option Addr) (cap : Nat) (s : St) (up : Option Addr) (uc : Nat) (n : Nat) (w : World) (hn : n ≤ 1048576) (hr : RS w p qs)
    (hu : Reads w (.slice up s.uses.length uc) 1 s.uses.length (ints s.uses)) (hux : ∀ x ∈ s.uses, x < qs.length) :
    Calls Try.prog 56 #[.slice p qs.length cap, .agg #[.int .i64 s.no, .int .i64 s.kind, .string (S s.name), .slice up s.uses.length uc, .int .i64 s.num, .string (bs s.wd.1), .string (bs s.wd.2), .string (bs s.ck.1), .string (bs s.ck.2)], .int .i64 n] w
      fun e w' => CkIs (ucL (qs.map Prod.fst) s n) e ∧ Below w.heap.size w w' := by
  by_cases hlt : n < s.uses.length
  · obtain ⟨_, q, c', he, _, hrow⟩ := hu
    injection he with he1 he2 he3
    subst he1
    obtain ⟨ub, uo, rfl, hrw⟩ : ∃ b off, up = some ⟨b, off, none⟩ ∧ Row w b off (ints s.uses) := by
      rcases hrow with h | h
      · omega
      · exact h
    obtain ⟨k, hk⟩ : ∃ k, k = s.uses[n] := ⟨_, rfl⟩
    have hkl : k < qs.length := by rw [hk]; exact hux _ (List.getElem_mem _)
    obtain ⟨b, rfl, hb, hc⟩ : ∃ b, p = some ⟨b, 0, none⟩ ∧ b < w.heap.size ∧ ∀ k (h : k < qs.length) j, j < 9 → w.cell? ⟨b, k * 9 + j, none⟩ = (stCells qs[k].1 qs[k].2)[j]? := by
      rcases hr.1 with h | h
      · rw [h] at hkl; simp at hkl
      · exact h
    have cu : w.cell? ⟨ub, uo + n, none⟩ = some (.int .i64 (k : Int)) := by rw [hrw.2 n (by rw [ints_length]; exact hlt), ints_get hlt, ← hk]
    have c7 : w.cell? ⟨b, k * 9 + 7, none⟩ = some (.string (bs qs[k].1.ck.1)) := hc k hkl 7 (by omega)
    have c8 : w.cell? ⟨b, k * 9 + 8, none⟩ = some (.string (bs qs[k].1.ck.2)) := hc k hkl 8 (by omega)
    have hub := hrw.1
    have HU : Hid (ucL (qs.map Prod.fst) s n = qs[k].1.ck) := by
      show ucL _ _ _ = _
      unfold ucL
      have h1 : s.uses[n]? = some k := by rw [List.getElem?_eq_getElem hlt, ← hk]
      have h2 : (qs.map Prod.fst)[k]? = some qs[k].1 := by simp [hkl]
      simp only [h1, h2]
    clear hc hr hrow hk hux hrw he2 he3
    go_enter Try.func56, Try.ntmps56
    go_wp2
    refine bodyPost_ret (v := .agg #[.string (bs qs[k].1.ck.1), .string (bs qs[k].1.ck.2)]) (by simp [results, Try.results56, go_sem]) rfl ⟨?_, ?_⟩
    · unfold CkIs; rw [HU.out]
    · exact ((Below.refl _ _).alloc (Nat.le_refl _) _).alloc (by simp) _
  · have HU : Hid (ucL (qs.map Prod.fst) s n = ([], [])) := by
      show ucL _ _ _ = _
      unfold ucL
      rw [List.getElem?_eq_none (by omega)]
    clear hr hu hux
    go_enter Try.func56, Try.ntmps56
    go_wp2
    refine bodyPost_ret (v := .agg #[.string ⟨#[]⟩, .string ⟨#[]⟩]) (by simp [results, Try.results56, go_sem]) rfl ⟨?_, ?_⟩
    · unfold CkIs; rw [HU.out]; rfl
    · exact ((Below.refl _ _).alloc (Nat.le_refl _) _).alloc (by simp) _

set_option maxRecDepth 50000 in
set_option maxHeartbeats 1000000 in
theorem isEven_any (k : Nat) (w : World) (_hk : k ≤ 1048576) : Calls Try.prog 78 #[.int .i64 k] w fun e w' => e = .returned (.bool (isEv k)) ∧ w' = w := by
  have hcs : k = 3 ∨ k = 4 ∨ k = 5 ∨ k = 6 ∨ k = 7 ∨ k = 8 ∨ k = 9 ∨ (k ≠ 3 ∧ k ≠ 4 ∧ k ≠ 5 ∧ k ≠ 6 ∧ k ≠ 7 ∧ k ≠ 8 ∧ k ≠ 9) := by omega
  rcases hcs with rfl | rfl | rfl | rfl | rfl | rfl | rfl | ⟨h3, h4, h5, h6, h7, h8, h9⟩
  case inr.inr.inr.inr.inr.inr.inr =>
    have HE : Hid (isEv k = false) := by show isEv k = false; simp [isEv]; omega
    have g3 : ¬ (k : Int) = 3 := by omega
    have g4 : ¬ (k : Int) = 4 := by omega
    have g5 : ¬ (k : Int) = 5 := by omega
    have g6 : ¬ (k : Int) = 6 := by omega
    have g7 : ¬ (k : Int) = 7 := by omega
    have g8 : ¬ (k : Int) = 8 := by omega
    have g9 : ¬ (k : Int) = 9 := by omega
    go_enter Try.func78, Try.ntmps78
    go_wp2
    go_ret
    exact ⟨ret_bool HE.out.symm, rfl⟩
  all_goals
    go_enter Try.func78, Try.ntmps78
    go_wp2
    go_ret
    exact ⟨rfl, rfl⟩

set_option maxRecDepth 50000 in
set_option maxHeartbeats 1000000 in
theorem isGiven_any (k : Nat) (w : World) (_hk : k ≤ 1048576) : Calls Try.prog 63 #[.int .i64 k] w fun e w' => e = .returned (.bool (isGv k)) ∧ w' = w := by
  have hcs : k = 1 ∨ k = 2 ∨ k = 12 ∨ (k ≠ 1 ∧ k ≠ 2 ∧ k ≠ 12) := by omega
  rcases hcs with rfl | rfl | rfl | ⟨h3, h4, h5⟩
  case inr.inr.inr =>
    have HE : Hid (isGv k = false) := by show isGv k = false; simp [isGv]; omega
    have g3 : ¬ (k : Int) = 1 := by omega
    have g4 : ¬ (k : Int) = 2 := by omega
    have g5 : ¬ (k : Int) = 12 := by omega
    go_enter Try.func63, Try.ntmps63
    go_wp2
    go_ret
    exact ⟨ret_bool HE.out.symm, rfl⟩
  all_goals
    go_enter Try.func63, Try.ntmps63
    go_wp2
    go_ret
    exact ⟨rfl, rfl⟩
end Go.Proofs.Ytfbkjopidjojeab

namespace Go.Proofs.Ytfbkjopidjojeab
open Go.RowKit

/-- A step in a block of its own. -/
def StB (w : World) (b : Nat) (s : St) (u : Value) : Prop := w.heap[b]? = some (.cells (stCells s u).toArray 76 (0, 0))
theorem StB.c {w : World} {b : Nat} {l : St} {u : Value} (h : StB w b l u) (j : Nat) : w.cell? ⟨b, j, none⟩ = (stCells l u)[j]? := by
  rw [cell_of_row w b j _ _ _ h]; simp
theorem StB.below {w w' : World} {B b : Nat} {l : St} {u : Value} (h : StB w b l u) (hb : Below B w w') (hB : b < B) : StB w' b l u := by
  unfold StB; rw [hb.block b hB]; exact h
/-- The world with a step and a word of nothing. -/
def Z2 (w : World) (s : St) (up : Option Addr) (uc : Nat) : World := (w.alloc (Obj.cells #[.int .i64 s.no, .int .i64 s.kind, .string (S s.name), .slice up s.uses.length uc, .int .i64 s.num, .string (bs s.wd.1), .string (bs s.wd.2), .string (bs s.ck.1), .string (bs s.ck.2)] 76)).alloc (Obj.cells #[.string ⟨#[]⟩, .string ⟨#[]⟩] 74)
theorem Z2_size (w : World) (s : St) (up : Option Addr) (uc : Nat) : (Z2 w s up uc).heap.size = w.heap.size + 1 + 1 := by simp [Z2]
theorem Z2_below (w : World) (s : St) (up : Option Addr) (uc : Nat) : Below w.heap.size w (Z2 w s up uc) := ((Below.refl w.heap.size w).alloc (Nat.le_refl _) _).alloc (by simp) _
theorem Z2_s (w : World) (s : St) (up : Option Addr) (uc : Nat) : StB (Z2 w s up uc) w.heap.size s (.slice up s.uses.length uc) := by
  unfold StB Z2
  rw [Below.heap_alloc _ _ _ (by simp), heap_alloc_new]
  rfl
theorem Z2_r (w : World) (s : St) (up : Option Addr) (uc : Nat) : Boxed (Z2 w s up uc) (w.heap.size + 1) ⟨#[]⟩ ⟨#[]⟩ := Boxed.new _ _ _ _ _ (by simp)
theorem bs_emp {v : List Bool} : (bs v).toList.isEmpty = v.isEmpty := by
  rw [ByteArray.toList_eq, bs_toList]; cases v <;> rfl
set_option maxRecDepth 50000 in
set_option maxHeartbeats 400000 in
theorem None_any (u v : List Bool) (w : World) : Calls Try.prog 64 #[.agg #[.string (bs u), .string (bs v)]] w fun e w' => e = .returned (.bool v.isEmpty) ∧ Below w.heap.size w w' := by
  have hh := bs_emp (v := v)
  go_enter Try.func64, Try.ntmps64
  go_wp2
  go_ret
  exact ⟨rfl, (Below.refl _ _).alloc (Nat.le_refl _) _⟩
theorem fcL_hit {qs : List St} {s : St} {k : Nat} (hk : k < s.uses.length) (hb : ∀ j, j < k → hasC (ucL qs s j) = false) (h : hasC (ucL qs s k) = true) : fcL qs s = ucL qs s k := by
  have : (List.range s.uses.length).find? (fun n => hasC (ucL qs s n)) = some k := by
    rw [List.find?_range_eq_some]
    exact ⟨h, List.mem_range.2 hk, fun j hj => by rw [hb j hj]; rfl⟩
  unfold fcL; rw [this]; rfl
theorem fcL_none {qs : List St} {s : St} (hb : ∀ j, j < s.uses.length → hasC (ucL qs s j) = false) : fcL qs s = ([], []) := by
  have : (List.range s.uses.length).find? (fun n => hasC (ucL qs s n)) = none := by
    rw [List.find?_eq_none]
    intro j hj
    rw [hb j (List.mem_range.1 hj)]; simp
  unfold fcL; rw [this]; rfl

set_option maxRecDepth 50000 in
set_option maxHeartbeats 1000000 in
theorem firstClock_any (qs : List (St × Value)) (p : Option Addr) (cap : Nat) (s : St) (up : Option Addr) (uc : Nat) (w : World) (hr : RS w p qs)
    (hu : Reads w (.slice up s.uses.length uc) 1 s.uses.length (ints s.uses)) (hul : s.uses.length ≤ 1048575) (hux : ∀ x ∈ s.uses, x < qs.length) :
    Calls Try.prog 79 #[.slice p qs.length cap, .agg #[.int .i64 s.no, .int .i64 s.kind, .string (S s.name), .slice up s.uses.length uc, .int .i64 s.num, .string (bs s.wd.1), .string (bs s.wd.2), .string (bs s.ck.1), .string (bs s.ck.2)]] w
      fun e w' => CkIs (fcL (qs.map Prod.fst) s) e ∧ Below w.heap.size w w' := by
  have hS := Z2_s w s up uc
  have hR := Z2_r w s up uc
  go_enter Try.func79, Try.ntmps79
  go_wp2
  go_loopw [5] (fun i wr => ∃ k : Nat, i = .int .i64 k ∧ k ≤ s.uses.length ∧ Hid (∀ j, j < k → hasC (ucL (qs.map Prod.fst) s j) = false) ∧ Hid (Below (w.heap.size + 1 + 1) (Z2 w s up uc) wr)) (fun i _ => s.uses.length - (intOf i).toNat)
  case atStart => exact ⟨0, rfl, Nat.zero_le _, fun j hj => by omega, Below.refl _ _⟩
  case round =>
    obtain ⟨k, rfl, hk, HB, HW⟩ := hrel
    have hnx := HW.out
    have hsz := hnx.size
    rw [Z2_size] at hsz
    have hS1 := hS.below hnx (by omega)
    have hR1 := hR.below hnx (by omega)
    have b0 := hS1.c 0
    have b1 := hS1.c 1
    have b2 := hS1.c 2
    have b3 := hS1.c 3
    have b4 := hS1.c 4
    have b5 := hS1.c 5
    have b6 := hS1.c 6
    have b7 := hS1.c 7
    have b8 := hS1.c 8
    simp only [stCells, List.getElem?_cons_zero, List.getElem?_cons_succ] at b0 b1 b2 b3 b4 b5 b6 b7 b8
    have hbw : Below w.heap.size w wr := (Z2_below w s up uc).trans (hnx.mono (by omega))
    by_cases hlt : k < s.uses.length
    · have hcall := usedClock_any qs p cap s up uc k wr (by omega) (hr.below hbw (Nat.le_refl _)) (hu.below hbw (Nat.le_refl _)) hux
      obtain ⟨c, hc⟩ : ∃ c, ucL (qs.map Prod.fst) s k = c := ⟨_, rfl⟩
      rw [hc] at hcall
      have HC : Hid (ucL (qs.map Prod.fst) s k = c) := hc
      clear hc hr hu
      by_cases hh : c.2.isEmpty = true
      · go_wp2_with (first
          | (go_at_call 56; refine hcall.mono ?_; rintro e w1 ⟨hK, hb1⟩; unfold CkIs at hK; subst hK)
          | (go_at_call 64; refine (None_any c.1 c.2 _).mono ?_; rintro e w2 ⟨hK, hb2⟩; subst hK; have hb3 := hb2; have hz1 := hb1.size; have hb12 : Below wr.heap.size wr w2 := (hb1.trans ((Below.refl _ _).alloc hz1 _)).trans (hb2.mono (by simp; omega)); have hz2 := hb12.size; have hcx : Boxed w2 w1.heap.size (bs c.1) (bs c.2) := (Boxed.new w1 _ (bs c.1) (bs c.2) _ rfl).below hb2 (by simp); obtain ⟨x0, x1, _, _⟩ := hcx; have hR2 := hR1.below hb12 (by omega); obtain ⟨r0, r1, g0, g1⟩ := hR2))
        clear hcall
        go_roundw
        case rel => exact ⟨k + 1, by go_num, by omega, fun j hj => by
          rcases Nat.lt_or_ge j k with q | q
          · exact HB.out j q
          · have : j = k := by omega
            subst this; rw [HC.out]; simp [hasC, hh], HW.out.trans (hb12.mono (by omega))⟩
        case measure => simp [intOf]; omega
      · have hh2 : c.2.isEmpty = false := by simpa using hh
        have HF : Hid (fcL (qs.map Prod.fst) s = c) := by
          show fcL _ _ = _
          rw [fcL_hit hlt HB.out (by rw [HC.out]; simp [hasC, hh2]), HC.out]
        go_wp2_with (first
          | (go_at_call 56; refine hcall.mono ?_; rintro e w1 ⟨hK, hb1⟩; unfold CkIs at hK; subst hK)
          | (go_at_call 64; refine (None_any c.1 c.2 _).mono ?_; rintro e w2 ⟨hK, hb2⟩; subst hK; have hb3 := hb2; have hz1 := hb1.size; have hb12 : Below wr.heap.size wr w2 := (hb1.trans ((Below.refl _ _).alloc hz1 _)).trans (hb2.mono (by simp; omega)); have hz2 := hb12.size; have hcx : Boxed w2 w1.heap.size (bs c.1) (bs c.2) := (Boxed.new w1 _ (bs c.1) (bs c.2) _ rfl).below hb2 (by simp); obtain ⟨x0, x1, _, _⟩ := hcx; have hR2 := hR1.below hb12 (by omega); obtain ⟨r0, r1, g0, g1⟩ := hR2))
        have hst := Boxed.store ⟨r0, r1, g0, g1⟩ (bs c.1) (bs c.2)
        have q0 := hst.c0
        have q1 := hst.c1
        refine bodyPost_ret (v := .agg #[.string (bs c.1), .string (bs c.2)]) (by simp [results, Try.results79, go_sem, q0, q1]) rfl ⟨?_, ?_⟩
        · unfold CkIs; rw [HF.out]
        · exact ((hbw.trans (hb12.mono (by omega))).setCell (by show w.heap.size ≤ w.heap.size + 1; omega) _).setCell (by show w.heap.size ≤ w.heap.size + 1; omega) _
    · have HF : Hid (fcL (qs.map Prod.fst) s = ([], [])) := fcL_none (fun j hj => HB.out j (by omega))
      obtain ⟨r0, r1, g0, g1⟩ := hR1
      clear hr hu
      go_wp2
      have hst := Boxed.store ⟨r0, r1, g0, g1⟩ ⟨#[]⟩ ⟨#[]⟩
      have q0 := hst.c0
      have q1 := hst.c1
      refine bodyPost_ret (v := .agg #[.string ⟨#[]⟩, .string ⟨#[]⟩]) (by simp [results, Try.results79, go_sem, q0, q1]) rfl ⟨?_, ?_⟩
      · unfold CkIs; rw [HF.out]; rfl
      · exact (hbw.setCell (by show w.heap.size ≤ w.heap.size + 1; omega) _).setCell (by show w.heap.size ≤ w.heap.size + 1; omega) _
end Go.Proofs.Ytfbkjopidjojeab

namespace Go.Proofs.Ytfbkjopidjojeab
open Go.RowKit

/-- On, Either, Not by the model. -/
def onW (a b : Wd) : Wd := nfL (onS (bitAt a.1 a.2) (bitAt b.1 b.2)) (a.1.length + b.1.length * a.2.length) (b.2.length * a.2.length)
def orW (a b : Wd) : Wd := nfL (fun n => bitAt a.1 a.2 n || bitAt b.1 b.2 n) (max a.1.length b.1.length) (Nat.lcm a.2.length b.2.length)
def notW (a : Wd) : Wd := nfL (fun n => !bitAt a.1 a.2 n) a.1.length a.2.length
/-- A word that is one, and not too long to reckon with. -/
def Wok (n : Nat) (c : Wd) : Prop := c.2 ≠ [] ∧ c.1.length ≤ n ∧ c.2.length ≤ n
theorem EP_onW {a b : Wd} (ha : a.2 ≠ []) (hb : b.2 ≠ []) : EP (onS (bitAt a.1 a.2) (bitAt b.1 b.2)) (a.1.length + b.1.length * a.2.length) (b.2.length * a.2.length) := by
  have hf := EP_bitAt a.1 a.2 ha
  have hg := EP_bitAt b.1 b.2 hb
  have hb0 : 0 < b.2.length := List.length_pos_iff.2 hb
  obtain ⟨c, hc⟩ : ∃ c, ones (fun i => bitAt a.1 a.2 (a.1.length + i)) a.2.length = c := ⟨_, rfl⟩
  rcases Nat.eq_zero_or_pos c with h0 | h0
  · subst h0
    have h1 := EP_on_none (g := bitAt b.1 b.2) hf hc
    refine ⟨Nat.mul_pos hb0 hf.1, fun n hn => ?_⟩
    exact h1.mul b.2.length n (by omega)
  · exact EP_on hf hg hc (by have := Nat.le_mul_of_pos_right b.1.length h0; omega) hb0 (Nat.dvd_mul_right _ _)

theorem On_m (a b : Wd) (w : World) (ha : Wok 1048576 a) (hb : Wok 1048576 b) :
    Calls Try.prog 80 #[.agg #[.string (bs a.1), .string (bs a.2)], .agg #[.string (bs b.1), .string (bs b.2)]] w fun e w' => (CkIs (onW a b) e ∧ Hid (Wok 2199023255552 (onW a b))) ∧ Below w.heap.size w w' := by
  refine (On_any a.1 a.2 b.1 b.2 w ha.1 hb.1 ha.2.1 ha.2.2 hb.2.1 hb.2.2).mono ?_
  rintro e w' ⟨⟨u, v, rfl, h, h1, h2⟩, hb'⟩
  have e : onW a b = (u, v) := nfL_eq h (EP_onW ha.1 hb.1)
  refine ⟨⟨by unfold CkIs; rw [e], ?_⟩, hb'⟩
  show Wok _ _
  rw [e]; exact ⟨h.ne, h1, Nat.le_trans h2 (by omega)⟩
theorem Either_m (a b : Wd) (w : World) (ha : Wok 1048576 a) (hb : Wok 1048576 b) :
    Calls Try.prog 81 #[.agg #[.string (bs a.1), .string (bs a.2)], .agg #[.string (bs b.1), .string (bs b.2)]] w fun e w' => (CkIs (orW a b) e ∧ Hid (Wok 2199023255552 (orW a b))) ∧ Below w.heap.size w w' := by
  refine (Either_any a.1 a.2 b.1 b.2 w ha.1 hb.1 ha.2.1 ha.2.2 hb.2.1 hb.2.2).mono ?_
  rintro e w' ⟨⟨u, v, rfl, h, h1, h2⟩, hb'⟩
  have e : orW a b = (u, v) := nfL_eq h (EP_or (EP_bitAt a.1 a.2 ha.1) (EP_bitAt b.1 b.2 hb.1))
  refine ⟨⟨by unfold CkIs; rw [e], ?_⟩, hb'⟩
  show Wok _ _
  rw [e]
  have h3 := lcm_le_mul a.2.length b.2.length
  have h4 : a.2.length * b.2.length ≤ 1048576 * 1048576 := Nat.mul_le_mul ha.2.2 hb.2.2
  exact ⟨h.ne, by have := ha.2.1; have := hb.2.1; simp only; omega, by simp only; omega⟩
theorem Not_m (a : Wd) (w : World) (ha : Wok 1048576 a) :
    Calls Try.prog 101 #[.agg #[.string (bs a.1), .string (bs a.2)]] w fun e w' => (CkIs (notW a) e ∧ Hid (Wok 1048576 (notW a))) ∧ Below w.heap.size w w' := by
  refine (Not_any a.1 a.2 w ha.1 ha.2.1 ha.2.2).mono ?_
  rintro e w' ⟨⟨u, v, rfl, h, h1, h2⟩, hb'⟩
  have e : notW a = (u, v) := nfL_eq h (EP_map (EP_bitAt a.1 a.2 ha.1))
  refine ⟨⟨by unfold CkIs; rw [e], ?_⟩, hb'⟩
  show Wok _ _
  rw [e]; exact ⟨h.ne, Nat.le_trans h1 ha.2.1, Nat.le_trans h2 ha.2.2⟩

/-- The clock that a step gets. -/
def ckOf (qs : List St) (s : St) : Wd :=
  if isEv s.kind then fcL qs s
  else if s.kind == 10 && hasC (ucL qs s 0) then onW (ucL qs s 0) s.wd
  else if s.kind == 11 && hasC (ucL qs s 0) && hasC (ucL qs s 1) then orW (ucL qs s 0) (ucL qs s 1)
  else ([], [])
/-- All clocks so far are short. -/
def CkOk (n : Nat) (qs : List St) : Prop := ∀ s ∈ qs, s.ck.1.length ≤ n ∧ s.ck.2.length ≤ n
theorem ucL_ok {n : Nat} {qs : List St} (h : CkOk n qs) (s : St) (k : Nat) : (ucL qs s k).1.length ≤ n ∧ (ucL qs s k).2.length ≤ n := by
  unfold ucL
  split
  · exact ⟨Nat.zero_le _, Nat.zero_le _⟩
  · split
    · exact ⟨Nat.zero_le _, Nat.zero_le _⟩
    · rename_i t e; exact h t (List.mem_of_getElem? e)
theorem ucL_wok {n : Nat} {qs : List St} (h : CkOk n qs) (s : St) (k : Nat) (hh : hasC (ucL qs s k) = true) : Wok n (ucL qs s k) := by
  have := ucL_ok h s k
  refine ⟨fun e => ?_, this⟩
  rw [hasC, e] at hh; simp at hh
theorem fcL_ok {n : Nat} {qs : List St} (h : CkOk n qs) (s : St) : (fcL qs s).1.length ≤ n ∧ (fcL qs s).2.length ≤ n := by
  unfold fcL
  cases (List.range s.uses.length).find? (fun n => hasC (ucL qs s n)) with
  | none => exact ⟨Nat.zero_le _, Nat.zero_le _⟩
  | some k => exact ucL_ok h s k

set_option maxRecDepth 50000 in
set_option maxHeartbeats 1000000 in
theorem clockOf_even (qs : List (St × Value)) (p : Option Addr) (cap : Nat) (s : St) (up : Option Addr) (uc : Nat) (w : World) (hr : RS w p qs)
    (hu : Reads w (.slice up s.uses.length uc) 1 s.uses.length (ints s.uses)) (hul : s.uses.length ≤ 1048575) (hux : ∀ x ∈ s.uses, x < qs.length) (hk : s.kind ≤ 13) (hev : isEv s.kind = true) :
    Calls Try.prog 65 #[.slice p qs.length cap, .agg #[.int .i64 s.no, .int .i64 s.kind, .string (S s.name), .slice up s.uses.length uc, .int .i64 s.num, .string (bs s.wd.1), .string (bs s.wd.2), .string (bs s.ck.1), .string (bs s.ck.2)]] w
      fun e w' => CkIs (ckOf (qs.map Prod.fst) s) e ∧ Below w.heap.size w w' := by
  have hS := Z2_s w s up uc
  have hR := Z2_r w s up uc
  have HK : Hid (ckOf (qs.map Prod.fst) s = fcL (qs.map Prod.fst) s) := by show ckOf _ _ = _; unfold ckOf; rw [if_pos hev]
  have b0 := hS.c 0
  have b1 := hS.c 1
  have b2 := hS.c 2
  have b3 := hS.c 3
  have b4 := hS.c 4
  have b5 := hS.c 5
  have b6 := hS.c 6
  have b7 := hS.c 7
  have b8 := hS.c 8
  simp only [stCells, List.getElem?_cons_zero, List.getElem?_cons_succ] at b0 b1 b2 b3 b4 b5 b6 b7 b8
  have hbw := Z2_below w s up uc
  have hcall := firstClock_any qs p cap s up uc (Z2 w s up uc) (hr.below hbw (Nat.le_refl _)) (hu.below hbw (Nat.le_refl _)) hul hux
  clear hr hu
  go_enter Try.func65, Try.ntmps65
  go_wp2_with (first
    | (go_at_call 78; refine (isEven_any s.kind _ (by omega)).mono ?_; rintro e w1 ⟨hE, hw1⟩; subst hE; subst w1)
    | (go_at_call 79; refine hcall.mono ?_; rintro e w1 ⟨hK, hb1⟩; unfold CkIs at hK; subst hK; have hR2 := hR.below hb1 (by rw [Z2_size]; omega); obtain ⟨r0, r1, g0, g1⟩ := hR2))
  have hbz : Below w.heap.size w w1 := hbw.trans (hb1.mono (by rw [Z2_size]; omega))
  have hst := Boxed.store ⟨r0, r1, g0, g1⟩ (bs (fcL (qs.map Prod.fst) s).1) (bs (fcL (qs.map Prod.fst) s).2)
  have q0 := hst.c0
  have q1 := hst.c1
  refine bodyPost_ret (v := .agg #[.string (bs (fcL (qs.map Prod.fst) s).1), .string (bs (fcL (qs.map Prod.fst) s).2)]) (by simp [results, Try.results65, go_sem, q0, q1]) rfl ⟨?_, ?_⟩
  · unfold CkIs; rw [HK.out]
  · exact (hbz.setCell (by show w.heap.size ≤ w.heap.size + 1; omega) _).setCell (by show w.heap.size ≤ w.heap.size + 1; omega) _
end Go.Proofs.Ytfbkjopidjojeab

namespace Go.Proofs.Ytfbkjopidjojeab
open Go.RowKit

/-- What clockOf keeps. -/
def Bun (w W : World) (s : St) (up : Option Addr) (uc : Nat) (x0 : Nat) (c0 : Wd) (x1 : Nat) (c1 : Wd) : Prop :=
  StB W w.heap.size s (.slice up s.uses.length uc) ∧ Boxed W (w.heap.size + 1) ⟨#[]⟩ ⟨#[]⟩ ∧ Boxed W x0 (bs c0.1) (bs c0.2) ∧ Boxed W x1 (bs c1.1) (bs c1.2) ∧ Below w.heap.size w W ∧ w.heap.size + 1 < W.heap.size ∧ x0 < W.heap.size ∧ x1 < W.heap.size
theorem Bun.below {w W W' : World} {s : St} {up : Option Addr} {uc x0 x1 : Nat} {c0 c1 : Wd} (h : Bun w W s up uc x0 c0 x1 c1) (hb : Below W.heap.size W W') : Bun w W' s up uc x0 c0 x1 c1 := by
  obtain ⟨h1, h2, h3, h4, h5, h6, h7, h8⟩ := h
  have hz := hb.size
  exact ⟨h1.below hb (by omega), h2.below hb (by omega), h3.below hb h7, h4.below hb h8, h5.trans (hb.mono (by omega)), by omega, by omega, by omega⟩
theorem Bun.mk2 {w w1 w2 : World} {s : St} {up : Option Addr} {uc : Nat} {c0 c1 : Wd} (h0 : Below w.heap.size w w1) (h1 : StB w1 w.heap.size s (.slice up s.uses.length uc)) (h2 : Boxed w1 (w.heap.size + 1) ⟨#[]⟩ ⟨#[]⟩) (hz : w.heap.size + 1 < w1.heap.size)
    (hb : Below (w1.alloc (Obj.cells #[.string (bs c0.1), .string (bs c0.2)] 74)).heap.size (w1.alloc (Obj.cells #[.string (bs c0.1), .string (bs c0.2)] 74)) w2) :
    Bun w (w2.alloc (Obj.cells #[.string (bs c1.1), .string (bs c1.2)] 74)) s up uc w1.heap.size c0 w2.heap.size c1 := by
  have hz1 := hb.size
  simp at hz1
  have hA1 : Below w1.heap.size w1 (w1.alloc (Obj.cells #[.string (bs c0.1), .string (bs c0.2)] 74)) := (Below.refl _ _).alloc (Nat.le_refl _) _
  have hA2 : Below w2.heap.size w2 (w2.alloc (Obj.cells #[.string (bs c1.1), .string (bs c1.2)] 74)) := (Below.refl _ _).alloc (Nat.le_refl _) _
  have hB : Below w1.heap.size w1 (w2.alloc (Obj.cells #[.string (bs c1.1), .string (bs c1.2)] 74)) := (hA1.trans (hb.mono (by simp))).trans (hA2.mono (by omega))
  refine ⟨h1.below hB (by omega), h2.below hB hz, ?_, Boxed.new w2 _ _ _ _ rfl, h0.trans (hB.mono (by omega)), by simp; omega, by simp; omega, by simp⟩
  exact ((Boxed.new w1 _ (bs c0.1) (bs c0.2) _ rfl).below hb (by simp)).below hA2 (by omega)

set_option maxRecDepth 50000 in
set_option maxHeartbeats 2000000 in
theorem clockOf_when (qs : List (St × Value)) (p : Option Addr) (cap : Nat) (s : St) (up : Option Addr) (uc : Nat) (w : World) (hr : RS w p qs)
    (hu : Reads w (.slice up s.uses.length uc) 1 s.uses.length (ints s.uses)) (hux : ∀ x ∈ s.uses, x < qs.length) (hk : s.kind ≤ 13) (hev : isEv s.kind = false) (hok : CkOk 1048576 (qs.map Prod.fst)) (h10 : s.kind = 10) (hw : Wok 1048576 s.wd) :
    Calls Try.prog 65 #[.slice p qs.length cap, .agg #[.int .i64 s.no, .int .i64 s.kind, .string (S s.name), .slice up s.uses.length uc, .int .i64 s.num, .string (bs s.wd.1), .string (bs s.wd.2), .string (bs s.ck.1), .string (bs s.ck.2)]] w
      fun e w' => (CkIs (ckOf (qs.map Prod.fst) s) e ∧ Hid ((ckOf (qs.map Prod.fst) s).1.length ≤ 2199023255552 ∧ (ckOf (qs.map Prod.fst) s).2.length ≤ 2199023255552)) ∧ Below w.heap.size w w' := by
  have h10' : Hid (s.kind = 10) := h10
  clear h10
  obtain ⟨c0, hc0⟩ : ∃ c, ucL (qs.map Prod.fst) s 0 = c := ⟨_, rfl⟩
  obtain ⟨c1, hc1⟩ : ∃ c, ucL (qs.map Prod.fst) s 1 = c := ⟨_, rfl⟩
  have hS := Z2_s w s up uc
  have hR := Z2_r w s up uc
  have b0 := hS.c 0
  have b1 := hS.c 1
  have b2 := hS.c 2
  have b3 := hS.c 3
  have b4 := hS.c 4
  have b5 := hS.c 5
  have b6 := hS.c 6
  have b7 := hS.c 7
  have b8 := hS.c 8
  simp only [stCells, List.getElem?_cons_zero, List.getElem?_cons_succ] at b0 b1 b2 b3 b4 b5 b6 b7 b8
  have hbw := Z2_below w s up uc
  have hcall0 := usedClock_any qs p cap s up uc 0 (Z2 w s up uc) (by omega) (hr.below hbw (Nat.le_refl _)) (hu.below hbw (Nat.le_refl _)) hux
  rw [hc0] at hcall0
  have HC0 : Hid (ucL (qs.map Prod.fst) s 0 = c0) := hc0
  go_enter Try.func65, Try.ntmps65
  go_wp2_with (go_at_call 78; refine (isEven_any s.kind _ (by omega)).mono ?_; rintro e w1 ⟨hE, hw1⟩; subst hE; subst w1)
  refine hcall0.mono ?_
  rintro e w1 ⟨hK, hb1⟩
  unfold CkIs at hK
  subst hK
  have hzz := hb1.size
  rw [Z2_size] at hzz
  have hbw1 : Below w.heap.size w w1 := hbw.trans (hb1.mono (by rw [Z2_size]; omega))
  have hA1 : Below w1.heap.size w1 (w1.alloc (Obj.cells #[.string (bs c0.1), .string (bs c0.2)] 74)) := (Below.refl _ _).alloc (Nat.le_refl _) _
  have hbwA : Below w.heap.size w (w1.alloc (Obj.cells #[.string (bs c0.1), .string (bs c0.2)] 74)) := hbw1.trans (hA1.mono (by omega))
  have hS1 := (hS.below hb1 (by rw [Z2_size]; omega))
  have hcall1 := usedClock_any qs p cap s up uc 1 (w1.alloc (Obj.cells #[.string (bs c0.1), .string (bs c0.2)] 74)) (by omega) (hr.below hbwA (Nat.le_refl _)) (hu.below hbwA (Nat.le_refl _)) hux
  rw [hc1] at hcall1
  clear b0 b1 b2 b3 b4 b5 b6 b7 b8 hcall0 hr hu hc0 hc1
  have b0 := hS1.c 0
  have b1 := hS1.c 1
  have b2 := hS1.c 2
  have b3 := hS1.c 3
  have b4 := hS1.c 4
  have b5 := hS1.c 5
  have b6 := hS1.c 6
  have b7 := hS1.c 7
  have b8 := hS1.c 8
  simp only [stCells, List.getElem?_cons_zero, List.getElem?_cons_succ] at b0 b1 b2 b3 b4 b5 b6 b7 b8
  have hltw : w.heap.size < w1.heap.size := by omega
  have hne1 : w1.heap.size ≠ w.heap.size := by omega
  go_wp2_with fail
  refine hcall1.mono ?_
  rintro e w2 ⟨hK, hb2⟩
  unfold CkIs at hK
  subst hK
  have hB := Bun.mk2 (s := s) (up := up) (uc := uc) (c0 := c0) (c1 := c1) hbw1 hS1 (hR.below hb1 (by rw [Z2_size]; omega)) (by omega) hb2
  have hRw2 : Boxed w2 (w.heap.size + 1) ⟨#[]⟩ ⟨#[]⟩ := ((hR.below hb1 (by rw [Z2_size]; omega)).below hA1 (by omega)).below hb2 (by simp; omega)
  have hSw2 : StB w2 w.heap.size s (.slice up s.uses.length uc) := (hS1.below hA1 (by omega)).below hb2 (by simp; omega)
  have hbw2 : Below w.heap.size w w2 := hbwA.trans (hb2.mono (by simp; omega))
  clear hcall1 hS1 b0 b1 b2 b3 b4 b5 b6 b7 b8 hS hR
  have hBB : Hid (Bun w (w2.alloc (Obj.cells #[.string (bs c1.1), .string (bs c1.2)] 74)) s up uc w1.heap.size c0 w2.heap.size c1) := hB
  have hltw2 : w1.heap.size < w2.heap.size := by have := hb2.size; simp at this; omega
  have hltw3 : w.heap.size < w2.heap.size := by omega
  have hltw4 : w.heap.size + 1 < w2.heap.size := by omega
  have hZZ := hb2.size
  have hkk : (s.kind : Int) = 10 := by have := h10'.out; omega
  clear hRw2 hSw2 hbw2
  obtain ⟨hS3, ⟨r0, r1, g0, g1⟩, ⟨x0, x1, _, _⟩, ⟨y0, y1, _, _⟩, hbz, hz0, hz1, hz2⟩ := hBB.out
  have b0 := hS3.c 0
  have b1 := hS3.c 1
  have b2 := hS3.c 2
  have b3 := hS3.c 3
  have b4 := hS3.c 4
  have b5 := hS3.c 5
  have b6 := hS3.c 6
  have b7 := hS3.c 7
  have b8 := hS3.c 8
  simp only [stCells, List.getElem?_cons_zero, List.getElem?_cons_succ] at b0 b1 b2 b3 b4 b5 b6 b7 b8
  cases hh : c0.2.isEmpty with
  | false =>
    have hhc : hasC (ucL (qs.map Prod.fst) s 0) = true := by rw [HC0.out]; simp [hasC, hh]
    have HK : Hid (ckOf (qs.map Prod.fst) s = onW c0 s.wd) := by
      show ckOf _ _ = _
      unfold ckOf
      rw [hev, hhc, h10'.out, HC0.out]; rfl
    have hw0 : Wok 1048576 c0 := by rw [← HC0.out]; exact ucL_wok hok s 0 hhc
    clear hhc
    go_wp2_with (first
      | (go_at_call 64; refine (None_any _ _ _).mono ?_; rintro e w3 ⟨hK, hb3⟩; subst hK; have hB3 := hBB.out.below hb3; have hBx3 := hB3; obtain ⟨hS4, ⟨r0', r1', g0', g1'⟩, ⟨x0', x1', _, _⟩, ⟨y0', y1', _, _⟩, hbz', hz0', hz1', hz2'⟩ := hBx3; have bb0 := hS4.c 0; have bb1 := hS4.c 1; have bb2 := hS4.c 2; have bb3 := hS4.c 3; have bb4 := hS4.c 4; have bb5 := hS4.c 5; have bb6 := hS4.c 6; have bb7 := hS4.c 7; have bb8 := hS4.c 8; simp only [stCells, List.getElem?_cons_zero, List.getElem?_cons_succ] at bb0 bb1 bb2 bb3 bb4 bb5 bb6 bb7 bb8))
    refine (On_m c0 s.wd w3 hw0 hw).mono ?_
    rintro e w4 ⟨⟨hK, HWk⟩, hb4⟩
    unfold CkIs at hK
    subst hK
    have hB4 := hB3.below hb4
    obtain ⟨_, ⟨r0, r1, g0, g1⟩, _, _, hbz, _, _, _⟩ := hB4
    go_wp2
    have hst := Boxed.store ⟨r0, r1, g0, g1⟩ (bs (onW c0 s.wd).1) (bs (onW c0 s.wd).2)
    have q0 := hst.c0
    have q1 := hst.c1
    refine bodyPost_ret (v := .agg #[.string (bs (onW c0 s.wd).1), .string (bs (onW c0 s.wd).2)]) (by simp [results, Try.results65, go_sem, q0, q1]) rfl ⟨?_, ?_⟩
    · exact ⟨by unfold CkIs; rw [HK.out], by show _ ∧ _; rw [HK.out]; exact HWk.out.2⟩
    · exact (hbz.setCell (by show w.heap.size ≤ w.heap.size + 1; omega) _).setCell (by show w.heap.size ≤ w.heap.size + 1; omega) _
  | true =>
    have hhc : hasC (ucL (qs.map Prod.fst) s 0) = false := by rw [HC0.out]; simp [hasC, hh]
    have HK : Hid (ckOf (qs.map Prod.fst) s = ([], [])) := by
      show ckOf _ _ = _
      unfold ckOf
      rw [hev, hhc, h10'.out]; rfl
    clear hhc
    go_wp2_with (first
      | (go_at_call 64; refine (None_any _ _ _).mono ?_; rintro e w3 ⟨hK, hb3⟩; subst hK; have hB3 := hBB.out.below hb3; have hBx3 := hB3; obtain ⟨hS4, ⟨r0', r1', g0', g1'⟩, ⟨x0', x1', _, _⟩, ⟨y0', y1', _, _⟩, hbz', hz0', hz1', hz2'⟩ := hBx3; have bb0 := hS4.c 0; have bb1 := hS4.c 1; have bb2 := hS4.c 2; have bb3 := hS4.c 3; have bb4 := hS4.c 4; have bb5 := hS4.c 5; have bb6 := hS4.c 6; have bb7 := hS4.c 7; have bb8 := hS4.c 8; simp only [stCells, List.getElem?_cons_zero, List.getElem?_cons_succ] at bb0 bb1 bb2 bb3 bb4 bb5 bb6 bb7 bb8))
    clear r0 r1 g0 g1 hbz
    obtain ⟨_, ⟨r0, r1, g0, g1⟩, _, _, hbz, _, _, _⟩ := hB3
    have hst := Boxed.store ⟨r0, r1, g0, g1⟩ ⟨#[]⟩ ⟨#[]⟩
    have q0 := hst.c0
    have q1 := hst.c1
    refine bodyPost_ret (v := .agg #[.string ⟨#[]⟩, .string ⟨#[]⟩]) (by simp [results, Try.results65, go_sem, q0, q1]) rfl ⟨?_, ?_⟩
    · exact ⟨by unfold CkIs; rw [HK.out]; rfl, by show _ ∧ _; rw [HK.out]; exact ⟨Nat.zero_le _, Nat.zero_le _⟩⟩
    · exact (hbz.setCell (by show w.heap.size ≤ w.heap.size + 1; omega) _).setCell (by show w.heap.size ≤ w.heap.size + 1; omega) _

set_option maxRecDepth 50000 in
set_option maxHeartbeats 2000000 in
theorem clockOf_merge (qs : List (St × Value)) (p : Option Addr) (cap : Nat) (s : St) (up : Option Addr) (uc : Nat) (w : World) (hr : RS w p qs)
    (hu : Reads w (.slice up s.uses.length uc) 1 s.uses.length (ints s.uses)) (hux : ∀ x ∈ s.uses, x < qs.length) (hk : s.kind ≤ 13) (hev : isEv s.kind = false) (hok : CkOk 1048576 (qs.map Prod.fst)) (h11 : s.kind = 11) :
    Calls Try.prog 65 #[.slice p qs.length cap, .agg #[.int .i64 s.no, .int .i64 s.kind, .string (S s.name), .slice up s.uses.length uc, .int .i64 s.num, .string (bs s.wd.1), .string (bs s.wd.2), .string (bs s.ck.1), .string (bs s.ck.2)]] w
      fun e w' => (CkIs (ckOf (qs.map Prod.fst) s) e ∧ Hid ((ckOf (qs.map Prod.fst) s).1.length ≤ 2199023255552 ∧ (ckOf (qs.map Prod.fst) s).2.length ≤ 2199023255552)) ∧ Below w.heap.size w w' := by
  have h11' : Hid (s.kind = 11) := h11
  clear h11
  obtain ⟨c0, hc0⟩ : ∃ c, ucL (qs.map Prod.fst) s 0 = c := ⟨_, rfl⟩
  obtain ⟨c1, hc1⟩ : ∃ c, ucL (qs.map Prod.fst) s 1 = c := ⟨_, rfl⟩
  have hS := Z2_s w s up uc
  have hR := Z2_r w s up uc
  have b0 := hS.c 0
  have b1 := hS.c 1
  have b2 := hS.c 2
  have b3 := hS.c 3
  have b4 := hS.c 4
  have b5 := hS.c 5
  have b6 := hS.c 6
  have b7 := hS.c 7
  have b8 := hS.c 8
  simp only [stCells, List.getElem?_cons_zero, List.getElem?_cons_succ] at b0 b1 b2 b3 b4 b5 b6 b7 b8
  have hbw := Z2_below w s up uc
  have hcall0 := usedClock_any qs p cap s up uc 0 (Z2 w s up uc) (by omega) (hr.below hbw (Nat.le_refl _)) (hu.below hbw (Nat.le_refl _)) hux
  rw [hc0] at hcall0
  have HC0 : Hid (ucL (qs.map Prod.fst) s 0 = c0) := hc0
  have HC1 : Hid (ucL (qs.map Prod.fst) s 1 = c1) := hc1
  go_enter Try.func65, Try.ntmps65
  go_wp2_with (go_at_call 78; refine (isEven_any s.kind _ (by omega)).mono ?_; rintro e w1 ⟨hE, hw1⟩; subst hE; subst w1)
  refine hcall0.mono ?_
  rintro e w1 ⟨hK, hb1⟩
  unfold CkIs at hK
  subst hK
  have hzz := hb1.size
  rw [Z2_size] at hzz
  have hbw1 : Below w.heap.size w w1 := hbw.trans (hb1.mono (by rw [Z2_size]; omega))
  have hA1 : Below w1.heap.size w1 (w1.alloc (Obj.cells #[.string (bs c0.1), .string (bs c0.2)] 74)) := (Below.refl _ _).alloc (Nat.le_refl _) _
  have hbwA : Below w.heap.size w (w1.alloc (Obj.cells #[.string (bs c0.1), .string (bs c0.2)] 74)) := hbw1.trans (hA1.mono (by omega))
  have hS1 := (hS.below hb1 (by rw [Z2_size]; omega))
  have hcall1 := usedClock_any qs p cap s up uc 1 (w1.alloc (Obj.cells #[.string (bs c0.1), .string (bs c0.2)] 74)) (by omega) (hr.below hbwA (Nat.le_refl _)) (hu.below hbwA (Nat.le_refl _)) hux
  rw [hc1] at hcall1
  clear b0 b1 b2 b3 b4 b5 b6 b7 b8 hcall0 hr hu hc0 hc1
  have b0 := hS1.c 0
  have b1 := hS1.c 1
  have b2 := hS1.c 2
  have b3 := hS1.c 3
  have b4 := hS1.c 4
  have b5 := hS1.c 5
  have b6 := hS1.c 6
  have b7 := hS1.c 7
  have b8 := hS1.c 8
  simp only [stCells, List.getElem?_cons_zero, List.getElem?_cons_succ] at b0 b1 b2 b3 b4 b5 b6 b7 b8
  have hltw : w.heap.size < w1.heap.size := by omega
  have hne1 : w1.heap.size ≠ w.heap.size := by omega
  go_wp2_with fail
  refine hcall1.mono ?_
  rintro e w2 ⟨hK, hb2⟩
  unfold CkIs at hK
  subst hK
  have hB := Bun.mk2 (s := s) (up := up) (uc := uc) (c0 := c0) (c1 := c1) hbw1 hS1 (hR.below hb1 (by rw [Z2_size]; omega)) (by omega) hb2
  have hRw2 : Boxed w2 (w.heap.size + 1) ⟨#[]⟩ ⟨#[]⟩ := ((hR.below hb1 (by rw [Z2_size]; omega)).below hA1 (by omega)).below hb2 (by simp; omega)
  have hSw2 : StB w2 w.heap.size s (.slice up s.uses.length uc) := (hS1.below hA1 (by omega)).below hb2 (by simp; omega)
  have hbw2 : Below w.heap.size w w2 := hbwA.trans (hb2.mono (by simp; omega))
  clear hcall1 hS1 b0 b1 b2 b3 b4 b5 b6 b7 b8 hS hR
  have hBB : Hid (Bun w (w2.alloc (Obj.cells #[.string (bs c1.1), .string (bs c1.2)] 74)) s up uc w1.heap.size c0 w2.heap.size c1) := hB
  have hltw2 : w1.heap.size < w2.heap.size := by have := hb2.size; simp at this; omega
  have hltw3 : w.heap.size < w2.heap.size := by omega
  have hltw4 : w.heap.size + 1 < w2.heap.size := by omega
  have hZZ := hb2.size
  have hkk : (s.kind : Int) = 11 := by have := h11'.out; omega
  clear hRw2 hSw2 hbw2
  obtain ⟨hS3, ⟨r0, r1, g0, g1⟩, ⟨x0, x1, _, _⟩, ⟨y0, y1, _, _⟩, hbz, hz0, hz1, hz2⟩ := hBB.out
  have b0 := hS3.c 0
  have b1 := hS3.c 1
  have b2 := hS3.c 2
  have b3 := hS3.c 3
  have b4 := hS3.c 4
  have b5 := hS3.c 5
  have b6 := hS3.c 6
  have b7 := hS3.c 7
  have b8 := hS3.c 8
  simp only [stCells, List.getElem?_cons_zero, List.getElem?_cons_succ] at b0 b1 b2 b3 b4 b5 b6 b7 b8
  cases hh : c0.2.isEmpty with
  | true =>
    have hhc : hasC (ucL (qs.map Prod.fst) s 0) = false := by rw [HC0.out]; simp [hasC, hh]
    have HK : Hid (ckOf (qs.map Prod.fst) s = ([], [])) := by
      show ckOf _ _ = _
      unfold ckOf
      rw [hev, hhc, h11'.out]; rfl
    clear hhc
    go_wp2_with (first
      | (go_at_call 64; refine (None_any _ _ _).mono ?_; rintro e w3 ⟨hK, hb3⟩; subst hK; have hB3 := hBB.out.below hb3; have hBx3 := hB3; obtain ⟨hS4, ⟨r0', r1', g0', g1'⟩, ⟨x0', x1', _, _⟩, ⟨y0', y1', _, _⟩, hbz', hz0', hz1', hz2'⟩ := hBx3; have bb0 := hS4.c 0; have bb1 := hS4.c 1; have bb2 := hS4.c 2; have bb3 := hS4.c 3; have bb4 := hS4.c 4; have bb5 := hS4.c 5; have bb6 := hS4.c 6; have bb7 := hS4.c 7; have bb8 := hS4.c 8; simp only [stCells, List.getElem?_cons_zero, List.getElem?_cons_succ] at bb0 bb1 bb2 bb3 bb4 bb5 bb6 bb7 bb8))
    clear r0 r1 g0 g1 hbz
    obtain ⟨_, ⟨r0, r1, g0, g1⟩, _, _, hbz, _, _, _⟩ := hB3
    have hst := Boxed.store ⟨r0, r1, g0, g1⟩ ⟨#[]⟩ ⟨#[]⟩
    have q0 := hst.c0
    have q1 := hst.c1
    refine bodyPost_ret (v := .agg #[.string ⟨#[]⟩, .string ⟨#[]⟩]) (by simp [results, Try.results65, go_sem, q0, q1]) rfl ⟨?_, ?_⟩
    · exact ⟨by unfold CkIs; rw [HK.out]; rfl, by show _ ∧ _; rw [HK.out]; exact ⟨Nat.zero_le _, Nat.zero_le _⟩⟩
    · exact (hbz.setCell (by show w.heap.size ≤ w.heap.size + 1; omega) _).setCell (by show w.heap.size ≤ w.heap.size + 1; omega) _
  | false =>
    have hhc : hasC (ucL (qs.map Prod.fst) s 0) = true := by rw [HC0.out]; simp [hasC, hh]
    have hw0 : Wok 1048576 c0 := by rw [← HC0.out]; exact ucL_wok hok s 0 hhc
    go_wp2_with (first
      | (go_at_call_of 64 c0.2; refine (None_any c0.1 c0.2 _).mono ?_; rintro e w3 ⟨hK, hb3⟩; subst hK; have hB3 := hBB.out.below hb3; have hBx3 := hB3; obtain ⟨hS4, ⟨r0', r1', g0', g1'⟩, ⟨x0', x1', _, _⟩, ⟨y0', y1', _, _⟩, hbz', hz0', hz1', hz2'⟩ := hBx3; have bb0 := hS4.c 0; have bb1 := hS4.c 1; have bb2 := hS4.c 2; have bb3 := hS4.c 3; have bb4 := hS4.c 4; have bb5 := hS4.c 5; have bb6 := hS4.c 6; have bb7 := hS4.c 7; have bb8 := hS4.c 8; simp only [stCells, List.getElem?_cons_zero, List.getElem?_cons_succ] at bb0 bb1 bb2 bb3 bb4 bb5 bb6 bb7 bb8))
    clear r0 r1 g0 g1 hbz r0' r1' g0' g1' hbz'
    refine (None_any c1.1 c1.2 w3).mono ?_
    rintro e w4 ⟨hK, hb4⟩
    subst hK
    have hB4 := hB3.below hb4
    have hBx4 := hB4
    obtain ⟨hS5, ⟨r0, r1, g0, g1⟩, ⟨x0'', x1'', _, _⟩, ⟨y0'', y1'', _, _⟩, hbz, hz0'', hz1'', hz2''⟩ := hBx4
    cases hh1 : c1.2.isEmpty with
    | true =>
      have hhc1 : hasC (ucL (qs.map Prod.fst) s 1) = false := by rw [HC1.out]; simp [hasC, hh1]
      have HK : Hid (ckOf (qs.map Prod.fst) s = ([], [])) := by
        show ckOf _ _ = _
        unfold ckOf
        rw [hev, hhc, hhc1, h11'.out]; rfl
      clear hhc hhc1
      go_wp2
      have hst := Boxed.store ⟨r0, r1, g0, g1⟩ ⟨#[]⟩ ⟨#[]⟩
      have q0 := hst.c0
      have q1 := hst.c1
      refine bodyPost_ret (v := .agg #[.string ⟨#[]⟩, .string ⟨#[]⟩]) (by simp [results, Try.results65, go_sem, q0, q1]) rfl ⟨?_, ?_⟩
      · exact ⟨by unfold CkIs; rw [HK.out]; rfl, by show _ ∧ _; rw [HK.out]; exact ⟨Nat.zero_le _, Nat.zero_le _⟩⟩
      · exact (hbz.setCell (by show w.heap.size ≤ w.heap.size + 1; omega) _).setCell (by show w.heap.size ≤ w.heap.size + 1; omega) _
    | false =>
      have hhc1 : hasC (ucL (qs.map Prod.fst) s 1) = true := by rw [HC1.out]; simp [hasC, hh1]
      have hw1 : Wok 1048576 c1 := by rw [← HC1.out]; exact ucL_wok hok s 1 hhc1
      have HK : Hid (ckOf (qs.map Prod.fst) s = orW c0 c1) := by
        show ckOf _ _ = _
        unfold ckOf
        rw [hev, hhc, hhc1, h11'.out, HC0.out, HC1.out]; rfl
      clear hhc hhc1
      go_wp2_with fail
      refine (Either_m c0 c1 w4 hw0 hw1).mono ?_
      rintro e w5 ⟨⟨hK, HWk⟩, hb5⟩
      unfold CkIs at hK
      subst hK
      have hB5 := hB4.below hb5
      clear r0 r1 g0 g1 hbz
      obtain ⟨_, ⟨r0, r1, g0, g1⟩, _, _, hbz, _, _, _⟩ := hB5
      go_wp2
      have hst := Boxed.store ⟨r0, r1, g0, g1⟩ (bs (orW c0 c1).1) (bs (orW c0 c1).2)
      have q0 := hst.c0
      have q1 := hst.c1
      refine bodyPost_ret (v := .agg #[.string (bs (orW c0 c1).1), .string (bs (orW c0 c1).2)]) (by simp [results, Try.results65, go_sem, q0, q1]) rfl ⟨?_, ?_⟩
      · exact ⟨by unfold CkIs; rw [HK.out], by show _ ∧ _; rw [HK.out]; exact HWk.out.2⟩
      · exact (hbz.setCell (by show w.heap.size ≤ w.heap.size + 1; omega) _).setCell (by show w.heap.size ≤ w.heap.size + 1; omega) _

set_option maxRecDepth 50000 in
set_option maxHeartbeats 2000000 in
theorem clockOf_other (qs : List (St × Value)) (p : Option Addr) (cap : Nat) (s : St) (up : Option Addr) (uc : Nat) (w : World) (hr : RS w p qs)
    (hu : Reads w (.slice up s.uses.length uc) 1 s.uses.length (ints s.uses)) (hux : ∀ x ∈ s.uses, x < qs.length) (hk : s.kind ≤ 13) (hev : isEv s.kind = false) (_hok : CkOk 1048576 (qs.map Prod.fst)) (h10 : s.kind ≠ 10) (h11 : s.kind ≠ 11) :
    Calls Try.prog 65 #[.slice p qs.length cap, .agg #[.int .i64 s.no, .int .i64 s.kind, .string (S s.name), .slice up s.uses.length uc, .int .i64 s.num, .string (bs s.wd.1), .string (bs s.wd.2), .string (bs s.ck.1), .string (bs s.ck.2)]] w
      fun e w' => (CkIs (ckOf (qs.map Prod.fst) s) e ∧ Hid ((ckOf (qs.map Prod.fst) s).1.length ≤ 2199023255552 ∧ (ckOf (qs.map Prod.fst) s).2.length ≤ 2199023255552)) ∧ Below w.heap.size w w' := by
  have HK : Hid (ckOf (qs.map Prod.fst) s = ([], [])) := by
    show ckOf _ _ = _
    unfold ckOf
    rw [hev, beq_eq_false_iff_ne.2 h10, beq_eq_false_iff_ne.2 h11]; rfl
  have hk1 : ¬ (s.kind : Int) = 10 := by omega
  have hk2 : ¬ (s.kind : Int) = 11 := by omega
  obtain ⟨c0, hc0⟩ : ∃ c, ucL (qs.map Prod.fst) s 0 = c := ⟨_, rfl⟩
  obtain ⟨c1, hc1⟩ : ∃ c, ucL (qs.map Prod.fst) s 1 = c := ⟨_, rfl⟩
  have hS := Z2_s w s up uc
  have hR := Z2_r w s up uc
  have b0 := hS.c 0
  have b1 := hS.c 1
  have b2 := hS.c 2
  have b3 := hS.c 3
  have b4 := hS.c 4
  have b5 := hS.c 5
  have b6 := hS.c 6
  have b7 := hS.c 7
  have b8 := hS.c 8
  simp only [stCells, List.getElem?_cons_zero, List.getElem?_cons_succ] at b0 b1 b2 b3 b4 b5 b6 b7 b8
  have hbw := Z2_below w s up uc
  have hcall0 := usedClock_any qs p cap s up uc 0 (Z2 w s up uc) (by omega) (hr.below hbw (Nat.le_refl _)) (hu.below hbw (Nat.le_refl _)) hux
  rw [hc0] at hcall0
  go_enter Try.func65, Try.ntmps65
  go_wp2_with (go_at_call 78; refine (isEven_any s.kind _ (by omega)).mono ?_; rintro e w1 ⟨hE, hw1⟩; subst hE; subst w1)
  refine hcall0.mono ?_
  rintro e w1 ⟨hK, hb1⟩
  unfold CkIs at hK
  subst hK
  have hzz := hb1.size
  rw [Z2_size] at hzz
  have hbw1 : Below w.heap.size w w1 := hbw.trans (hb1.mono (by rw [Z2_size]; omega))
  have hA1 : Below w1.heap.size w1 (w1.alloc (Obj.cells #[.string (bs c0.1), .string (bs c0.2)] 74)) := (Below.refl _ _).alloc (Nat.le_refl _) _
  have hbwA : Below w.heap.size w (w1.alloc (Obj.cells #[.string (bs c0.1), .string (bs c0.2)] 74)) := hbw1.trans (hA1.mono (by omega))
  have hS1 := (hS.below hb1 (by rw [Z2_size]; omega))
  have hcall1 := usedClock_any qs p cap s up uc 1 (w1.alloc (Obj.cells #[.string (bs c0.1), .string (bs c0.2)] 74)) (by omega) (hr.below hbwA (Nat.le_refl _)) (hu.below hbwA (Nat.le_refl _)) hux
  rw [hc1] at hcall1
  clear b0 b1 b2 b3 b4 b5 b6 b7 b8 hcall0 hr hu hc0 hc1
  have b0 := hS1.c 0
  have b1 := hS1.c 1
  have b2 := hS1.c 2
  have b3 := hS1.c 3
  have b4 := hS1.c 4
  have b5 := hS1.c 5
  have b6 := hS1.c 6
  have b7 := hS1.c 7
  have b8 := hS1.c 8
  simp only [stCells, List.getElem?_cons_zero, List.getElem?_cons_succ] at b0 b1 b2 b3 b4 b5 b6 b7 b8
  have hltw : w.heap.size < w1.heap.size := by omega
  have hne1 : w1.heap.size ≠ w.heap.size := by omega
  go_wp2_with fail
  refine hcall1.mono ?_
  rintro e w2 ⟨hK, hb2⟩
  unfold CkIs at hK
  subst hK
  have hB := Bun.mk2 (s := s) (up := up) (uc := uc) (c0 := c0) (c1 := c1) hbw1 hS1 (hR.below hb1 (by rw [Z2_size]; omega)) (by omega) hb2
  have hRw2 : Boxed w2 (w.heap.size + 1) ⟨#[]⟩ ⟨#[]⟩ := ((hR.below hb1 (by rw [Z2_size]; omega)).below hA1 (by omega)).below hb2 (by simp; omega)
  have hSw2 : StB w2 w.heap.size s (.slice up s.uses.length uc) := (hS1.below hA1 (by omega)).below hb2 (by simp; omega)
  have hbw2 : Below w.heap.size w w2 := hbwA.trans (hb2.mono (by simp; omega))
  clear hcall1 hS1 b0 b1 b2 b3 b4 b5 b6 b7 b8 hS hR
  have hBB : Hid (Bun w (w2.alloc (Obj.cells #[.string (bs c1.1), .string (bs c1.2)] 74)) s up uc w1.heap.size c0 w2.heap.size c1) := hB
  have hltw2 : w1.heap.size < w2.heap.size := by have := hb2.size; simp at this; omega
  have hltw3 : w.heap.size < w2.heap.size := by omega
  have hltw4 : w.heap.size + 1 < w2.heap.size := by omega
  have hZZ := hb2.size
  obtain ⟨r0, r1, g0, g1⟩ := hRw2
  have b0 := hSw2.c 0
  have b1 := hSw2.c 1
  have b2 := hSw2.c 2
  have b3 := hSw2.c 3
  have b4 := hSw2.c 4
  have b5 := hSw2.c 5
  have b6 := hSw2.c 6
  have b7 := hSw2.c 7
  have b8 := hSw2.c 8
  simp only [stCells, List.getElem?_cons_zero, List.getElem?_cons_succ] at b0 b1 b2 b3 b4 b5 b6 b7 b8
  clear hBB hB
  go_wp2
  have hst := (Boxed.store ⟨r0, r1, g0, g1⟩ ⟨#[]⟩ ⟨#[]⟩).alloc (Obj.cells #[.string (bs c1.1), .string (bs c1.2)] 74)
  have q0 := hst.c0
  have q1 := hst.c1
  refine bodyPost_ret (v := .agg #[.string ⟨#[]⟩, .string ⟨#[]⟩]) (by simp [results, Try.results65, go_sem, q0, q1]) rfl ⟨?_, ?_⟩
  · exact ⟨by unfold CkIs; rw [HK.out]; rfl, by show _ ∧ _; rw [HK.out]; exact ⟨Nat.zero_le _, Nat.zero_le _⟩⟩
  · exact ((hbw2.setCell (by show w.heap.size ≤ w.heap.size + 1; omega) _).setCell (by show w.heap.size ≤ w.heap.size + 1; omega) _).alloc (by simp [World.setCell]; omega) _

theorem clockOf_any (qs : List (St × Value)) (p : Option Addr) (cap : Nat) (s : St) (up : Option Addr) (uc : Nat) (w : World) (hr : RS w p qs)
    (hu : Reads w (.slice up s.uses.length uc) 1 s.uses.length (ints s.uses)) (hul : s.uses.length ≤ 1048575) (hux : ∀ x ∈ s.uses, x < qs.length) (hk : s.kind ≤ 13) (hok : CkOk 1048576 (qs.map Prod.fst)) (hw : s.kind = 10 → Wok 1048576 s.wd) :
    Calls Try.prog 65 #[.slice p qs.length cap, .agg #[.int .i64 s.no, .int .i64 s.kind, .string (S s.name), .slice up s.uses.length uc, .int .i64 s.num, .string (bs s.wd.1), .string (bs s.wd.2), .string (bs s.ck.1), .string (bs s.ck.2)]] w
      fun e w' => (CkIs (ckOf (qs.map Prod.fst) s) e ∧ Hid ((ckOf (qs.map Prod.fst) s).1.length ≤ 2199023255552 ∧ (ckOf (qs.map Prod.fst) s).2.length ≤ 2199023255552)) ∧ Below w.heap.size w w' := by
  cases hev : isEv s.kind with
  | true =>
    refine (clockOf_even qs p cap s up uc w hr hu hul hux hk hev).mono ?_
    rintro e w' ⟨h1, h2⟩
    refine ⟨⟨h1, ?_⟩, h2⟩
    show _ ∧ _
    have : ckOf (qs.map Prod.fst) s = fcL (qs.map Prod.fst) s := by unfold ckOf; rw [if_pos hev]
    rw [this]
    have := fcL_ok hok s
    exact ⟨by omega, by omega⟩
  | false =>
    by_cases h10 : s.kind = 10
    · exact clockOf_when qs p cap s up uc w hr hu hux hk hev hok h10 (hw h10)
    by_cases h11 : s.kind = 11
    · exact clockOf_merge qs p cap s up uc w hr hu hux hk hev hok h11
    · exact clockOf_other qs p cap s up uc w hr hu hux hk hev hok h10 h11
end Go.Proofs.Ytfbkjopidjojeab

namespace Go.Proofs.Ytfbkjopidjojeab
open Go.RowKit

/-- The clock that the line itself says. -/
def give (s : St) : St := if isGv s.kind then { s with ck := s.wd } else s
def longW (c : Wd) : Bool := decide (64 < c.1.length) || decide (64 < c.2.length)
/-- One place of one time through. -/
def tick (qs : List St) (k : Nat) (more : Bool) : Except Flt (List St × Bool) := match qs[k]? with
  | none => .ok (qs, more)
  | some s => if hasC s.ck then .ok (qs, more)
    else if longW (ckOf qs s) then .error (2, s.no)
    else if hasC (ckOf qs s) then .ok (qs.set k { s with ck := ckOf qs s }, true)
    else .ok (qs, more)
/-- The places from k on, n of them. -/
def pass : Nat → List St → Nat → Bool → Except Flt (List St × Bool)
  | 0, qs, _, more => .ok (qs, more)
  | n + 1, qs, k, more => match tick qs k more with
    | .error f => .error f
    | .ok r => pass n r.1 (k + 1) r.2
/-- Again and again. -/
def solveL : Nat → List St → Except Flt (List St)
  | 0, qs => .ok qs
  | f + 1, qs => match pass qs.length qs 0 false with
    | .error e => .error e
    | .ok r => if r.2 then solveL f r.1 else .ok r.1
/-- How many have no clock yet. -/
def unc (qs : List St) : Nat := qs.countP fun s => !hasC s.ck
theorem unc_le (qs : List St) : unc qs ≤ qs.length := List.countP_le_length
theorem unc_set {qs : List St} {k : Nat} {s : St} {c : Wd} (hs : qs[k]? = some s) (h0 : hasC s.ck = false) (hc : hasC c = true) : unc (qs.set k { s with ck := c }) + 1 = unc qs := by
  induction qs generalizing k with
  | nil => simp at hs
  | cons a r ih =>
    cases k with
    | zero =>
      simp at hs
      subst hs
      simp [unc, h0, hc]
    | succ k =>
      have := ih (k := k) (by simpa using hs)
      simp only [unc, List.set_cons_succ, List.countP_cons] at this ⊢
      omega

/-- What is known of a step but for its clock. -/
structure WfS (n : Nat) (s : St) : Prop where
  use : ∀ x ∈ s.uses, x < n
  len : s.uses.length ≤ 1048575
  kind : s.kind ≤ 13
  wd : s.wd.1.length ≤ 12 ∧ s.wd.2.length ≤ 12
  has : s.kind = 10 ∨ s.kind = 11 ∨ isGv s.kind = true → s.wd.2 ≠ []
theorem WfS.ck {n : Nat} {s : St} (h : WfS n s) (c : Wd) : WfS n { s with ck := c } := ⟨h.use, h.len, h.kind, h.wd, h.has⟩
def Wf (qs : List St) : Prop := ∀ s ∈ qs, WfS qs.length s
theorem Wf.set {qs : List St} (h : Wf qs) {k : Nat} {s : St} (hs : qs[k]? = some s) (c : Wd) : Wf (qs.set k { s with ck := c }) := by
  intro t ht
  rw [List.length_set]
  rcases List.mem_or_eq_of_mem_set ht with h1 | h1
  · exact h t h1
  · rw [h1]; exact (h s (List.mem_of_getElem? hs)).ck c
theorem CkOk.set {n : Nat} {qs : List St} (h : CkOk n qs) {k : Nat} {s : St} {c : Wd} (hc : c.1.length ≤ n ∧ c.2.length ≤ n) : CkOk n (qs.set k { s with ck := c }) := by
  intro t ht
  rcases List.mem_or_eq_of_mem_set ht with h1 | h1
  · exact h t h1
  · rw [h1]; exact hc

theorem stRows_set (qs : List (St × Value)) : ∀ (k : Nat) (h : k < qs.length) (c : Wd), ((stRows qs).set (k * 9 + 7) (.string (bs c.1))).set (k * 9 + 8) (.string (bs c.2)) = stRows (qs.set k ({ qs[k].1 with ck := c }, qs[k].2)) := by
  induction qs with
  | nil => intro k h; simp at h
  | cons p ps ih =>
    intro k h c
    have e : ∀ (a : St × Value) (l : List (St × Value)), stRows (a :: l) = stCells a.1 a.2 ++ stRows l := fun a l => by simp [stRows]
    cases k with
    | zero =>
      rw [e, List.set_cons_zero, e]
      rw [List.set_append_left _ _ (by simp [stCells]), List.set_append_left _ _ (by simp [stCells])]
      rfl
    | succ k =>
      rw [e, List.set_cons_succ, e]
      rw [List.set_append_right _ _ (by simp [stCells]; omega), List.set_append_right _ _ (by simp [stCells]; omega)]
      have l9 : (stCells p.1 p.2).length = 9 := rfl
      have a1 : (k + 1) * 9 + 7 - (stCells p.1 p.2).length = k * 9 + 7 := by rw [l9]; omega
      have a2 : (k + 1) * 9 + 8 - (stCells p.1 p.2).length = k * 9 + 8 := by rw [l9]; omega
      rw [a1, a2, ih k (by simpa using h) c]
      simp

/-- A clock is written. -/
theorem StepsAt.store {w : World} {B g cap : Nat} {qs : List (St × Value)} (h : StepsAt w B (.slice (some ⟨g, 0, none⟩) qs.length cap) qs) {k : Nat} (hk : k < qs.length) (c : Wd) :
    StepsAt ((w.setCell ⟨g, k * 9 + 7, none⟩ (.string (bs c.1))).setCell ⟨g, k * 9 + 8, none⟩ (.string (bs c.2))) B (.slice (some ⟨g, 0, none⟩) (qs.set k ({ qs[k].1 with ck := c }, qs[k].2)).length cap) (qs.set k ({ qs[k].1 with ck := c }, qs[k].2)) := by
  obtain ⟨h1, g1⟩ := h.1.stored (k * 9 + 7) (.string (bs c.1))
  obtain ⟨h2, g2⟩ := h1.stored (k * 9 + 8) (.string (bs c.2))
  rw [stRows_set qs k hk c] at h2
  refine ⟨by rw [List.length_set]; exact h2, fun p hp => ?_⟩
  have hold : ∀ q ∈ qs, ((w.setCell ⟨g, k * 9 + 7, none⟩ (.string (bs c.1))).setCell ⟨g, k * 9 + 8, none⟩ (.string (bs c.2))).ownsRow B 3 1 q.2 q.1.uses.length (ints q.1.uses) := fun q hq => by
    have a1 := (h.2 q hq).kept g1 (own_ne (h.2 q hq) h.1 (by decide))
    exact a1.kept g2 (own_ne a1 h1 (by decide))
  rcases List.mem_or_eq_of_mem_set hp with hp | hp
  · exact hold p hp
  · rw [hp]; exact hold qs[k] (List.getElem_mem _)
theorem StepsAt.below {w w' : World} {B : Nat} {v : Value} {qs : List (St × Value)} (h : StepsAt w B v qs) (hb : Below w.heap.size w w') : StepsAt w' B v qs := ⟨ownsRow_below h.1 hb, fun p hp => ownsRow_below (h.2 p hp) hb⟩
theorem StepsAt.frz {w : World} {B g n cap : Nat} {qs : List (St × Value)} (h : StepsAt w B (.slice (some ⟨g, 0, none⟩) n cap) qs) (hn : n = qs.length) (j : Nat) : w.frozen? ⟨g, j, none⟩ = false := by
  subst hn; exact h.1.frozenAt j
theorem StepsAt.cel {w : World} {B g n cap : Nat} {qs : List (St × Value)} (h : StepsAt w B (.slice (some ⟨g, 0, none⟩) n cap) qs) (hn : n = qs.length) {k : Nat} (hk : k < qs.length) (j : Nat) (hj : j < 9) : w.cell? ⟨g, k * 9 + j, none⟩ = (stCells qs[k].1 qs[k].2)[j]? := by
  subst hn
  have := h.1.cellAt (k * 9 + j) (by omega)
  rw [this, stRows_get qs k j hk hj]
theorem FltB.other {w : World} {b c j : Nat} {x y : Int} (h : FltB w b x y) (hc : b ≠ c) (v : Value) : FltB (w.setCell ⟨c, j, none⟩ v) b x y := by
  unfold FltB; rw [heap_setCell_other w ⟨c, j, none⟩ b v hc]; exact h
theorem map_set_fst {α β : Type} (l : List (α × β)) (k : Nat) (a : α × β) : (l.set k a).map Prod.fst = (l.map Prod.fst).set k a.1 := by rw [List.map_set]

/-- What stands while findClocks goes on. -/
structure FC (w : World) (B g n cap : Nat) (wr : World) (qs : List (St × Value)) : Prop where
  len : qs.length = n
  at_ : StepsAt wr B (.slice (some ⟨g, 0, none⟩) n cap) qs
  flt : FltB wr w.heap.size 0 0
  bel : Below B w wr
  sz : w.heap.size < wr.heap.size
  gl : g < w.heap.size
  gb : B ≤ g
  wf : Wf (qs.map Prod.fst)
  ok : CkOk 64 (qs.map Prod.fst)
theorem FC.below {w wr w' : World} {B g n cap : Nat} {qs : List (St × Value)} (h : FC w B g n cap wr qs) (hb : Below wr.heap.size wr w') : FC w B g n cap w' qs := by
  have hz := hb.size
  have := h.sz; have := h.gl; have := h.gb
  exact ⟨h.len, h.at_.below hb, h.flt.below hb h.sz, h.bel.trans (hb.mono (by omega)), by omega, h.gl, h.gb, h.wf, h.ok⟩
theorem FC.set {w wr : World} {B g n cap : Nat} {qs : List (St × Value)} (h : FC w B g n cap wr qs) {k : Nat} (hk : k < qs.length) (c : Wd) (hc : c.1.length ≤ 64 ∧ c.2.length ≤ 64) :
    FC w B g n cap ((wr.setCell ⟨g, k * 9 + 7, none⟩ (.string (bs c.1))).setCell ⟨g, k * 9 + 8, none⟩ (.string (bs c.2))) (qs.set k ({ qs[k].1 with ck := c }, qs[k].2)) := by
  have hg := h.gl
  have hat := h.at_
  have hget : (qs.map Prod.fst)[k]? = some qs[k].1 := by simp [hk]
  rw [← h.len] at hat
  refine ⟨by rw [List.length_set]; exact h.len, ?_, (h.flt.other (by omega) _).other (by omega) _, (h.bel.setCell h.gb _).setCell h.gb _, by simp [World.setCell]; exact h.sz, h.gl, h.gb, ?_, ?_⟩
  · have := hat.store hk c
    rw [List.length_set, h.len] at this
    exact this
  · rw [map_set_fst]; exact h.wf.set hget c
  · rw [map_set_fst]; exact h.ok.set hc
end Go.Proofs.Ytfbkjopidjojeab

namespace Go.Proofs.Ytfbkjopidjojeab
open Go.RowKit

theorem give_no {s : St} (h : isGv s.kind = false) : give s = s := by simp [give, h]
theorem give_yes {s : St} (h : isGv s.kind = true) : give s = { s with ck := s.wd } := by simp [give, h]
/-- How far the clocks are given. -/
def GvAt (o : List St) (k : Nat) (qs : List (St × Value)) : Prop := qs.map Prod.fst = (o.take k).map give ++ o.drop k
theorem GvAt.get {o : List St} {k : Nat} {qs : List (St × Value)} (h : GvAt o k qs) (hk : k < qs.length) (hl : qs.length = o.length) : o[k]? = some qs[k].1 := by
  have e : (qs.map Prod.fst)[k]? = some qs[k].1 := by simp [hk]
  rw [h, List.getElem?_append_right (by simp; omega)] at e
  rw [List.getElem?_drop] at e
  rw [← e]; congr 1; simp; omega
theorem GvAt.step {o : List St} {k : Nat} {qs : List (St × Value)} (h : GvAt o k qs) (hk : k < qs.length) (hl : qs.length = o.length) (a : St × Value) (ha : a.1 = give qs[k].1) : GvAt o (k + 1) (qs.set k a) := by
  have hg := h.get hk hl
  have hko : k < o.length := by omega
  unfold GvAt at h ⊢
  have hok : o[k] = qs[k].1 := by rw [List.getElem?_eq_getElem hko] at hg; injection hg
  have hd : o.drop k = o[k] :: o.drop (k + 1) := List.drop_eq_getElem_cons hko
  have hlen : ((o.take k).map give).length = k := by simp; omega
  rw [map_set_fst, h, hd, List.set_append_right _ _ (by rw [hlen]; exact Nat.le_refl _), hlen, Nat.sub_self, List.set_cons_zero, ha, take_one hko, List.map_append, ← hok]
  simp
theorem GvAt.same {o : List St} {k : Nat} {qs : List (St × Value)} (h : GvAt o k qs) (hk : k < qs.length) (hl : qs.length = o.length) (hg : isGv qs[k].1.kind = false) : GvAt o (k + 1) qs := by
  have := h.step hk hl qs[k] (give_no hg).symm
  rwa [List.set_getElem_self] at this

/-- How far one time through has come. -/
def PsAt (o : List St) (qs : List St) (k : Nat) (m : Bool) : Prop := pass o.length o 0 false = pass (o.length - k) qs k m ∧ unc qs ≤ unc o ∧ (m = true → unc qs + 1 ≤ unc o)
theorem PsAt.start (o : List St) : PsAt o o 0 false := ⟨by rw [Nat.sub_zero], Nat.le_refl _, fun h => by cases h⟩
theorem PsAt.next {o qs qs' : List St} {k : Nat} {m m' : Bool} (h : PsAt o qs k m) (hk : k < o.length) (ht : tick qs k m = .ok (qs', m')) (hu : unc qs' ≤ unc qs) (hm : m' = true → m = true ∨ unc qs' + 1 ≤ unc qs) : PsAt o qs' (k + 1) m' := by
  obtain ⟨h1, h2, h3⟩ := h
  obtain ⟨n, hn⟩ : ∃ n, o.length - k = n + 1 := ⟨o.length - k - 1, by omega⟩
  rw [hn, pass, ht] at h1
  refine ⟨by rw [h1, show o.length - (k + 1) = n by omega], by omega, fun e => ?_⟩
  rcases hm e with g | g
  · have := h3 g; omega
  · omega
theorem PsAt.err {o qs : List St} {k : Nat} {m : Bool} {f : Flt} (h : PsAt o qs k m) (hk : k < o.length) (ht : tick qs k m = .error f) : pass o.length o 0 false = .error f := by
  obtain ⟨h1, h2, h3⟩ := h
  obtain ⟨n, hn⟩ : ∃ n, o.length - k = n + 1 := ⟨o.length - k - 1, by omega⟩
  rw [hn, pass, ht] at h1
  exact h1
theorem PsAt.fin {o qs : List St} {k : Nat} {m : Bool} (h : PsAt o qs k m) (hk : ¬ k < o.length) : pass o.length o 0 false = .ok (qs, m) := by
  rw [h.1, show o.length - k = 0 by omega]; rfl

theorem own_set_other {w : World} {B : Nat} {e : TypeId} {size : Nat} {v : Value} {n : Nat} {xs : List Value} (h : w.ownsRow B e size v n xs) {a : Addr} (ha : v.ownBlock ≠ some a.block) (u : Value) : (w.setCell a u).ownsRow B e size v n xs :=
  h.kept (row := some a.block) ⟨rfl, rfl, rfl, by simp [World.setCell], fun k _ hk => heap_setCell_other w a k u (fun e => hk (by rw [e]))⟩ (.inr ha)
theorem own_set_flt {w : World} {B : Nat} {e : TypeId} {size : Nat} {v : Value} {n : Nat} {xs : List Value} (h : w.ownsRow B e size v n xs) {b j : Nat} {cs : Array Value} {t : TypeId} {fr : Nat × Nat} (hf : w.heap[b]? = some (.cells cs t fr)) (he : e ≠ t) (u : Value) : (w.setCell ⟨b, j, none⟩ u).ownsRow B e size v n xs := by
  rcases h.2 with ⟨rfl, _⟩ | ⟨g, cap, cur, rfl, _, hg, _⟩
  · exact own_set_other h (by simp [Value.ownBlock]) _
  · refine own_set_other h ?_ _
    simp only [Value.ownBlock, ne_eq, Option.some.injEq]
    intro hgb
    have hgb : g = b := hgb
    subst hgb
    rw [hf] at hg
    injection hg with hg
    injection hg with _ h2 _
    exact he h2.symm
theorem FltB.keep {w : World} {b : Nat} {x y z : Int} (h : FltB w b x y) : (w.setCell ⟨b, 0, none⟩ (.int .i64 z)).heap[b]? = some (.cells #[.int .i64 z, .int .i64 y] 30 (0, 0)) := by
  have h1 : w.heap[b]? = some (.cells [Value.int .i64 x, .int .i64 y].toArray 30 (0, 0)) := h
  exact blk_set (j := 0) h1 (.int .i64 z)

theorem StepsAt.rs' {w : World} {B g n cap : Nat} {qs : List (St × Value)} (h : StepsAt w B (.slice (some ⟨g, 0, none⟩) n cap) qs) (hn : n = qs.length) : RS w (some ⟨g, 0, none⟩) qs :=
  ⟨.inr ⟨g, rfl, (h.1.lt g rfl).2, fun _ hk j hj => h.cel hn hk j hj⟩, fun q hq => Reads.of (h.2 q hq)⟩
theorem CkOk.mono {n m : Nat} {qs : List St} (h : CkOk n qs) (hm : n ≤ m) : CkOk m qs := fun s hs => ⟨Nat.le_trans (h s hs).1 hm, Nat.le_trans (h s hs).2 hm⟩

/-- What findClocks gives. -/
def FindIs (B : Nat) (v : Value) (o : Except Flt (List St)) (e : Ending) (w' : World) : Prop :=
  (∃ f, o = .error f ∧ FltIs f e) ∨ ∃ qs, o = .ok (qs.map Prod.fst) ∧ FltIs (0, 0) e ∧ StepsAt w' B v qs ∧ CkOk 64 (qs.map Prod.fst) ∧ Wf (qs.map Prod.fst)

set_option maxRecDepth 50000 in
set_option maxHeartbeats 1000000 in
theorem findClocks_nil (p : Option Addr) (cap : Nat) (w : World) :
    Calls Try.prog 44 #[.slice p 0 cap] w fun e w' => FltIs (0, 0) e ∧ Below w.heap.size w w' := by
  have hf := G1_f w
  obtain ⟨fc0, fc1, ff0, ff1⟩ := hf.c
  go_enter Try.func44, Try.ntmps44
  go_wp2
  go_loopw [3] (fun i wr => i = .int .i64 0 ∧ wr = G1 w) (fun _ _ => 0)
  case atStart => exact ⟨rfl, rfl⟩
  case round =>
    obtain ⟨rfl, rfl⟩ := hrel
    go_wp2
    go_loopg [4] 1 (fun gk m wr => ∃ b : Bool, m = .bool b ∧ (b = true → 1 ≤ gk) ∧ wr = G1 w)
    case atStart => exact ⟨true, rfl, fun _ => Nat.le_refl _, rfl⟩
    case round =>
      obtain ⟨b, rfl, hb, rfl⟩ := hrel
      cases b with
      | false =>
        go_wp2
        have q0 := (hf.set 0 0).c.1
        have q1 := (hf.set 0 0).c.2.1
        refine bodyPost_ret (v := .agg #[.int .i64 0, .int .i64 0]) (by simp [results, Try.results44, go_sem, q0, q1]) rfl ⟨rfl, ?_⟩
        exact (((G1_below w).setCell (Nat.le_refl _) _).setCell (Nat.le_refl _) _)
      | true =>
        have hb1 := hb rfl
        go_wp2
        go_loopw [4, 5] (fun m i wr => m = .bool false ∧ i = .int .i64 0 ∧ wr = G1 w) (fun _ _ _ => 0)
        case atStart => exact ⟨rfl, rfl, rfl⟩
        case round =>
          obtain ⟨rfl, rfl, rfl⟩ := hrel
          go_wp2
          go_roundg 0
          case measure => omega
          case rel => exact ⟨false, rfl, (fun h => by cases h), rfl⟩

set_option maxRecDepth 50000 in
set_option maxHeartbeats 2000000 in
theorem findClocks_any (qs0 : List (St × Value)) (O : List St) (B g cap n : Nat) (w : World) (hO : (qs0.map Prod.fst).map give = O) (hn0 : 0 < n) (hn : n ≤ 24) (hlen : qs0.length = n) (hat : StepsAt w B (.slice (some ⟨g, 0, none⟩) n cap) qs0) (hB : B ≤ w.heap.size) (hwf : Wf (qs0.map Prod.fst)) (hok : CkOk 64 (qs0.map Prod.fst)) :
    Calls Try.prog 44 #[.slice (some ⟨g, 0, none⟩) n cap] w fun e w' => FindIs B (.slice (some ⟨g, 0, none⟩) n cap) (solveL (n + 1) O) e w' ∧ Below B w w' := by
  have HO : Hid (O = (qs0.map Prod.fst).map give) := hO.symm
  clear hO
  obtain ⟨hg1, hg2⟩ := hat.1.lt g rfl
  have HML : Hid ((qs0.map Prod.fst).length = n) := by show (qs0.map Prod.fst).length = n; simp [hlen]
  have H0 : Hid (FC w B g n cap (G1 w) qs0) := ⟨hlen, hat.below (G1_below w), G1_f w, (G1_below w).mono hB, by rw [G1_size]; omega, hg2, hg1, hwf, hok⟩
  clear hat hwf hok hlen
  go_enter Try.func44, Try.ntmps44
  go_wp2
  go_loopw [3] (fun i wr => ∃ (k : Nat) (qs : List (St × Value)), i = .int .i64 k ∧ k ≤ n ∧ Hid (GvAt (qs0.map Prod.fst) k qs) ∧ Hid (FC w B g n cap wr qs)) (fun i _ => n - (intOf i).toNat)
  case atStart => exact ⟨0, qs0, rfl, Nat.zero_le _, by show _ = _; simp, H0⟩
  case round =>
    obtain ⟨k, qs, rfl, hk, HG, HF⟩ := hrel
    by_cases hlt : k < n
    · have hF := HF.out
      have hkq : k < qs.length := by rw [hF.len]; exact hlt
      have c1 := hF.at_.cel hF.len.symm hkq 1 (by omega)
      have c5 := hF.at_.cel hF.len.symm hkq 5 (by omega)
      have c6 := hF.at_.cel hF.len.symm hkq 6 (by omega)
      have c7 := hF.at_.cel hF.len.symm hkq 7 (by omega)
      have c8 := hF.at_.cel hF.len.symm hkq 8 (by omega)
      simp only [stCells, List.getElem?_cons_zero, List.getElem?_cons_succ] at c1 c5 c6 c7 c8
      have f7 := hF.at_.frz hF.len.symm (k * 9 + 7)
      have f8 := hF.at_.frz hF.len.symm (k * 9 + 8)
      have hkind : qs[k].1.kind ≤ 13 := (hF.wf qs[k].1 (by simp; exact ⟨_, List.getElem_mem _⟩)).kind
      cases hgv : isGv qs[k].1.kind with
      | true =>
        have HG2 : Hid (GvAt (qs0.map Prod.fst) (k + 1) (qs.set k ({ qs[k].1 with ck := qs[k].1.wd }, qs[k].2))) := HG.out.step hkq (by rw [hF.len, HML.out]) _ (give_yes hgv).symm
        have hwd := (hF.wf qs[k].1 (by simp; exact ⟨_, List.getElem_mem _⟩)).wd
        have HF2 : Hid (FC w B g n cap _ _) := hF.set hkq qs[k].1.wd ⟨by omega, by omega⟩
        clear hF
        go_wp2_with (go_at_call 63; refine (isGiven_any qs[k].1.kind _ (by omega)).mono ?_; rintro e w1 ⟨hE, hw1⟩; subst hE; subst w1)
        go_roundw
        case rel => exact ⟨k + 1, _, by go_num, by omega, HG2, HF2⟩
        case measure => simp [intOf]; omega
      | false =>
        have HG2 : Hid (GvAt (qs0.map Prod.fst) (k + 1) qs) := HG.out.same hkq (by rw [hF.len, HML.out]) hgv
        clear hF
        go_wp2_with (go_at_call 63; refine (isGiven_any qs[k].1.kind _ (by omega)).mono ?_; rintro e w1 ⟨hE, hw1⟩; subst hE; subst w1)
        go_roundw
        case rel => exact ⟨k + 1, qs, by go_num, by omega, HG2, HF⟩
        case measure => simp [intOf]; omega
    · have hke : k = n := by omega
      have hgd : qs.map Prod.fst = O := by
        have := HG.out
        unfold GvAt at this
        rw [HO.out, this, List.take_of_length_le (by rw [HML.out]; omega), List.drop_of_length_le (by rw [HML.out]; omega)]; simp
      have HGD : Hid (qs.map Prod.fst = O) := hgd
      clear HG hgd H0 hke
      go_wp2
      go_loopg [4] (n + 1) (fun gk m wr => ∃ (b : Bool) (qs : List (St × Value)), m = .bool b ∧ Hid (FC w B g n cap wr qs) ∧ Hid ((b = true → unc (qs.map Prod.fst) + 1 ≤ gk ∧ solveL (n + 1) O = solveL gk (qs.map Prod.fst)) ∧ (b = false → solveL (n + 1) O = .ok (qs.map Prod.fst))))
      case atStart => exact ⟨true, qs, rfl, HF, fun _ => ⟨by have := unc_le (qs.map Prod.fst); rw [List.length_map, HF.out.len] at this; omega, by rw [HGD.out]⟩, fun h => by cases h⟩
      case round =>
        clear HF HGD
        obtain ⟨b, qs, rfl, HF, HS⟩ := hrel
        cases b with
        | false =>
          have hF := HF.out
          obtain ⟨fc0, fc1, ff0, ff1⟩ := hF.flt.c
          have hsol := HS.out.2 rfl
          have HSol : Hid (solveL (n + 1) O = .ok (qs.map Prod.fst)) := hsol
          clear hF hsol
          go_wp2
          have q0 := (HF.out.flt.set 0 0).c.1
          have q1 := (HF.out.flt.set 0 0).c.2.1
          refine bodyPost_ret (v := .agg #[.int .i64 0, .int .i64 0]) (by simp [results, Try.results44, go_sem, q0, q1]) rfl ⟨?_, ?_⟩
          · have hF := HF.out
            refine .inr ⟨qs, HSol.out, rfl, ?_, hF.ok, hF.wf⟩
            have hgw := hF.gl
            exact ⟨own_set_other (own_set_other hF.at_.1 (by simp only [Value.ownBlock]; intro h; injection h with h; have h : g = w.heap.size := h; omega) _) (by simp only [Value.ownBlock]; intro h; injection h with h; have h : g = w.heap.size := h; omega) _, fun p hp => own_set_flt (own_set_flt (hF.at_.2 p hp) hF.flt (by decide) _) (FltB.keep hF.flt) (by decide) _⟩
          · exact (HF.out.bel.setCell (by show B ≤ w.heap.size; omega) _).setCell (by show B ≤ w.heap.size; omega) _
        | true =>
          have HS2 : Hid (unc (qs.map Prod.fst) + 1 ≤ gk ∧ solveL (n + 1) O = solveL gk (qs.map Prod.fst)) := HS.out.1 rfl
          clear HS
          go_wp2
          have hoL : (qs.map Prod.fst).length = n := by rw [List.length_map]; exact HF.out.len
          have HOL : Hid ((qs.map Prod.fst).length = n) := hoL
          clear hoL
          rename World => W1
          go_loopw [4, 5] (fun m i wr => ∃ (k : Nat) (b : Bool) (rs : List (St × Value)), m = .bool b ∧ i = .int .i64 k ∧ k ≤ n ∧ Hid (PsAt (qs.map Prod.fst) (rs.map Prod.fst) k b) ∧ Hid (FC w B g n cap wr rs)) (fun _ i _ => n - (intOf i).toNat)
          case atStart => exact ⟨0, false, qs, rfl, rfl, Nat.zero_le _, PsAt.start _, HF⟩
          case round =>
            clear HF
            obtain ⟨k, b, rs, rfl, rfl, hk, HP, HF⟩ := hrel
            by_cases hlt : k < n
            · have hF := HF.out
              have hkr : k < rs.length := by rw [hF.len]; exact hlt
              obtain ⟨⟨s, u⟩, hq⟩ : ∃ q, rs[k] = q := ⟨_, rfl⟩
              have hmem : (s, u) ∈ rs := by rw [← hq]; exact List.getElem_mem _
              have hget : (rs.map Prod.fst)[k]? = some s := by simp [hkr, hq]
              have c0 := hF.at_.cel hF.len.symm hkr 0 (by omega)
              have c1 := hF.at_.cel hF.len.symm hkr 1 (by omega)
              have c2 := hF.at_.cel hF.len.symm hkr 2 (by omega)
              have c3 := hF.at_.cel hF.len.symm hkr 3 (by omega)
              have c4 := hF.at_.cel hF.len.symm hkr 4 (by omega)
              have c5 := hF.at_.cel hF.len.symm hkr 5 (by omega)
              have c6 := hF.at_.cel hF.len.symm hkr 6 (by omega)
              have c7 := hF.at_.cel hF.len.symm hkr 7 (by omega)
              have c8 := hF.at_.cel hF.len.symm hkr 8 (by omega)
              rw [hq] at c0 c1 c2 c3 c4 c5 c6 c7 c8
              simp only [stCells, List.getElem?_cons_zero, List.getElem?_cons_succ, Nat.add_zero] at c0 c1 c2 c3 c4 c5 c6 c7 c8
              have hrd := Reads.of (hF.at_.2 (s, u) hmem)
              obtain ⟨_, up, uc, hue, _, _⟩ := hrd
              simp only at hue
              subst hue
              have hws := hF.wf s (List.mem_of_getElem? hget)
              rw [List.length_map, hF.len] at hws
              have HGet : Hid ((rs.map Prod.fst)[k]? = some s) := hget
              clear hget
              have hgs := hF.gl
              have hsz := hF.sz
              cases hh : s.ck.2.isEmpty with
              | false =>
                have HT : Hid (tick (rs.map Prod.fst) k b = .ok (rs.map Prod.fst, b)) := by
                  show tick _ _ _ = _
                  unfold tick; rw [HGet.out]; simp [hasC, hh]
                have HP2 : Hid (PsAt (qs.map Prod.fst) (rs.map Prod.fst) (k + 1) b) := HP.out.next (by rw [HOL.out]; exact hlt) HT.out (Nat.le_refl _) (fun h => .inl h)
                clear hF
                go_wp2_with (go_at_call 64; refine (None_any s.ck.1 s.ck.2 _).mono ?_; rintro e w1 ⟨hK, hb1⟩; subst hK)
                go_roundw
                case rel => exact ⟨k + 1, b, rs, rfl, by go_num, by omega, HP2, HF.out.below hb1⟩
                case measure => simp [intOf]; omega
              | true =>
                have hckl := hF.ok s (List.mem_of_getElem? HGet.out)
                obtain ⟨c, hc⟩ : ∃ c, ckOf (rs.map Prod.fst) s = c := ⟨_, rfl⟩
                have HT0 : Hid (tick (rs.map Prod.fst) k b = if longW c then .error (2, s.no) else if hasC c then .ok ((rs.map Prod.fst).set k { s with ck := c }, true) else .ok (rs.map Prod.fst, b)) := by
                  show tick _ _ _ = _
                  unfold tick; rw [HGet.out]; simp [hasC, hh, hc]
                go_wp2_with (go_at_call 64; refine (None_any s.ck.1 s.ck.2 _).mono ?_; rintro e w1 ⟨hK, hb1⟩; subst hK; rw [hh]; have hF1 := HF.out.below hb1; have d0 := hF1.at_.cel hF1.len.symm hkr 0 (by omega); have d1 := hF1.at_.cel hF1.len.symm hkr 1 (by omega); have d2 := hF1.at_.cel hF1.len.symm hkr 2 (by omega); have d3 := hF1.at_.cel hF1.len.symm hkr 3 (by omega); have d4 := hF1.at_.cel hF1.len.symm hkr 4 (by omega); have d5 := hF1.at_.cel hF1.len.symm hkr 5 (by omega); have d6 := hF1.at_.cel hF1.len.symm hkr 6 (by omega); have d7 := hF1.at_.cel hF1.len.symm hkr 7 (by omega); have d8 := hF1.at_.cel hF1.len.symm hkr 8 (by omega); rw [hq] at d0 d1 d2 d3 d4 d5 d6 d7 d8; simp only [stCells, List.getElem?_cons_zero, List.getElem?_cons_succ, Nat.add_zero] at d0 d1 d2 d3 d4 d5 d6 d7 d8)
                have hcall := clockOf_any rs (some ⟨g, 0, none⟩) cap s up uc w1 (hF1.at_.rs' hF1.len.symm) (Reads.of (hF1.at_.2 _ hmem)) hws.len (fun x hx => by rw [hF1.len]; exact hws.use x hx) hws.kind (hF1.ok.mono (by omega)) (fun h10 => ⟨hws.has (.inl h10), by have := hws.wd; omega, by have := hws.wd; omega⟩)
                rw [hF1.len, hc] at hcall
                refine hcall.mono ?_
                rintro e w2 ⟨⟨hK, HLen⟩, hb2⟩
                unfold CkIs at hK
                subst hK
                have hF2 := hF1.below hb2
                have hbx : Below w2.heap.size w2 (w2.alloc (Obj.cells #[.string (bs c.1), .string (bs c.2)] 74)) := (Below.refl _ _).alloc (Nat.le_refl _) _
                have hF2' := hF2.below hbx
                have hbox := Boxed.new w2 _ (bs c.1) (bs c.2) 74 rfl
                have hl1 : (bs c.1).size ≤ 1152921504606846976 := by rw [bs_size]; have := HLen.out.1; omega
                have hl2 : (bs c.2).size ≤ 1152921504606846976 := by rw [bs_size]; have := HLen.out.2; omega
                have hlw : (decide (64 < (bs c.1).size) || decide (64 < (bs c.2).size)) = longW c := by rw [bs_size, bs_size]; rfl
                clear hcall c0 c1 c2 c3 c4 c5 c6 c7 c8 d0 d1 d2 d3 d4 d5 d6 d7 d8 hc hF
                cases hlong : longW c with
                | true =>
                  have HT : Hid (pass (qs.map Prod.fst).length (qs.map Prod.fst) 0 false = .error (2, s.no)) := HP.out.err (by rw [HOL.out]; exact hlt) (by rw [HT0.out, hlong]; rfl)
                  have HSol : Hid (solveL (n + 1) O = .error (2, s.no)) := by
                    show solveL _ _ = _
                    rw [HS2.out.2]
                    obtain ⟨f, hf⟩ : ∃ f, gk = f + 1 := ⟨gk - 1, by have := HS2.out.1; omega⟩
                    rw [hf, solveL, HT.out]
                  go_wp2_with (go_at_call 66; refine (Long_any (bs c.1) (bs c.2) _ hl1 hl2).mono ?_; rintro e w3 ⟨hK, hb3⟩; rw [hlw, hlong] at hK; subst hK; have hF3 := hF2'.below hb3; have d0 := hF3.at_.cel hF3.len.symm hkr 0 (by omega); rw [hq] at d0; simp only [stCells, List.getElem?_cons_zero, Nat.add_zero] at d0; obtain ⟨fc0, fc1, ff0, ff1⟩ := hF3.flt.c; have hsz3 := hF3.sz)
                  have q0 := (hF3.flt.set 2 s.no).c.1
                  have q1 := (hF3.flt.set 2 s.no).c.2.1
                  refine bodyPost_ret (v := .agg #[.int .i64 2, .int .i64 s.no]) (by simp [results, Try.results44, go_sem, q0, q1]) rfl ⟨?_, ?_⟩
                  · exact .inl ⟨(2, s.no), HSol.out, rfl⟩
                  · exact (hF3.bel.setCell (by show B ≤ w.heap.size; omega) _).setCell (by show B ≤ w.heap.size; omega) _
                | false =>
                  have hlc : c.1.length ≤ 64 ∧ c.2.length ≤ 64 := by
                    unfold longW at hlong
                    simp at hlong
                    omega
                  go_wp2_with (go_at_call 66; refine (Long_any (bs c.1) (bs c.2) _ hl1 hl2).mono ?_; rintro e w3 ⟨hK, hb3⟩; rw [hlw, hlong] at hK; subst hK; have hF3 := hF2'.below hb3; have hbox3 := hbox.below hb3 (by simp); obtain ⟨x0, x1, _, _⟩ := hbox3)
                  refine (None_any c.1 c.2 w3).mono ?_
                  rintro e w4 ⟨hK, hb4⟩
                  subst hK
                  have hF4 := hF3.below hb4
                  have hbox4 := (Boxed.below (B := w3.heap.size) ⟨x0, x1, by assumption, by assumption⟩ hb4 (by have := hb3.size; simp at this; omega))
                  obtain ⟨y0, y1, _, _⟩ := hbox4
                  cases hhc : c.2.isEmpty with
                  | true =>
                    have HP2 : Hid (PsAt (qs.map Prod.fst) (rs.map Prod.fst) (k + 1) b) := HP.out.next (by rw [HOL.out]; exact hlt) (by rw [HT0.out, hlong]; simp [hasC, hhc]) (Nat.le_refl _) (fun h => .inl h)
                    go_wp2
                    go_roundw
                    case rel => exact ⟨k + 1, b, rs, rfl, by go_num, by omega, HP2, hF4⟩
                    case measure => simp [intOf]; omega
                  | false =>
                    have hset := hF4.set hkr c hlc
                    rw [hq] at hset
                    have hu1 := unc_set (c := c) HGet.out (by simp [hasC, hh]) (by simp [hasC, hhc])
                    have HP2 : Hid (PsAt (qs.map Prod.fst) ((rs.set k ({ s with ck := c }, .slice up s.uses.length uc)).map Prod.fst) (k + 1) true) := by
                      show PsAt _ _ _ _
                      rw [map_set_fst]
                      exact HP.out.next (qs' := (rs.map Prod.fst).set k { s with ck := c }) (by rw [HOL.out]; exact hlt) (by rw [HT0.out, hlong]; simp [hasC, hhc]) (by omega) (fun _ => .inr (by omega))
                    have e7 := hF4.at_.cel hF4.len.symm hkr 7 (by omega)
                    have e8 := hF4.at_.cel hF4.len.symm hkr 8 (by omega)
                    rw [hq] at e7 e8
                    simp only [stCells, List.getElem?_cons_zero, List.getElem?_cons_succ] at e7 e8
                    have g7 := hF4.at_.frz hF4.len.symm (k * 9 + 7)
                    have g8 := hF4.at_.frz hF4.len.symm (k * 9 + 8)
                    clear hu1
                    go_wp2
                    go_roundw
                    case rel => exact ⟨k + 1, true, _, rfl, by go_num, by omega, HP2, hset⟩
                    case measure => simp [intOf]; omega
            · have HPf := HP.out.fin (by rw [HOL.out]; exact hlt)
              have HPf2 : Hid (pass (qs.map Prod.fst).length (qs.map Prod.fst) 0 false = .ok (rs.map Prod.fst, b)) := HPf
              obtain ⟨f, hf⟩ : ∃ f, gk = f + 1 := ⟨gk - 1, by have := HS2.out.1; omega⟩
              have hsol : solveL (n + 1) O = if b then solveL f (rs.map Prod.fst) else .ok (rs.map Prod.fst) := by
                rw [HS2.out.2, hf, solveL, HPf2.out]
              have hun := HP.out.2
              have HX : Hid ((b = true → unc (rs.map Prod.fst) + 1 ≤ f ∧ solveL (n + 1) O = solveL f (rs.map Prod.fst)) ∧ (b = false → solveL (n + 1) O = .ok (rs.map Prod.fst))) := by
                refine ⟨fun hb => ?_, fun hb => ?_⟩
                · rw [hb] at hsol
                  have := hun.2 hb
                  have := HS2.out.1
                  exact ⟨by omega, hsol⟩
                · rw [hb] at hsol; exact hsol
              have hfl : f < gk := by omega
              clear HPf hsol hun hf
              go_wp2
              go_roundg f
              case measure => exact hfl
              case rel => exact ⟨b, rs, rfl, HF, HX⟩
end Go.Proofs.Ytfbkjopidjojeab

namespace Go.Proofs.Ytfbkjopidjojeab
open Go.RowKit

def fitEv (qs : List St) (s : St) : Bool := (List.range s.uses.length).all fun n => ucL qs s n == s.ck
def fitMg (qs : List St) (s : St) : Bool := onW s.ck s.wd == ucL qs s 0 && onW s.ck (notW s.wd) == ucL qs s 1
/-- Does the one adapt to the other? -/
def adB (a b : Wd) : Bool := decide (dri a.2 b.2 = 0) && decide (0 ≤ mn (bitAt a.1 a.2) (bitAt b.1 b.2) (max a.1.length b.1.length + Nat.lcm a.2.length b.2.length))
def fitBf (qs : List St) (s : St) : Bool := hasC (ucL qs s 0) && adB (ucL qs s 0) s.ck
def fitL (qs : List St) (s : St) : Bool :=
  if s.kind == 13 then true
  else if !hasC s.ck then false
  else if isEv s.kind then fitEv qs s
  else if s.kind == 11 then fitMg qs s
  else if s.kind == 12 then fitBf qs s
  else true
theorem adB_iff {a b : Wd} (ha : a.2 ≠ []) (hb : b.2 ≠ []) : adB a b = true ↔ AdaptsS (bitAt a.1 a.2) (bitAt b.1 b.2) := by
  have := adapts_iff (u := a.1) (x := b.1) ha hb (Nat.dvd_lcm_left a.2.length b.2.length) (Nat.dvd_lcm_right a.2.length b.2.length) (Nat.lcm_pos (List.length_pos_iff.2 ha) (List.length_pos_iff.2 hb))
  rw [← this]
  simp [adB]

/-- The world with a step. -/
def Z1 (w : World) (s : St) (up : Option Addr) (uc : Nat) : World := w.alloc (Obj.cells #[.int .i64 s.no, .int .i64 s.kind, .string (S s.name), .slice up s.uses.length uc, .int .i64 s.num, .string (bs s.wd.1), .string (bs s.wd.2), .string (bs s.ck.1), .string (bs s.ck.2)] 76)
theorem Z1_size (w : World) (s : St) (up : Option Addr) (uc : Nat) : (Z1 w s up uc).heap.size = w.heap.size + 1 := by simp [Z1]
theorem Z1_below (w : World) (s : St) (up : Option Addr) (uc : Nat) : Below w.heap.size w (Z1 w s up uc) := (Below.refl w.heap.size w).alloc (Nat.le_refl _) _
theorem Z1_s (w : World) (s : St) (up : Option Addr) (uc : Nat) : StB (Z1 w s up uc) w.heap.size s (.slice up s.uses.length uc) := by
  unfold StB Z1
  rw [heap_alloc_new]
  rfl
theorem bs_beq_false {a b : List Bool} (h : a ≠ b) : ((bs a).toList == (bs b).toList) = false := by
  rw [beq_eq_false_iff_ne]
  intro e
  rw [ByteArray.toList_eq, ByteArray.toList_eq] at e
  exact h (bs_inj (WideShapes.bytes_inj e))
theorem wd_ne {a b : Wd} (h : a ≠ b) : bs a.1 ≠ bs b.1 ∨ bs a.2 ≠ bs b.2 := by
  rcases Decidable.em (a.1 = b.1) with h1 | h1
  · right
    intro h2
    exact h (Prod.ext h1 (bs_inj h2))
  · left; exact fun h2 => h1 (bs_inj h2)

set_option maxRecDepth 50000 in
set_option maxHeartbeats 2000000 in
theorem fitsEven_any (qs : List (St × Value)) (p : Option Addr) (cap : Nat) (s : St) (up : Option Addr) (uc : Nat) (w : World) (hr : RS w p qs)
    (hu : Reads w (.slice up s.uses.length uc) 1 s.uses.length (ints s.uses)) (hul : s.uses.length ≤ 1048575) (hux : ∀ x ∈ s.uses, x < qs.length) :
    Calls Try.prog 82 #[.slice p qs.length cap, .agg #[.int .i64 s.no, .int .i64 s.kind, .string (S s.name), .slice up s.uses.length uc, .int .i64 s.num, .string (bs s.wd.1), .string (bs s.wd.2), .string (bs s.ck.1), .string (bs s.ck.2)]] w
      fun e w' => e = .returned (.bool (fitEv (qs.map Prod.fst) s)) ∧ Below w.heap.size w w' := by
  have hS := Z1_s w s up uc
  go_enter Try.func82, Try.ntmps82
  go_wp2
  go_loopw [5] (fun i wr => ∃ k : Nat, i = .int .i64 k ∧ k ≤ s.uses.length ∧ Hid (∀ j, j < k → ucL (qs.map Prod.fst) s j = s.ck) ∧ Hid (Below (w.heap.size + 1) (Z1 w s up uc) wr)) (fun i _ => s.uses.length - (intOf i).toNat)
  case atStart => exact ⟨0, rfl, Nat.zero_le _, fun j hj => by omega, Below.refl _ _⟩
  case round =>
    obtain ⟨k, rfl, hk, HB, HW⟩ := hrel
    have hnx := HW.out
    have hsz := hnx.size
    rw [Z1_size] at hsz
    have hS1 := hS.below hnx (by omega)
    have b0 := hS1.c 0
    have b1 := hS1.c 1
    have b2 := hS1.c 2
    have b3 := hS1.c 3
    have b4 := hS1.c 4
    have b5 := hS1.c 5
    have b6 := hS1.c 6
    have b7 := hS1.c 7
    have b8 := hS1.c 8
    simp only [stCells, List.getElem?_cons_zero, List.getElem?_cons_succ] at b0 b1 b2 b3 b4 b5 b6 b7 b8
    have hbw : Below w.heap.size w wr := (Z1_below w s up uc).trans (hnx.mono (by omega))
    by_cases hlt : k < s.uses.length
    · have hcall := usedClock_any qs p cap s up uc k wr.drew (by omega) (hr.below hbw.drew (Nat.le_refl _)) (hu.below hbw.drew (Nat.le_refl _)) hux
      obtain ⟨c, hc⟩ : ∃ c, ucL (qs.map Prod.fst) s k = c := ⟨_, rfl⟩
      rw [hc] at hcall
      have HC : Hid (ucL (qs.map Prod.fst) s k = c) := hc
      clear hc hr hu
      by_cases heq : c = s.ck
      · go_wp2
        go_region_held3 (fun w' => w'.cell? ⟨w.heap.size, 0, none⟩ = some (.int .i64 s.no) ∧ w'.cell? ⟨w.heap.size, 1, none⟩ = some (.int .i64 s.kind) ∧ w'.cell? ⟨w.heap.size, 2, none⟩ = some (.string (S s.name)) ∧ w'.cell? ⟨w.heap.size, 3, none⟩ = some (.slice up s.uses.length uc) ∧ w'.cell? ⟨w.heap.size, 4, none⟩ = some (.int .i64 s.num) ∧ w'.cell? ⟨w.heap.size, 5, none⟩ = some (.string (bs s.wd.1)) ∧ w'.cell? ⟨w.heap.size, 6, none⟩ = some (.string (bs s.wd.2)) ∧ w'.cell? ⟨w.heap.size, 7, none⟩ = some (.string (bs s.ck.1)) ∧ w'.cell? ⟨w.heap.size, 8, none⟩ = some (.string (bs s.ck.2))) (go_keep)
          (first | (go_at_call 56; refine hcall.mono ?_; rintro e w1 ⟨hK, hb1⟩; unfold CkIs at hK; subst hK; have hb1' : Below wr.heap.size wr w1 := below_undrew (W := wr) hb1; have hS2 := hS1.below hb1' (by omega); have bb0 := hS2.c 0; have bb1 := hS2.c 1; have bb2 := hS2.c 2; have bb3 := hS2.c 3; have bb4 := hS2.c 4; have bb5 := hS2.c 5; have bb6 := hS2.c 6; have bb7 := hS2.c 7; have bb8 := hS2.c 8; simp only [stCells, List.getElem?_cons_zero, List.getElem?_cons_succ] at bb0 bb1 bb2 bb3 bb4 bb5 bb6 bb7 bb8))
        go_wp2
        go_roundw
        case rel => exact ⟨k + 1, by go_num, by omega, fun j hj => by
          rcases Nat.lt_or_ge j k with q | q
          · exact HB.out j q
          · have : j = k := by omega
            subst this; rw [HC.out]; exact heq, HW.out.trans (hb1'.mono (by omega))⟩
        case measure => simp [intOf]; omega
      have HNE : Hid (fitEv (qs.map Prod.fst) s = false) := by
        show fitEv _ _ = false
        unfold fitEv
        rw [List.all_eq_false]
        exact ⟨k, List.mem_range.2 hlt, by rw [HC.out]; simpa using heq⟩
      by_cases h1 : c.1 = s.ck.1
      · have gB1 : ((bs c.1).toList == (bs s.ck.1).toList) = true := by rw [h1]; simp
        have gB2 : ((bs c.2).toList == (bs s.ck.2).toList) = false := bs_beq_false (fun h2 => heq (Prod.ext h1 h2))
        clear h1
        go_wp2
        go_region_held3 (fun w' => w'.cell? ⟨w.heap.size, 0, none⟩ = some (.int .i64 s.no) ∧ w'.cell? ⟨w.heap.size, 1, none⟩ = some (.int .i64 s.kind) ∧ w'.cell? ⟨w.heap.size, 2, none⟩ = some (.string (S s.name)) ∧ w'.cell? ⟨w.heap.size, 3, none⟩ = some (.slice up s.uses.length uc) ∧ w'.cell? ⟨w.heap.size, 4, none⟩ = some (.int .i64 s.num) ∧ w'.cell? ⟨w.heap.size, 5, none⟩ = some (.string (bs s.wd.1)) ∧ w'.cell? ⟨w.heap.size, 6, none⟩ = some (.string (bs s.wd.2)) ∧ w'.cell? ⟨w.heap.size, 7, none⟩ = some (.string (bs s.ck.1)) ∧ w'.cell? ⟨w.heap.size, 8, none⟩ = some (.string (bs s.ck.2))) (go_keep)
          (first | (go_at_call 56; refine hcall.mono ?_; rintro e w1 ⟨hK, hb1⟩; unfold CkIs at hK; subst hK; have hb1' : Below wr.heap.size wr w1 := below_undrew (W := wr) hb1; have hS2 := hS1.below hb1' (by omega); have bb0 := hS2.c 0; have bb1 := hS2.c 1; have bb2 := hS2.c 2; have bb3 := hS2.c 3; have bb4 := hS2.c 4; have bb5 := hS2.c 5; have bb6 := hS2.c 6; have bb7 := hS2.c 7; have bb8 := hS2.c 8; simp only [stCells, List.getElem?_cons_zero, List.getElem?_cons_succ] at bb0 bb1 bb2 bb3 bb4 bb5 bb6 bb7 bb8))
        go_wp2
        go_ret
        exact ⟨ret_bool HNE.out.symm, hbw.trans (hb1'.mono (by omega))⟩
      · have gA : ((bs c.1).toList == (bs s.ck.1).toList) = false := bs_beq_false h1
        go_wp2
        go_region_held3 (fun w' => w'.cell? ⟨w.heap.size, 0, none⟩ = some (.int .i64 s.no) ∧ w'.cell? ⟨w.heap.size, 1, none⟩ = some (.int .i64 s.kind) ∧ w'.cell? ⟨w.heap.size, 2, none⟩ = some (.string (S s.name)) ∧ w'.cell? ⟨w.heap.size, 3, none⟩ = some (.slice up s.uses.length uc) ∧ w'.cell? ⟨w.heap.size, 4, none⟩ = some (.int .i64 s.num) ∧ w'.cell? ⟨w.heap.size, 5, none⟩ = some (.string (bs s.wd.1)) ∧ w'.cell? ⟨w.heap.size, 6, none⟩ = some (.string (bs s.wd.2)) ∧ w'.cell? ⟨w.heap.size, 7, none⟩ = some (.string (bs s.ck.1)) ∧ w'.cell? ⟨w.heap.size, 8, none⟩ = some (.string (bs s.ck.2))) (go_keep)
          (first | (go_at_call 56; refine hcall.mono ?_; rintro e w1 ⟨hK, hb1⟩; unfold CkIs at hK; subst hK; have hb1' : Below wr.heap.size wr w1 := below_undrew (W := wr) hb1; have hS2 := hS1.below hb1' (by omega); have bb0 := hS2.c 0; have bb1 := hS2.c 1; have bb2 := hS2.c 2; have bb3 := hS2.c 3; have bb4 := hS2.c 4; have bb5 := hS2.c 5; have bb6 := hS2.c 6; have bb7 := hS2.c 7; have bb8 := hS2.c 8; simp only [stCells, List.getElem?_cons_zero, List.getElem?_cons_succ] at bb0 bb1 bb2 bb3 bb4 bb5 bb6 bb7 bb8))
        go_wp2
        go_ret
        exact ⟨ret_bool HNE.out.symm, hbw.trans (hb1'.mono (by omega))⟩
    · have HE : Hid (fitEv (qs.map Prod.fst) s = true) := by
        show fitEv _ _ = true
        unfold fitEv
        rw [List.all_eq_true]
        intro j hj
        rw [HB.out j (by have := List.mem_range.1 hj; omega)]; simp
      clear hr hu
      go_wp2
      go_ret
      exact ⟨ret_bool HE.out.symm, hbw⟩
end Go.Proofs.Ytfbkjopidjojeab

