/-
  Walks over package plan: owner, owners, findTwice.
-/
import Derived.Test.YtfbkjopidjojeabCj
namespace Go.Proofs.Ytfbkjopidjojeab
open Go.RowKit

/-- Lines that can be read. -/
def RL (w : World) (p : Option Addr) (ps : List (Ln × Value)) : Prop :=
  (ps = [] ∨ ∃ b, p = some ⟨b, 0, none⟩ ∧ b < w.heap.size ∧ ∀ k (h : k < ps.length) j, j < 7 → w.cell? ⟨b, k * 7 + j, none⟩ = (lnCells ps[k].1 ps[k].2)[j]?) ∧ ∀ q ∈ ps, Reads w q.2 1 q.1.uses.length (strs q.1.uses)
theorem RL.below {w w' : World} {B : Nat} {p : Option Addr} {ps : List (Ln × Value)} (h : RL w p ps) (hb : Below B w w') (hB : w.heap.size ≤ B) : RL w' p ps := by
  refine ⟨h.1.imp id fun ⟨b, e, hlt, hc⟩ => ⟨b, e, Nat.lt_of_lt_of_le hlt hb.size, fun k hk j hj => ?_⟩, fun q hq => (h.2 q hq).below hb hB⟩
  rw [hb.cell (p := ⟨b, k * 7 + j, none⟩) (by show b < B; omega)]; exact hc k hk j hj
theorem RL.take {w : World} {p : Option Addr} {ps : List (Ln × Value)} (h : RL w p ps) (n : Nat) : RL w p (ps.take n) := by
  refine ⟨?_, fun q hq => h.2 q (List.mem_of_mem_take hq)⟩
  rcases h.1 with h1 | ⟨b, e, hlt, hc⟩
  · exact .inl (by rw [h1]; simp)
  · refine .inr ⟨b, e, hlt, fun k hk j hj => ?_⟩
    rw [List.length_take] at hk
    rw [List.getElem_take]; exact hc k (by omega) j hj
theorem LinesAt.rl {w : World} {B : Nat} {v : Value} {ps : List (Ln × Value)} (h : LinesAt w B v ps) : ∃ p cap, v = .slice p ps.length cap ∧ ps.length ≤ cap ∧ RL w p ps := by
  have hr := fun q hq => Reads.of (h.2 q hq)
  rcases h.1.2 with ⟨rfl, hn⟩ | ⟨g, cap, cur, rfl, hg, hh, hc, rest⟩
  · exact ⟨none, 0, by rw [hn], by omega, .inl (List.length_eq_zero_iff.1 hn), hr⟩
  · refine ⟨some ⟨g, 0, none⟩, cap, rfl, hc, .inr ⟨g, rfl, (Array.getElem?_eq_some_iff.1 hh).1, fun k hk j hj => ?_⟩, hr⟩
    have := h.1.cellAt (k * 7 + j) (by omega)
    rw [this, lnRows_get ps k j hk hj]

/-- A place, or -1. -/
def owI : Option Nat → Int
  | some n => n
  | none => -1
theorem owner_hit {ps : List (Ln × Value)} {nm : List UInt8} {k : Nat} (hk : k < ps.length) (hb : ∀ j (h : j < ps.length), j < k → ps[j].1.name ≠ nm) (he : ps[k].1.name = nm) : ownerL (ps.map Prod.fst) nm = some k := by
  unfold ownerL
  rw [List.findIdx?_eq_some_iff_getElem]
  refine ⟨by simpa using hk, by simpa using he, fun j hj => ?_⟩
  simpa using hb j (by omega) hj
theorem owner_none {ps : List (Ln × Value)} {nm : List UInt8} (hb : ∀ j (h : j < ps.length), ps[j].1.name ≠ nm) : ownerL (ps.map Prod.fst) nm = none := by
  unfold ownerL
  rw [List.findIdx?_eq_none_iff]
  intro l hl
  obtain ⟨q, hq, rfl⟩ := List.mem_map.1 hl
  obtain ⟨k, hk, rfl⟩ := List.getElem_of_mem hq
  simpa using hb k hk

set_option maxRecDepth 50000 in
set_option maxHeartbeats 1000000 in
theorem owner_any (ps : List (Ln × Value)) (p : Option Addr) (cap : Nat) (nm : List UInt8) (w : World) (hl : ps.length ≤ 1048576) (hr : RL w p ps) :
    Calls Try.prog 60 #[.slice p ps.length cap, .string (S nm)] w fun e w' => e = .returned (.int .i64 (owI (ownerL (ps.map Prod.fst) nm))) ∧ w' = w := by
  go_enter Try.func60, Try.ntmps60
  go_wp2
  go_loop [5] (fun i => ∃ k : Nat, k ≤ ps.length ∧ i = .int .i64 k ∧ Hid (∀ j (h : j < ps.length), j < k → ps[j].1.name ≠ nm)) (fun i => ps.length - (intOf i).toNat)
  case atStart => exact ⟨0, Nat.zero_le _, rfl, fun j h hj => by omega⟩
  case round =>
    obtain ⟨k, hk, rfl, HB⟩ := hrel
    by_cases hlt : k < ps.length
    · obtain ⟨b, rfl, hb, hc⟩ : ∃ b, p = some ⟨b, 0, none⟩ ∧ b < w.heap.size ∧ ∀ k (h : k < ps.length) j, j < 7 → w.cell? ⟨b, k * 7 + j, none⟩ = (lnCells ps[k].1 ps[k].2)[j]? := by
        rcases hr.1 with h | h
        · rw [h] at hlt; simp at hlt
        · exact h
      have c2 : w.cell? ⟨b, k * 7 + 2, none⟩ = some (.string (S ps[k].1.name)) := hc k hlt 2 (by omega)
      clear hc hr
      by_cases he : ps[k].1.name = nm
      · have HO := owner_hit hlt HB.out he
        have g : ((S ps[k].1.name).toList == (S nm).toList) = true := by rw [he]; simp
        have HO2 : Hid (ownerL (ps.map Prod.fst) nm = some k) := HO
        clear he HO
        go_wp2
        go_ret
        exact ⟨ret_int (by rw [HO2.out]; rfl), rfl⟩
      · have g : ((S ps[k].1.name).toList == (S nm).toList) = false := by rw [ByteArray.toList_eq, ByteArray.toList_eq, S_data, S_data]; exact beq_eq_false_iff_ne.2 he
        go_wp2
        go_round
        case rel => exact ⟨k + 1, by omega, by go_num, fun j h hj => by
          rcases Nat.lt_or_ge j k with q | q
          · exact HB.out j h q
          · have : j = k := by omega
            subst this; exact he⟩
        case measure => simp [intOf]; omega
    · have HO := owner_none (ps := ps) (nm := nm) (fun j h => HB.out j h (by omega))
      have HO2 : Hid (ownerL (ps.map Prod.fst) nm = none) := HO
      clear HO
      go_wp2
      go_ret
      exact ⟨ret_int (by rw [HO2.out]; rfl), rfl⟩

theorem Try.info3 : (Try.prog.info? 3).map (fun i => (i.zero, i.size, i.bytes)) = some (some (.int .i64 0), 1, 8) := by kernel_rfl
theorem Try.under38 : Try.prog.underlying 38 = some (.slice 3) := by kernel_rfl

/-- Places as cells. -/
def ints (L : List Nat) : List Value := L.map fun (n : Nat) => .int .i64 (n : Int)
theorem ints_length (L : List Nat) : (ints L).length = L.length := by simp [ints]

/-- What owners gives. -/
def OwnersIs (B : Nat) (o : Option (List Nat)) (e : Ending) (w' : World) : Prop :=
  (o = none ∧ e = .returned (.tuple #[.slice none 0 0, .bool false])) ∨ ∃ L v, o = some L ∧ e = .returned (.tuple #[v, .bool true]) ∧ w'.ownsRow B 3 1 v L.length (ints L)

theorem own_start_int (W : World) (B b : Nat) (h : W.heap.size = b) (hB : B ≤ b) : (W.alloc (.cells #[] 3)).ownsRow B 3 1 (.slice (some ⟨b, 0, none⟩) 0 0) 0 [] := by
  subst h
  exact World.ownsRow_made W #[] 0 hB (by unfold maxLen; omega) rfl
theorem rel_int {wr w' w : World} {B k : Nat} {r v' : Value} {L : List Nat} {x : Nat} {o : Obj} (hB : B ≤ wr.heap.size) (hown : wr.ownsRow B 3 1 r k (ints L)) (hnx : Below B w wr)
    (hown' : w'.ownsRow B 3 1 v' (k + 1) (ints L ++ [.int .i64 x])) (hg : (wr.alloc o).grownBy w' r.ownBlock) :
    w'.ownsRow B 3 1 v' (k + 1) (ints (L ++ [x])) ∧ Below B w w' := by
  refine ⟨by simpa [ints] using hown', ?_⟩
  exact (hnx.alloc hB o).grown hg (by simp; omega) (fun j hj => (hown.lt j hj).1)
/-- How far owners has come. -/
def OwAt (ls : List Ln) (N : List (List UInt8)) (k : Nat) (P : List Nat) : Prop := (∀ n ∈ N.take k, (ownerL ls n).isSome = true) ∧ P = (N.take k).map fun n => (ownerL ls n).getD 0
theorem OwAt.step {ls : List Ln} {N : List (List UInt8)} {k m : Nat} {P : List Nat} (h : OwAt ls N k P) (hk : k < N.length) (ho : ownerL ls N[k] = some m) : OwAt ls N (k + 1) (P ++ [m]) := by
  unfold OwAt
  rw [take_one hk]
  refine ⟨fun n hn => ?_, by rw [List.map_append, ← h.2]; simp [ho]⟩
  rcases List.mem_append.1 hn with hn | hn
  · exact h.1 n hn
  · rw [List.mem_singleton.1 hn, ho]; rfl
theorem ownersL_bad {ls : List Ln} {N : List (List UInt8)} {k : Nat} (hk : k < N.length) (ho : ownerL ls N[k] = none) : ownersL ls N = none := by
  unfold ownersL
  rw [if_neg]
  rw [Bool.not_eq_true, List.all_eq_false]
  exact ⟨N[k], List.getElem_mem _, by rw [ho]; simp⟩
theorem OwAt.fin {ls : List Ln} {N : List (List UInt8)} {k : Nat} {P : List Nat} (h : OwAt ls N k P) (hk : N.length ≤ k) : ownersL ls N = some P := by
  unfold OwAt at h
  rw [List.take_of_length_le hk] at h
  unfold ownersL
  rw [if_pos (List.all_eq_true.2 h.1), h.2]

set_option maxRecDepth 50000 in
set_option maxHeartbeats 1000000 in
theorem owners_any (ps : List (Ln × Value)) (p : Option Addr) (cap : Nat) (N : List (List UInt8)) (v : Value) (w : World) (hl : ps.length ≤ 1048576) (hr : RL w p ps) (hN : N.length ≤ 1048576) (hv : Reads w v 1 N.length (strs N)) :
    Calls Try.prog 61 #[.slice p ps.length cap, v] w fun e w' => OwnersIs w.heap.size (ownersL (ps.map Prod.fst) N) e w' ∧ Below w.heap.size w w' := by
  obtain ⟨i0, hi, hz0, hz1, hz2⟩ := info_parts Try.info3
  obtain ⟨_, q, qc, rfl, hqc, hrow⟩ := hv
  go_enter Try.func61, Try.ntmps61
  go_wp2
  go_loopw [6, 7] (fun r i wr => ∃ (k : Nat) (P : List Nat), i = .int .i64 k ∧ k ≤ N.length ∧ P.length = k ∧ Hid (OwAt (ps.map Prod.fst) N k P) ∧ wr.ownsRow w.heap.size 3 1 r P.length (ints P) ∧ Below w.heap.size w wr)
    (fun _ i _ => N.length - (intOf i).toNat)
  case atStart => exact ⟨0, [], rfl, Nat.zero_le _, rfl, ⟨fun n hn => by simp at hn, by simp⟩, own_start_int _ _ _ rfl (Nat.le_refl _), (Below.refl _ _).alloc (Nat.le_refl _) _⟩
  case round =>
    obtain ⟨k, P, rfl, hk, hPk, HO, hown, hnx⟩ := hrel
    have hsz := hnx.size
    have hPk2 : P.length ≤ 1048576 := by omega
    have HPk : Hid (P.length = k) := hPk
    clear hPk
    by_cases hlt : k < N.length
    · obtain ⟨b, off, rfl, hrw⟩ : ∃ b off, q = some ⟨b, off, none⟩ ∧ Row w b off (strs N) := by
        rcases hrow with h | h
        · omega
        · exact h
      have hc : wr.cell? ⟨b, off + k, none⟩ = some (.string (S N[k])) := by
        rw [(hrw.below hnx hrw.1).2 k (by rw [strs_length]; exact hlt), strs_get hlt]
      have hr2 := hr.below hnx (Nat.le_refl _)
      clear hrow
      cases ho : ownerL (ps.map Prod.fst) N[k] with
      | none =>
        have HB : Hid (ownersL (ps.map Prod.fst) N = none) := ownersL_bad hlt ho
        go_wp2_with (go_at_call 60; refine (owner_any ps p cap N[k] _ hl hr2).mono ?_; rintro e w1 ⟨rfl, hw1⟩; subst w1; rw [ho]; simp only [owI])
        go_ret2
        exact ⟨.inl ⟨HB.out, rfl⟩, hnx⟩
      | some m =>
        have HS := HO.out.step hlt ho
        have HS2 : Hid (OwAt (ps.map Prod.fst) N (k + 1) (P ++ [m])) := HS
        go_wp2_with (first
          | (go_at_call 60; refine (owner_any ps p cap N[k] _ hl hr2).mono ?_; rintro e w1 ⟨rfl, hw1⟩; subst w1; rw [ho]; simp only [owI]; clear ho HS)
          | (at_builtin; refine wpList_append_own _ rfl _ _ 38 rfl w.heap.size 3 i0 (.int .i64 0) 1 8 Try.under38 hi hz0 hz1 hz2 rfl (by decide) _ _ _ rfl (hown.alloc _) ⟨wr.heap.size, 0, none⟩ 1 1 [.int .i64 m] rfl rfl (cell_one_new _ _ _) (by intro x hx; simp at hx; subst hx; rfl) (by unfold maxLen; omega) (by omega) (by simp; omega) ?_; intro v' w' hown' hgrow _))
        have R := rel_int hsz hown hnx hown' hgrow
        clear hown' hgrow hown hnx hr2
        go_wp2
        go_roundw
        case rel => exact ⟨k + 1, P ++ [m], by go_num, by omega, by simp [HPk.out], HS2, by simpa using R.1, R.2⟩
        case measure => simp [intOf]; omega
    · have HF := HO.out.fin (by omega)
      have HF2 : Hid (ownersL (ps.map Prod.fst) N = some P) := HF
      clear HF
      go_wp2
      go_ret2
      exact ⟨.inr ⟨P, _, HF2.out, rfl, hown⟩, hnx⟩
end Go.Proofs.Ytfbkjopidjojeab
