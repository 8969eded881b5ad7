/-
  Joined: Ea Eb Ec.
-/
import Derived.Test.YtfbkjopidjojeabP3
namespace Go.Proofs.Ytfbkjopidjojeab
open Go.RowKit

/-- A step's own name, or that which an output lets out. -/
def nameL (qs : List St) (s : St) : List UInt8 := if s.kind = 13 ∧ s.uses.length = 1 then match s.uses[0]? with
    | none => s.name
    | some k => match qs[k]? with
      | none => s.name
      | some t => t.name
  else s.name
/-- The names of all steps of a kind. -/
def namesL (qs : List St) (kind : Nat) (l : List St) : List (List UInt8) := (l.filter fun s => s.kind == kind).map (nameL qs)

set_option maxRecDepth 50000 in
set_option maxHeartbeats 1000000 in
theorem nameOf_any (qs : List (St × Value)) (p : Option Addr) (cap : Nat) (s : St) (up : Option Addr) (uc : Nat) (w : World) (hr : RS w p qs)
    (hu : Reads w (.slice up s.uses.length uc) 1 s.uses.length (ints s.uses)) (hux : ∀ x ∈ s.uses, x < qs.length) :
    Calls Try.prog 54 #[.slice p qs.length cap, .agg #[.int .i64 s.no, .int .i64 s.kind, .string (S s.name), .slice up s.uses.length uc, .int .i64 s.num, .string (bs s.wd.1), .string (bs s.wd.2), .string (bs s.ck.1), .string (bs s.ck.2)]] w
      fun e w' => e = .returned (.string (S (nameL (qs.map Prod.fst) s))) ∧ Below w.heap.size w w' := by
  by_cases h13 : s.kind = 13 ∧ s.uses.length = 1
  · obtain ⟨h1, h2⟩ := h13
    have hk13 : ((s.kind : Int) == 13) = true := by simp; omega
    have hlen : ((s.uses.length : Int) == 1) = true := by simp; omega
    have hlt0 : 0 < s.uses.length := by omega
    obtain ⟨_, q, c', he, _, hrow⟩ := hu
    injection he with he1 he2 he3
    subst he1
    obtain ⟨ub, uo, rfl, hrw⟩ : ∃ b off, up = some ⟨b, off, none⟩ ∧ Row w b off (ints s.uses) := by
      rcases hrow with h | h
      · omega
      · exact h
    obtain ⟨k, hk⟩ : ∃ k, k = s.uses[0] := ⟨_, rfl⟩
    have hlt : k < qs.length := by rw [hk]; exact hux _ (List.getElem_mem _)
    obtain ⟨b, rfl, hb, hc⟩ : ∃ b, p = some ⟨b, 0, none⟩ ∧ b < w.heap.size ∧ ∀ k (h : k < qs.length) j, j < 9 → w.cell? ⟨b, k * 9 + j, none⟩ = (stCells qs[k].1 qs[k].2)[j]? := by
      rcases hr.1 with h | h
      · rw [h] at hlt; simp at hlt
      · exact h
    have cu : w.cell? ⟨ub, uo, none⟩ = some (.int .i64 (k : Int)) := by
      have := hrw.2 0 (by rw [ints_length]; exact hlt0)
      rw [ints_get hlt0, ← hk] at this
      exact this
    have c2 : w.cell? ⟨b, k * 9 + 2, none⟩ = some (.string (S qs[k].1.name)) := hc k hlt 2 (by omega)
    have hub := hrw.1
    have HN : Hid (nameL (qs.map Prod.fst) s = qs[k].1.name) := by
      show nameL _ _ = _
      unfold nameL
      rw [if_pos ⟨h1, h2⟩]
      have e1 : s.uses[0]? = some k := by rw [List.getElem?_eq_getElem hlt0, ← hk]
      have e2 : (qs.map Prod.fst)[k]? = some qs[k].1 := by simp [hlt]
      simp only [e1, e2]
    have hI0 : 0 < s.uses.length := hlt0
    clear hc hr hrow hk hux hrw he2 he3 h1 h2
    go_enter Try.func54, Try.ntmps54
    go_wp2
    go_ret
    exact ⟨by rw [HN.out]; rfl, (Below.refl _ _).alloc (Nat.le_refl _) _⟩
  · have HN : Hid (nameL (qs.map Prod.fst) s = s.name) := by show nameL _ _ = _; unfold nameL; rw [if_neg h13]
    clear hr hu hux
    by_cases h1 : s.kind = 13
    · have hk13 : ((s.kind : Int) == 13) = true := by simp; omega
      have hlen : ((s.uses.length : Int) == 1) = false := by
        simp only [beq_eq_false_iff_ne, ne_eq]
        intro h
        exact h13 ⟨h1, by omega⟩
      clear h13 h1
      go_enter Try.func54, Try.ntmps54
      go_wp2
      go_ret
      exact ⟨by rw [HN.out]; rfl, (Below.refl _ _).alloc (Nat.le_refl _) _⟩
    · have hk13 : ((s.kind : Int) == 13) = false := by simp; omega
      clear h13 h1
      go_enter Try.func54, Try.ntmps54
      go_wp2
      go_ret
      exact ⟨by rw [HN.out]; rfl, (Below.refl _ _).alloc (Nat.le_refl _) _⟩

theorem names_skip {qs : List St} {kind : Nat} {l : List St} {s : St} (h : s.kind ≠ kind) : namesL qs kind (l ++ [s]) = namesL qs kind l := by
  unfold namesL
  rw [List.filter_append, List.filter_cons, if_neg (by simpa using h)]; simp
theorem names_add {qs : List St} {kind : Nat} {l : List St} {s : St} (h : s.kind = kind) : namesL qs kind (l ++ [s]) = namesL qs kind l ++ [nameL qs s] := by
  unfold namesL
  rw [List.filter_append, List.filter_cons, if_pos (by simpa using h)]; simp
theorem names_len (qs : List St) (kind : Nat) (l : List St) : (namesL qs kind l).length ≤ l.length := by
  unfold namesL; rw [List.length_map]; exact List.length_filter_le _ _

set_option maxRecDepth 50000 in
set_option maxHeartbeats 1000000 in
theorem Names_any (qs : List (St × Value)) (p : Option Addr) (cap : Nat) (kind : Nat) (w : World) (hl : qs.length ≤ 24) (hr : RS w p qs) (hux : ∀ q ∈ qs, ∀ x ∈ q.1.uses, x < qs.length) :
    Calls Try.prog 33 #[.slice p qs.length cap, .int .i64 kind] w fun e w' => Strs w.heap.size (namesL (qs.map Prod.fst) kind (qs.map Prod.fst)) e w' ∧ Below w.heap.size w w' := by
  obtain ⟨i0, hi, hz0, hz1, hz2⟩ := info_parts Try.info9
  obtain ⟨L, hL⟩ : ∃ L, qs.map Prod.fst = L := ⟨_, rfl⟩
  have HLen : Hid (L.length = qs.length) := by show L.length = _; rw [← hL]; simp
  have HL : Hid (qs.map Prod.fst = L) := hL
  rw [hL]
  clear hL
  go_enter Try.func33, Try.ntmps33
  go_wp2
  go_loopw [5, 6] (fun r i wr => ∃ (k : Nat), i = .int .i64 k ∧ k ≤ qs.length ∧ wr.ownsRow w.heap.size 9 1 r (namesL L kind (L.take k)).length (strs (namesL L kind (L.take k))) ∧ Below w.heap.size w wr)
    (fun _ i _ => qs.length - (intOf i).toNat)
  case atStart => exact ⟨0, rfl, Nat.zero_le _, own_start_str _ _ _ rfl (Nat.le_refl _), (Below.refl _ _).alloc (Nat.le_refl _) _⟩
  case round =>
    obtain ⟨k, rfl, hk, hown, hnx⟩ := hrel
    have hsz := hnx.size
    have hrr := hr.below hnx (Nat.le_refl _)
    have hnl := names_len L kind (L.take k)
    rw [List.length_take] at hnl
    by_cases hlt : k < qs.length
    · obtain ⟨b, rfl, hb, hc⟩ : ∃ b, p = some ⟨b, 0, none⟩ ∧ b < wr.heap.size ∧ ∀ k (h : k < qs.length) j, j < 9 → wr.cell? ⟨b, k * 9 + j, none⟩ = (stCells qs[k].1 qs[k].2)[j]? := by
        rcases hrr.1 with h | h
        · rw [h] at hlt; simp at hlt
        · exact h
      obtain ⟨⟨s, u⟩, hq⟩ : ∃ q, qs[k] = q := ⟨_, rfl⟩
      have hmem : (s, u) ∈ qs := by rw [← hq]; exact List.getElem_mem _
      have hkL : k < L.length := by rw [HLen.out]; exact hlt
      have hgetL : L[k] = s := by
        have : L[k]? = some s := by rw [← HL.out]; simp [hlt, hq]
        rw [List.getElem?_eq_getElem hkL] at this
        injection this
      have c0 := hc k hlt 0 (by omega)
      have c1 := hc k hlt 1 (by omega)
      have c2 := hc k hlt 2 (by omega)
      have c3 := hc k hlt 3 (by omega)
      have c4 := hc k hlt 4 (by omega)
      have c5 := hc k hlt 5 (by omega)
      have c6 := hc k hlt 6 (by omega)
      have c7 := hc k hlt 7 (by omega)
      have c8 := hc k hlt 8 (by omega)
      rw [hq] at c0 c1 c2 c3 c4 c5 c6 c7 c8
      simp only [stCells, List.getElem?_cons_zero, List.getElem?_cons_succ, Nat.add_zero] at c0 c1 c2 c3 c4 c5 c6 c7 c8
      have hrd0 := hrr.2 (s, u) hmem
      have hrd := hrd0
      obtain ⟨_, up, uc, hue, _, _⟩ := hrd
      simp only at hue
      subst hue
      have hcall := nameOf_any qs (some ⟨b, 0, none⟩) cap s up uc wr hrr hrd0 (hux _ hmem)
      rw [HL.out] at hcall
      have htk := take_one hkL
      rw [hgetL] at htk
      have HT : Hid (L.take (k + 1) = L.take k ++ [s]) := htk
      clear hc hrr hrd0 hq hgetL htk
      by_cases hkk : s.kind = kind
      · have hk2 : ((s.kind : Int) == (kind : Int)) = true := by simp; omega
        have HA : Hid (namesL L kind (L.take (k + 1)) = namesL L kind (L.take k) ++ [nameL L s]) := by show namesL _ _ _ = _; rw [HT.out, names_add hkk]
        clear hkk
        go_wp2_with (first
          | (go_at_call 54; refine hcall.mono ?_; rintro e w1 ⟨rfl, hb1⟩; have hown1 := ownsRow_below hown hb1; have hz1' := hb1.size)
          | (at_builtin; refine wpList_append_own _ rfl _ _ 43 rfl w.heap.size 9 i0 (.string ⟨#[]⟩) 1 16 Try.under43 hi hz0 hz1 hz2 rfl (by decide) _ _ _ rfl (hown1.alloc _) ⟨w1.heap.size, 0, none⟩ 1 1 [.string (S (nameL L s))] rfl rfl (cell_one_new _ _ _) (by intro x hx; simp at hx; subst hx; rfl) (by unfold maxLen; omega) (by omega) (by simp; omega) ?_; intro v' w' hown' hgrow _))
        have R := rel_str (by omega) hown1 (hnx.trans (hb1.mono (by omega))) hown' hgrow
        clear hown' hgrow hown hnx hown1 hcall
        go_wp2
        go_roundw
        case rel => exact ⟨k + 1, by go_num, by omega, by rw [HA.out]; simpa using R.1, R.2⟩
        case measure => simp [intOf]; omega
      · have hk2 : ((s.kind : Int) == (kind : Int)) = false := by simp; omega
        have HA : Hid (namesL L kind (L.take (k + 1)) = namesL L kind (L.take k)) := by show namesL _ _ _ = _; rw [HT.out, names_skip hkk]
        clear hkk hcall
        go_wp2
        go_roundw
        case rel => exact ⟨k + 1, by go_num, by omega, by rw [HA.out]; exact hown, hnx⟩
        case measure => simp [intOf]; omega
    · have hke : L.take k = L := List.take_of_length_le (by rw [HLen.out]; omega)
      rw [hke] at hown
      clear hrr hr
      go_wp2
      go_ret
      exact ⟨⟨_, rfl, hown⟩, hnx⟩
end Go.Proofs.Ytfbkjopidjojeab

namespace Go.Proofs.Ytfbkjopidjojeab
open Go.RowKit

/-- Which step has the name as its own. -/
def findL (qs : List St) (nm : List UInt8) : Option Nat := qs.findIdx? fun s => !(s.kind == 13) && s.name == nm
theorem find_hit {qs : List St} {nm : List UInt8} {k : Nat} (hk : k < qs.length) (hb : ∀ j (h : j < qs.length), j < k → (!(qs[j].kind == 13) && qs[j].name == nm) = false) (he : (!(qs[k].kind == 13) && qs[k].name == nm) = true) : findL qs nm = some k := by
  unfold findL
  rw [List.findIdx?_eq_some_iff_getElem]
  exact ⟨hk, he, fun j hj => by rw [hb j (by omega) hj]; simp⟩
theorem find_no {qs : List St} {nm : List UInt8} (hb : ∀ j (h : j < qs.length), (!(qs[j].kind == 13) && qs[j].name == nm) = false) : findL qs nm = none := by
  unfold findL
  rw [List.findIdx?_eq_none_iff]
  intro l hl
  obtain ⟨k, hk, rfl⟩ := List.getElem_of_mem hl
  exact hb k hk

set_option maxRecDepth 50000 in
set_option maxHeartbeats 1000000 in
theorem Find_any (qs : List (St × Value)) (p : Option Addr) (cap : Nat) (nm : ByteArray) (w : World) (hl : qs.length ≤ 24) (hr : RS w p qs) :
    Calls Try.prog 34 #[.slice p qs.length cap, .string nm] w fun e w' => e = .returned (.int .i64 (owI (findL (qs.map Prod.fst) nm.data.toList))) ∧ w' = w := by
  obtain ⟨L, hL⟩ : ∃ L, qs.map Prod.fst = L := ⟨_, rfl⟩
  have HLen : Hid (L.length = qs.length) := by show L.length = _; rw [← hL]; simp
  have HL : Hid (qs.map Prod.fst = L) := hL
  rw [hL]
  clear hL
  go_enter Try.func34, Try.ntmps34
  go_wp2
  go_loop [5] (fun i => ∃ k : Nat, k ≤ qs.length ∧ i = .int .i64 k ∧ Hid (∀ j (h : j < L.length), j < k → (!(L[j].kind == 13) && L[j].name == nm.data.toList) = false)) (fun i => qs.length - (intOf i).toNat)
  case atStart => exact ⟨0, Nat.zero_le _, rfl, fun j h hj => by omega⟩
  case round =>
    obtain ⟨k, hk, rfl, HB⟩ := hrel
    by_cases hlt : k < qs.length
    · obtain ⟨b, rfl, hb, hc⟩ : ∃ b, p = some ⟨b, 0, none⟩ ∧ b < w.heap.size ∧ ∀ k (h : k < qs.length) j, j < 9 → w.cell? ⟨b, k * 9 + j, none⟩ = (stCells qs[k].1 qs[k].2)[j]? := by
        rcases hr.1 with h | h
        · rw [h] at hlt; simp at hlt
        · exact h
      have hkL : k < L.length := by rw [HLen.out]; exact hlt
      obtain ⟨s, hs⟩ : ∃ s, L[k] = s := ⟨_, rfl⟩
      have hqs : qs[k].1 = s := by
        have : L[k]? = some qs[k].1 := by rw [← HL.out]; simp [hlt]
        rw [List.getElem?_eq_getElem hkL, hs] at this
        injection this with this
        exact this.symm
      have c1 : w.cell? ⟨b, k * 9 + 1, none⟩ = some (.int .i64 s.kind) := by rw [← hqs]; exact hc k hlt 1 (by omega)
      have c2 : w.cell? ⟨b, k * 9 + 2, none⟩ = some (.string (S s.name)) := by rw [← hqs]; exact hc k hlt 2 (by omega)
      have HS : Hid (L[k] = s) := hs
      clear hc hr hqs hs
      have hnext : (!(s.kind == 13) && s.name == nm.data.toList) = false → ∀ j (h : j < L.length), j < k + 1 → (!(L[j].kind == 13) && L[j].name == nm.data.toList) = false := fun hf j h hj => by
        rcases Nat.lt_or_ge j k with q | q
        · exact HB.out j h q
        · have : j = k := by omega
          subst this; rw [HS.out]; exact hf
      have HNX : Hid ((!(s.kind == 13) && s.name == nm.data.toList) = false → ∀ j (h : j < L.length), j < k + 1 → (!(L[j].kind == 13) && L[j].name == nm.data.toList) = false) := hnext
      clear hnext
      by_cases h13 : s.kind = 13
      · have g1 : ((s.kind : Int) == 13) = true := by simp; omega
        have g2 : ((s.kind : Int) != 13) = false := by simp; omega
        have HN2 : Hid (∀ j (h : j < L.length), j < k + 1 → (!(L[j].kind == 13) && L[j].name == nm.data.toList) = false) := HNX.out (by rw [h13]; rfl)
        clear h13
        go_wp2
        go_round
        case rel => exact ⟨k + 1, by omega, by go_num, HN2⟩
        case measure => simp [intOf]; omega
      · have g1 : ((s.kind : Int) == 13) = false := by simp; omega
        have g2 : ((s.kind : Int) != 13) = true := by simp; omega
        have hbk : (s.kind == 13) = false := beq_eq_false_iff_ne.2 h13
        by_cases hn : s.name = nm.data.toList
        · have g3 : ((S s.name).toList == nm.toList) = true := by rw [ByteArray.toList_eq, ByteArray.toList_eq, S_data, hn]; simp
          have HF : Hid (findL L nm.data.toList = some k) := find_hit hkL HB.out (by rw [HS.out, hbk, hn]; simp)
          clear hn h13 hbk
          go_wp2
          go_ret
          exact ⟨ret_int (by rw [HF.out]; rfl), rfl⟩
        · have g3 : ((S s.name).toList == nm.toList) = false := by rw [ByteArray.toList_eq, ByteArray.toList_eq, S_data]; exact beq_eq_false_iff_ne.2 hn
          have HN2 : Hid (∀ j (h : j < L.length), j < k + 1 → (!(L[j].kind == 13) && L[j].name == nm.data.toList) = false) := HNX.out (by rw [beq_eq_false_iff_ne.2 hn]; simp)
          clear hn h13 hbk
          go_wp2
          go_round
          case rel => exact ⟨k + 1, by omega, by go_num, HN2⟩
          case measure => simp [intOf]; omega
    · have HF : Hid (findL L nm.data.toList = none) := find_no (fun j h => HB.out j h (by rw [HLen.out] at h; omega))
      clear hr
      go_wp2
      go_ret
      exact ⟨ret_int (by rw [HF.out]; rfl), rfl⟩

/-- A program in memory: its block holds the steps. -/
def ProgAt (w : World) (b : Nat) (qs : List (St × Value)) : Prop := ∃ p cap, w.cell? ⟨b, 0, none⟩ = some (.slice p qs.length cap) ∧ b < w.heap.size ∧ qs.length ≤ cap ∧ RS w p qs
theorem ProgAt.below {w w' : World} {b : Nat} {qs : List (St × Value)} (h : ProgAt w b qs) (hb : Below w.heap.size w w') : ProgAt w' b qs := by
  obtain ⟨p, cap, h1, h2, h3, h4⟩ := h
  exact ⟨p, cap, by rw [hb.cell (p := ⟨b, 0, none⟩) h2]; exact h1, Nat.lt_of_lt_of_le h2 hb.size, h3, h4.below hb (Nat.le_refl _)⟩

set_option maxRecDepth 50000 in
set_option maxHeartbeats 1000000 in
theorem Ins_any (qs : List (St × Value)) (b : Nat) (w : World) (hl : qs.length ≤ 24) (hp : ProgAt w b qs) (hux : ∀ q ∈ qs, ∀ x ∈ q.1.uses, x < qs.length) :
    Calls Try.prog 21 #[.pointer (some ⟨b, 0, none⟩)] w fun e w' => Strs w.heap.size (namesL (qs.map Prod.fst) 1 (qs.map Prod.fst)) e w' ∧ Below w.heap.size w w' := by
  obtain ⟨p, cap, h1, h2, h3, h4⟩ := hp
  have hcall := Names_any qs p cap 1 w hl h4 hux
  go_enter Try.func21, Try.ntmps21
  go_wp2_with fail
  refine hcall.mono ?_
  rintro e w1 ⟨⟨v, rfl, hv⟩, hb1⟩
  go_wp2
  go_ret
  exact ⟨⟨v, rfl, hv⟩, hb1⟩

set_option maxRecDepth 50000 in
set_option maxHeartbeats 1000000 in
theorem Outs_any (qs : List (St × Value)) (b : Nat) (w : World) (hl : qs.length ≤ 24) (hp : ProgAt w b qs) (hux : ∀ q ∈ qs, ∀ x ∈ q.1.uses, x < qs.length) :
    Calls Try.prog 16 #[.pointer (some ⟨b, 0, none⟩)] w fun e w' => Strs w.heap.size (namesL (qs.map Prod.fst) 13 (qs.map Prod.fst)) e w' ∧ Below w.heap.size w w' := by
  obtain ⟨p, cap, h1, h2, h3, h4⟩ := hp
  have hcall := Names_any qs p cap 13 w hl h4 hux
  go_enter Try.func16, Try.ntmps16
  go_wp2_with fail
  refine hcall.mono ?_
  rintro e w1 ⟨⟨v, rfl, hv⟩, hb1⟩
  go_wp2
  go_ret
  exact ⟨⟨v, rfl, hv⟩, hb1⟩

set_option maxRecDepth 50000 in
set_option maxHeartbeats 1000000 in
theorem Buffers_any (qs : List (St × Value)) (b : Nat) (w : World) (hl : qs.length ≤ 24) (hp : ProgAt w b qs) (hux : ∀ q ∈ qs, ∀ x ∈ q.1.uses, x < qs.length) :
    Calls Try.prog 22 #[.pointer (some ⟨b, 0, none⟩)] w fun e w' => Strs w.heap.size (namesL (qs.map Prod.fst) 12 (qs.map Prod.fst)) e w' ∧ Below w.heap.size w w' := by
  obtain ⟨p, cap, h1, h2, h3, h4⟩ := hp
  have hcall := Names_any qs p cap 12 w hl h4 hux
  go_enter Try.func22, Try.ntmps22
  go_wp2_with fail
  refine hcall.mono ?_
  rintro e w1 ⟨⟨v, rfl, hv⟩, hb1⟩
  go_wp2
  go_ret
  exact ⟨⟨v, rfl, hv⟩, hb1⟩

/-- What Clock gives. -/
def ClockIs (qs : List St) (nm : List UInt8) (e : Ending) : Prop :=
  (findL qs nm = none ∧ e = .returned (.tuple #[.string ⟨#[]⟩, .int .i64 8])) ∨
  ∃ k s, findL qs nm = some k ∧ qs[k]? = some s ∧ e = .returned (.tuple #[.string (txt (bs s.ck.1) (bs s.ck.2)), .int .i64 0])
theorem find_lt {qs : List St} {nm : List UInt8} {k : Nat} (h : findL qs nm = some k) : k < qs.length := by
  unfold findL at h
  rw [List.findIdx?_eq_some_iff_getElem] at h
  exact h.1

set_option maxRecDepth 50000 in
set_option maxHeartbeats 1000000 in
theorem Clock_any (qs : List (St × Value)) (b : Nat) (nm : ByteArray) (w : World) (hl : qs.length ≤ 24) (hp : ProgAt w b qs) (hok : ∀ q ∈ qs, q.1.ck.1.length ≤ 64 ∧ q.1.ck.2.length ≤ 64) :
    Calls Try.prog 17 #[.pointer (some ⟨b, 0, none⟩), .string nm] w fun e w' => ClockIs (qs.map Prod.fst) nm.data.toList e ∧ Below w.heap.size w w' := by
  obtain ⟨p, cap, h1, h2, h3, h4⟩ := hp
  have hcall := Find_any qs p cap nm w hl h4
  obtain ⟨o, ho⟩ : ∃ o, findL (qs.map Prod.fst) nm.data.toList = o := ⟨_, rfl⟩
  rw [ho] at hcall
  have HO : Hid (findL (qs.map Prod.fst) nm.data.toList = o) := ho
  clear ho
  cases o with
  | none =>
    go_enter Try.func17, Try.ntmps17
    go_wp2_with (go_at_call 34; refine hcall.mono ?_; rintro e w1 ⟨rfl, hw1⟩; subst w1; simp only [owI])
    go_ret2
    exact ⟨.inl ⟨HO.out, rfl⟩, Below.refl _ _⟩
  | some k =>
    have hlt : k < qs.length := by have := find_lt HO.out; simpa using this
    obtain ⟨g, rfl, hg, hc⟩ : ∃ b, p = some ⟨b, 0, none⟩ ∧ b < w.heap.size ∧ ∀ k (h : k < qs.length) j, j < 9 → w.cell? ⟨b, k * 9 + j, none⟩ = (stCells qs[k].1 qs[k].2)[j]? := by
      rcases h4.1 with h | h
      · rw [h] at hlt; simp at hlt
      · exact h
    obtain ⟨s, hs⟩ : ∃ s, qs[k].1 = s := ⟨_, rfl⟩
    have c7 : w.cell? ⟨g, k * 9 + 7, none⟩ = some (.string (bs s.ck.1)) := by rw [← hs]; exact hc k hlt 7 (by omega)
    have c8 : w.cell? ⟨g, k * 9 + 8, none⟩ = some (.string (bs s.ck.2)) := by rw [← hs]; exact hc k hlt 8 (by omega)
    have hb64 := hok qs[k] (List.getElem_mem _)
    rw [hs] at hb64
    have HG : Hid ((qs.map Prod.fst)[k]? = some s) := by show _ = _; simp [hlt, hs]
    have z1 : (bs s.ck.1).size ≤ 1152921504606846976 := by rw [bs_size]; omega
    have z2 : (bs s.ck.2).size ≤ 1152921504606846976 := by rw [bs_size]; omega
    clear hc hs h4
    go_enter Try.func17, Try.ntmps17
    go_wp2_with (first
      | (go_at_call 34; refine hcall.mono ?_; rintro e w1 ⟨rfl, hw1⟩; subst w1; simp only [owI])
      | (go_at_call 35; refine (Text_any (bs s.ck.1) (bs s.ck.2) _ z1 z2).mono ?_; rintro e w2 ⟨rfl, hb2⟩))
    go_ret2
    exact ⟨.inr ⟨k, s, HO.out, HG.out, rfl⟩, hb2⟩
end Go.Proofs.Ytfbkjopidjojeab

namespace Go.Proofs.Ytfbkjopidjojeab
open Go.RowKit

set_option maxRecDepth 50000 in
set_option maxHeartbeats 1000000 in
theorem pSize_none (qs : List (St × Value)) (p : Option Addr) (cap : Nat) (w : World) :
    Calls Try.prog 36 #[.slice p qs.length cap, .int .i64 (-1)] w fun e w' => e = .returned (.tuple #[.int .i64 0, .bool false]) ∧ w' = w := by
  go_enter Try.func36, Try.ntmps36
  go_wp2
  go_ret2
  exact ⟨rfl, rfl⟩

set_option maxRecDepth 50000 in
set_option maxHeartbeats 1000000 in
theorem pSize_other (qs : List (St × Value)) (p : Option Addr) (cap k : Nat) (w : World) (hr : RS w p qs) (hlt : k < qs.length) (h12 : qs[k].1.kind ≠ 12) :
    Calls Try.prog 36 #[.slice p qs.length cap, .int .i64 k] w fun e w' => e = .returned (.tuple #[.int .i64 0, .bool false]) ∧ w' = w := by
  obtain ⟨b, rfl, hb, hc⟩ : ∃ b, p = some ⟨b, 0, none⟩ ∧ b < w.heap.size ∧ ∀ k (h : k < qs.length) j, j < 9 → w.cell? ⟨b, k * 9 + j, none⟩ = (stCells qs[k].1 qs[k].2)[j]? := by
    rcases hr.1 with h | h
    · rw [h] at hlt; simp at hlt
    · exact h
  obtain ⟨s, hs⟩ : ∃ s, qs[k].1 = s := ⟨_, rfl⟩
  have c1 : w.cell? ⟨b, k * 9 + 1, none⟩ = some (.int .i64 s.kind) := by rw [← hs]; exact hc k hlt 1 (by omega)
  rw [hs] at h12
  have g1 : ((s.kind : Int) == 12) = false := by simp; omega
  have g2 : ((s.kind : Int) != 12) = true := by simp; omega
  clear hc hr hs h12
  go_enter Try.func36, Try.ntmps36
  go_wp2
  go_ret2
  exact ⟨rfl, rfl⟩

set_option maxRecDepth 50000 in
set_option maxHeartbeats 2000000 in
theorem pSize_buffer (qs : List (St × Value)) (p : Option Addr) (cap k : Nat) (w : World) (hr : RS w p qs) (hlt : k < qs.length) (h12 : qs[k].1.kind = 12)
    (hux : ∀ q ∈ qs, ∀ x ∈ q.1.uses, x < qs.length) (hok : ∀ q ∈ qs, q.1.kind ≠ 13 → q.1.ck.2 ≠ [] ∧ q.1.ck.1.length ≤ 64 ∧ q.1.ck.2.length ≤ 64) (hu13 : ∀ q ∈ qs, ∀ x (h : x < qs.length), x ∈ q.1.uses → qs[x].1.kind ≠ 13) (hu0 : qs[k].1.uses ≠ []) :
    Calls Try.prog 36 #[.slice p qs.length cap, .int .i64 k] w fun e w' =>
      SizeIs (bitAt (ucL (qs.map Prod.fst) qs[k].1 0).1 (ucL (qs.map Prod.fst) qs[k].1 0).2) (bitAt qs[k].1.ck.1 qs[k].1.ck.2) e ∧ Below w.heap.size w w' := by
  obtain ⟨b, rfl, hb, hc⟩ : ∃ b, p = some ⟨b, 0, none⟩ ∧ b < w.heap.size ∧ ∀ k (h : k < qs.length) j, j < 9 → w.cell? ⟨b, k * 9 + j, none⟩ = (stCells qs[k].1 qs[k].2)[j]? := by
    rcases hr.1 with h | h
    · rw [h] at hlt; simp at hlt
    · exact h
  have hrd0 := hr.2 qs[k] (List.getElem_mem _)
  have hmem : qs[k] ∈ qs := List.getElem_mem _
  have hx1 := hux _ hmem
  have ho1 := hok _ hmem (by omega)
  have hu1 := hu13 _ hmem
  have cc := fun j (h : j < 9) => hc k hlt j h
  obtain ⟨⟨s, u⟩, hq⟩ : ∃ q, qs[k] = q := ⟨_, rfl⟩
  rw [hq] at hrd0 hx1 ho1 hu0 h12 cc hu1 ⊢
  have c0 := cc 0 (by omega)
  have c1 := cc 1 (by omega)
  have c2 := cc 2 (by omega)
  have c3 := cc 3 (by omega)
  have c4 := cc 4 (by omega)
  have c5 := cc 5 (by omega)
  have c6 := cc 6 (by omega)
  have c7 := cc 7 (by omega)
  have c8 := cc 8 (by omega)
  simp only [stCells, List.getElem?_cons_zero, List.getElem?_cons_succ, Nat.add_zero] at c0 c1 c2 c3 c4 c5 c6 c7 c8
  have hrd := hrd0
  obtain ⟨_, up, uc, hue, _, _⟩ := hrd
  simp only at hue h12 hu0 ho1 hx1 hu1
  subst hue
  have hcall := usedClock_any qs (some ⟨b, 0, none⟩) cap s up uc 0 w.drew (by omega) (hr.below (Below.refl w.heap.size w).drew (Nat.le_refl _)) (hrd0.below (Below.refl w.heap.size w).drew (Nat.le_refl _)) hx1
  have huc : ∃ t ∈ qs, ucL (qs.map Prod.fst) s 0 = t.1.ck ∧ t.1.kind ≠ 13 := by
    have h0 : 0 < s.uses.length := List.length_pos_iff.2 hu0
    have h1 : s.uses[0] < qs.length := hx1 _ (List.getElem_mem _)
    refine ⟨qs[s.uses[0]], List.getElem_mem _, ?_, hu1 _ h1 (List.getElem_mem _)⟩
    unfold ucL
    rw [List.getElem?_eq_getElem h0]
    have e2 : (qs.map Prod.fst)[s.uses[0]]? = some qs[s.uses[0]].1 := by simp [h1]
    simp only [e2]
  obtain ⟨t, ht, hte, ht13⟩ := huc
  have ho2 := hok t ht ht13
  rw [← hte] at ho2
  obtain ⟨c, hcc⟩ : ∃ c, ucL (qs.map Prod.fst) s 0 = c := ⟨_, rfl⟩
  show Calls _ _ _ _ fun e w' => SizeIs (bitAt (ucL (qs.map Prod.fst) s 0).1 (ucL (qs.map Prod.fst) s 0).2) (bitAt s.ck.1 s.ck.2) e ∧ _
  rw [hcc] at hcall ho2 ⊢
  have hsz := fun w1 => Size_any c.1 c.2 s.ck.1 s.ck.2 w1 ho2.1 ho1.1 (by omega) (by omega) (by omega) (by omega)
  have g1 : ((s.kind : Int) == 12) = true := by simp; omega
  have g2 : ((s.kind : Int) != 12) = false := by simp; omega
  clear hc hr hq h12 cc hcc hte ht ho1 ho2 hx1 hmem hrd0 hu0 hux hok hu13 hu1 ht13
  go_enter Try.func36, Try.ntmps36
  go_wp2
  go_region_held3 (fun w' => w'.cell? ⟨b, k * 9, none⟩ = some (.int .i64 s.no) ∧ w'.cell? ⟨b, k * 9 + 1, none⟩ = some (.int .i64 s.kind) ∧ w'.cell? ⟨b, k * 9 + 2, none⟩ = some (.string (S s.name)) ∧ w'.cell? ⟨b, k * 9 + 3, none⟩ = some (.slice up s.uses.length uc) ∧ w'.cell? ⟨b, k * 9 + 4, none⟩ = some (.int .i64 s.num) ∧ w'.cell? ⟨b, k * 9 + 5, none⟩ = some (.string (bs s.wd.1)) ∧ w'.cell? ⟨b, k * 9 + 6, none⟩ = some (.string (bs s.wd.2)) ∧ w'.cell? ⟨b, k * 9 + 7, none⟩ = some (.string (bs s.ck.1)) ∧ w'.cell? ⟨b, k * 9 + 8, none⟩ = some (.string (bs s.ck.2))) (go_keep)
    (first
    | (go_at_call 56; refine hcall.mono ?_; rintro e w1 ⟨hK, hb1⟩; unfold CkIs at hK; subst hK; have hb1' : Below w.heap.size w w1 := below_undrew (W := w) hb1; have d0 := hb1'.cell (p := ⟨b, k * 9, none⟩) hb; rw [c0] at d0; have d1 := hb1'.cell (p := ⟨b, k * 9 + 1, none⟩) hb; rw [c1] at d1; have d2 := hb1'.cell (p := ⟨b, k * 9 + 2, none⟩) hb; rw [c2] at d2; have d3 := hb1'.cell (p := ⟨b, k * 9 + 3, none⟩) hb; rw [c3] at d3; have d4 := hb1'.cell (p := ⟨b, k * 9 + 4, none⟩) hb; rw [c4] at d4; have d5 := hb1'.cell (p := ⟨b, k * 9 + 5, none⟩) hb; rw [c5] at d5; have d6 := hb1'.cell (p := ⟨b, k * 9 + 6, none⟩) hb; rw [c6] at d6; have d7 := hb1'.cell (p := ⟨b, k * 9 + 7, none⟩) hb; rw [c7] at d7; have d8 := hb1'.cell (p := ⟨b, k * 9 + 8, none⟩) hb; rw [c8] at d8; have hz1 := hb1'.size; have hbb : b < w1.heap.size := by omega)
    | (go_at_call 55; refine (hsz _).mono ?_; rintro e w2 ⟨⟨z, r, rfl, HZ⟩, hb2⟩; have hb2' : Below w1.heap.size w1 w2 := hb2; have f0 := hb2'.cell (p := ⟨b, k * 9, none⟩) hbb; rw [d0] at f0; have f1 := hb2'.cell (p := ⟨b, k * 9 + 1, none⟩) hbb; rw [d1] at f1; have f2 := hb2'.cell (p := ⟨b, k * 9 + 2, none⟩) hbb; rw [d2] at f2; have f3 := hb2'.cell (p := ⟨b, k * 9 + 3, none⟩) hbb; rw [d3] at f3; have f4 := hb2'.cell (p := ⟨b, k * 9 + 4, none⟩) hbb; rw [d4] at f4; have f5 := hb2'.cell (p := ⟨b, k * 9 + 5, none⟩) hbb; rw [d5] at f5; have f6 := hb2'.cell (p := ⟨b, k * 9 + 6, none⟩) hbb; rw [d6] at f6; have f7 := hb2'.cell (p := ⟨b, k * 9 + 7, none⟩) hbb; rw [d7] at f7; have f8 := hb2'.cell (p := ⟨b, k * 9 + 8, none⟩) hbb; rw [d8] at f8))
  go_wp2
  go_ret2
  exact ⟨⟨z, r, rfl, HZ⟩, hb1'.trans (hb2'.mono (by omega))⟩

/-- What Size tells of a name that is no buffer's. -/
def NoBuffer (qs : List St) (nm : List UInt8) : Prop := findL qs nm = none ∨ ∃ k s, findL qs nm = some k ∧ qs[k]? = some s ∧ s.kind ≠ 12
/-- A size and whether there is one. -/
def SzOk (f g : Nat → Bool) (z : Int) (r : Bool) : Prop := (r = true ↔ AdaptsS f g) ∧ (r = true → Most f g z) ∧ (r = false → z = 0)
/-- What Size gives. -/
def SizeTold (qs : List St) (nm : List UInt8) (e : Ending) : Prop :=
  (NoBuffer qs nm ∧ e = .returned (.tuple #[.int .i64 0, .int .i64 8])) ∨
  ∃ k s, findL qs nm = some k ∧ qs[k]? = some s ∧ s.kind = 12 ∧ ∃ (z : Int) (r : Bool), SzOk (bitAt (ucL qs s 0).1 (ucL qs s 0).2) (bitAt s.ck.1 s.ck.2) z r ∧
    e = .returned (.tuple #[.int .i64 z, .int .i64 (if r then 0 else 8)])

set_option maxRecDepth 50000 in
set_option maxHeartbeats 1000000 in
theorem Size_told (qs : List (St × Value)) (b : Nat) (nm : ByteArray) (w : World) (hl : qs.length ≤ 24) (hp : ProgAt w b qs)
    (hux : ∀ q ∈ qs, ∀ x ∈ q.1.uses, x < qs.length) (hok : ∀ q ∈ qs, q.1.kind ≠ 13 → q.1.ck.2 ≠ [] ∧ q.1.ck.1.length ≤ 64 ∧ q.1.ck.2.length ≤ 64) (hu13 : ∀ q ∈ qs, ∀ x (h : x < qs.length), x ∈ q.1.uses → qs[x].1.kind ≠ 13) (hub : ∀ q ∈ qs, q.1.kind = 12 → q.1.uses ≠ []) :
    Calls Try.prog 23 #[.pointer (some ⟨b, 0, none⟩), .string nm] w fun e w' => SizeTold (qs.map Prod.fst) nm.data.toList e ∧ Below w.heap.size w w' := by
  obtain ⟨p, cap, h1, h2, h3, h4⟩ := hp
  have hcall := Find_any qs p cap nm w hl h4
  obtain ⟨o, ho⟩ : ∃ o, findL (qs.map Prod.fst) nm.data.toList = o := ⟨_, rfl⟩
  rw [ho] at hcall
  have HO : Hid (findL (qs.map Prod.fst) nm.data.toList = o) := ho
  clear ho
  cases o with
  | none =>
    have hsz := pSize_none qs p cap w
    clear hux hok hub h4 hu13
    go_enter Try.func23, Try.ntmps23
    go_wp2_with (first
      | (go_at_call 34; refine hcall.mono ?_; rintro e w1 ⟨rfl, hw1⟩; subst w1; simp only [owI])
      | (go_at_call 36; refine hsz.mono ?_; rintro e w1 ⟨rfl, hw1⟩; subst w1))
    go_ret2
    exact ⟨.inl ⟨.inl HO.out, rfl⟩, Below.refl _ _⟩
  | some k =>
    have hlt : k < qs.length := by have := find_lt HO.out; simpa using this
    have HG : Hid ((qs.map Prod.fst)[k]? = some qs[k].1) := by show _ = _; simp [hlt]
    by_cases h12 : qs[k].1.kind = 12
    · have hsz := pSize_buffer qs p cap k w h4 hlt h12 hux hok hu13 (hub _ (List.getElem_mem _) h12)
      obtain ⟨s, hs⟩ : ∃ s, qs[k].1 = s := ⟨_, rfl⟩
      rw [hs] at hsz HG h12
      have H12 : Hid (s.kind = 12) := h12
      clear hux hok hub h4 hs h12 hu13
      go_enter Try.func23, Try.ntmps23
      go_wp2_with (first
        | (go_at_call 34; refine hcall.mono ?_; rintro e w1 ⟨rfl, hw1⟩; subst w1; simp only [owI])
        | (go_at_call 36; refine hsz.mono ?_; rintro e w1 ⟨⟨z, r, rfl, HZ0⟩, hb1⟩; have HZ : SzOk (bitAt (ucL (qs.map Prod.fst) s 0).1 (ucL (qs.map Prod.fst) s 0).2) (bitAt s.ck.1 s.ck.2) z r := HZ0.out; clear HZ0; cases r))
      · go_ret2
        exact ⟨.inr ⟨k, s, HO.out, HG.out, H12.out, z, false, HZ, by rw [HZ.2.2 rfl]; rfl⟩, hb1⟩
      · go_ret2
        exact ⟨.inr ⟨k, s, HO.out, HG.out, H12.out, z, true, HZ, rfl⟩, hb1⟩
    · have hsz := pSize_other qs p cap k w h4 hlt h12
      have HN : Hid (NoBuffer (qs.map Prod.fst) nm.data.toList) := .inr ⟨k, _, HO.out, HG.out, h12⟩
      clear hux hok hub h4 h12 hu13
      go_enter Try.func23, Try.ntmps23
      go_wp2_with (first
        | (go_at_call 34; refine hcall.mono ?_; rintro e w1 ⟨rfl, hw1⟩; subst w1; simp only [owI])
        | (go_at_call 36; refine hsz.mono ?_; rintro e w1 ⟨rfl, hw1⟩; subst w1))
      go_ret2
      exact ⟨.inl ⟨HN.out, rfl⟩, Below.refl _ _⟩
end Go.Proofs.Ytfbkjopidjojeab

