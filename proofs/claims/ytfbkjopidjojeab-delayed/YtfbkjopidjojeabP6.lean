/-
  Joined: Ga Gb Gc Gd Gf.
-/
import Derived.Test.YtfbkjopidjojeabP5
namespace Go.Proofs.Ytfbkjopidjojeab
open Go.RowKit

theorem Try.info114 : (Try.prog.info? 114).map (fun i => (i.zero, i.size, i.bytes)) = some (some (.agg #[.int .i64 0, .int .i64 0, .string ⟨#[]⟩, .slice none 0 0, .int .i64 0, .string ⟨#[]⟩, .string ⟨#[]⟩, .string ⟨#[]⟩, .string ⟨#[]⟩, .slice none 0 0, .int .i64 0, .slice none 0 0, .int .i64 0]), 13, 192) := by kernel_rfl
theorem Try.under91 : Try.prog.underlying 91 = some (.slice 114) := by kernel_rfl

/-- Numbers as cells. -/
def zs (L : List Int) : List Value := L.map fun z => .int .i64 z
theorem zs_length (L : List Int) : (zs L).length = L.length := by simp [zs]
theorem zs_get {L : List Int} {k : Nat} (h : k < L.length) : (zs L)[k]? = some (.int .i64 L[k]) := by simp [zs, h]
/-- A number out of a list. -/
def pickL (L : List Int) (n : Int) : Int := if n < 0 then 0 else L.getD n.toNat 0

/-- A track with the values that lead to its lists: uses, list, made. -/
abbrev TV := Tk × Value × Value × Value
/-- A track as cells. -/
def tkCells (p : TV) : List Value := [.int .i64 p.1.st.no, .int .i64 p.1.st.kind, .string (S p.1.st.name), p.2.1, .int .i64 p.1.st.num, .string (bs p.1.st.wd.1), .string (bs p.1.st.wd.2), .string (bs p.1.st.ck.1), .string (bs p.1.st.ck.2), p.2.2.1, .int .i64 p.1.size, p.2.2.2, .int .i64 p.1.most]
def tkRows (ps : List TV) : List Value := ps.flatMap tkCells
theorem tkRows_length (ps : List TV) : (tkRows ps).length = ps.length * 13 := by
  induction ps with
  | nil => rfl
  | cons p ps ih => rw [tkRows, List.flatMap_cons, List.length_append]; rw [tkRows] at ih; rw [ih]; simp [tkCells]; omega
theorem tkRows_get (ps : List TV) : ∀ (k j : Nat) (h : k < ps.length), j < 13 → (tkRows ps)[k * 13 + j]? = (tkCells ps[k])[j]? := by
  induction ps with
  | nil => intro k j h; simp at h
  | cons p ps ih =>
    intro k j h hj
    have e : tkRows (p :: ps) = tkCells p ++ tkRows ps := by simp [tkRows]
    rw [e]
    cases k with
    | zero => rw [List.getElem?_append_left (by simp [tkCells]; omega)]; simp
    | succ k =>
      rw [List.getElem?_append_right (by simp [tkCells]; omega)]
      have : (k + 1) * 13 + j - (tkCells p).length = k * 13 + j := by simp [tkCells]; omega
      rw [this, ih k j (by simpa using h) hj]; simp
/-- Tracks that can be read. -/
structure TR (w : World) (p : Option Addr) (ps : List TV) : Prop where
  row : ps = [] ∨ ∃ b, p = some ⟨b, 0, none⟩ ∧ b < w.heap.size ∧ ∀ k (h : k < ps.length) j, j < 13 → w.cell? ⟨b, k * 13 + j, none⟩ = (tkCells ps[k])[j]?
  uses : ∀ q ∈ ps, Reads w q.2.1 1 q.1.st.uses.length (ints q.1.st.uses)
  list : ∀ q ∈ ps, Reads w q.2.2.1 1 q.1.list.length (zs q.1.list)
  made : ∀ q ∈ ps, Reads w q.2.2.2 1 q.1.made.length (zs q.1.made)
theorem TR.below {w w' : World} {B : Nat} {p : Option Addr} {ps : List TV} (h : TR w p ps) (hb : Below B w w') (hB : w.heap.size ≤ B) : TR w' p ps := by
  refine ⟨h.row.imp id fun ⟨b, e, hlt, hc⟩ => ⟨b, e, Nat.lt_of_lt_of_le hlt hb.size, fun k hk j hj => ?_⟩, fun q hq => (h.uses q hq).below hb hB, fun q hq => (h.list q hq).below hb hB, fun q hq => (h.made q hq).below hb hB⟩
  rw [hb.cell (p := ⟨b, k * 13 + j, none⟩) (by show b < B; omega)]; exact hc k hk j hj
theorem TR.cel {w : World} {p : Option Addr} {ps : List TV} (h : TR w p ps) {k : Nat} (hk : k < ps.length) : ∃ b, p = some ⟨b, 0, none⟩ ∧ b < w.heap.size ∧ ∀ k (h : k < ps.length) j, j < 13 → w.cell? ⟨b, k * 13 + j, none⟩ = (tkCells ps[k])[j]? := by
  rcases h.row with h | h
  · rw [h] at hk; simp at hk
  · exact h
theorem Reads.form {w : World} {v : Value} {n : Nat} {xs : List Value} (h : Reads w v 1 n xs) : ∃ p c, v = .slice p n c ∧ n ≤ c := by
  obtain ⟨_, p, c, h1, h2, _⟩ := h
  exact ⟨p, c, h1, h2⟩
theorem Reads.cell {w : World} {p : Option Addr} {n m c : Nat} {xs : List Value} (h : Reads w (.slice p m c) 1 n xs) (hn : 0 < n) : ∃ b off, p = some ⟨b, off, none⟩ ∧ b < w.heap.size ∧ ∀ i, i < n → w.cell? ⟨b, off + i, none⟩ = xs[i]? := by
  obtain ⟨hl, q, c', he, _, hrow⟩ := h
  injection he with he1 _ _
  rcases hrow with h | ⟨b, off, h1, h2⟩
  · omega
  · exact ⟨b, off, he1.trans h1, h2.1, fun i hi => h2.2 i (by omega)⟩

set_option maxRecDepth 50000 in
set_option maxHeartbeats 400000 in
theorem rpick_any (L : List Int) (v : Value) (n : Int) (w : World) (hn : -1 ≤ n) (hv : Reads w v 1 L.length (zs L)) :
    Calls Try.prog 86 #[v, .int .i64 n] w fun e w' => e = .returned (.int .i64 (pickL L n)) ∧ w' = w := by
  obtain ⟨p, c, rfl, hc⟩ := hv.form
  by_cases h0 : n < 0
  · have HP : Hid (pickL L n = 0) := by show pickL L n = 0; unfold pickL; rw [if_pos h0]
    clear hv
    go_enter Try.func86, Try.ntmps86
    go_wp2
    go_ret
    exact ⟨ret_int HP.out.symm, rfl⟩
  · obtain ⟨k, rfl⟩ : ∃ k : Nat, n = k := ⟨n.toNat, by omega⟩
    by_cases hlt : k < L.length
    · obtain ⟨b, off, rfl, hb, hcl⟩ := hv.cell (by omega)
      have c0 : w.cell? ⟨b, off + k, none⟩ = some (.int .i64 L[k]) := by rw [hcl k hlt, zs_get hlt]
      have HP : Hid (pickL L k = L[k]) := by show pickL L k = _; unfold pickL; rw [if_neg h0]; simp [hlt]
      clear hcl hv h0 hn
      go_enter Try.func86, Try.ntmps86
      go_wp2
      go_ret
      exact ⟨ret_int HP.out.symm, rfl⟩
    · have HP : Hid (pickL L k = 0) := by show pickL L k = _; unfold pickL; rw [if_neg h0, Int.toNat_natCast, List.getD_eq_getElem?_getD, List.getElem?_eq_none (by omega)]; rfl
      clear hv h0 hn
      go_enter Try.func86, Try.ntmps86
      go_wp2
      go_ret
      exact ⟨ret_int HP.out.symm, rfl⟩
theorem pickL_nat (L : List Int) (n : Nat) : pickL L n = L.getD n 0 := by
  unfold pickL; rw [if_neg (by omega)]; simp

set_option maxRecDepth 50000 in
set_option maxHeartbeats 400000 in
theorem less_any (a b : Int) (w : World) : Calls Try.prog 103 #[.int .i64 a, .int .i64 b] w fun e w' => e = .returned (.int .i64 (lesL a b)) ∧ w' = w := by
  by_cases h : a < b
  · go_enter Try.func103, Try.ntmps103
    go_wp2
    go_ret
    exact ⟨ret_int (by unfold lesL; rw [if_pos h]), rfl⟩
  · go_enter Try.func103, Try.ntmps103
    go_wp2
    go_ret
    exact ⟨ret_int (by unfold lesL; rw [if_neg (by omega)]), rfl⟩

set_option maxRecDepth 50000 in
set_option maxHeartbeats 400000 in
theorem quotient_any (a b : Int) (w : World) : Calls Try.prog 102 #[.int .i64 a, .int .i64 b] w fun e w' => e = .returned (.int .i64 (quoL a b)) ∧ w' = w := by
  by_cases h : b = 0
  · subst h
    go_enter Try.func102, Try.ntmps102
    go_wp2
    go_ret
    exact ⟨rfl, rfl⟩
  · have HB : Hid (b ≠ 0) := h
    have h1 : (b == 0) = false := by simp [h]
    go_enter Try.func102, Try.ntmps102
    go_wp2
    go_ret
    exact ⟨ret_int (by unfold quoL; rw [if_neg HB.out]), rfl⟩

set_option maxRecDepth 50000 in
set_option maxHeartbeats 1000000 in
theorem used_any (ps : List TV) (p : Option Addr) (cap : Nat) (s : St) (up : Option Addr) (uc k n : Nat) (w : World) (hr : TR w p ps)
    (hu : Reads w (.slice up s.uses.length uc) 1 s.uses.length (ints s.uses)) (hux : ∀ x ∈ s.uses, x < ps.length) :
    Calls Try.prog 87 #[.slice p ps.length cap, .agg #[.int .i64 s.no, .int .i64 s.kind, .string (S s.name), .slice up s.uses.length uc, .int .i64 s.num, .string (bs s.wd.1), .string (bs s.wd.2), .string (bs s.ck.1), .string (bs s.ck.2)], .int .i64 k, .int .i64 n] w
      fun e w' => e = .returned (.int .i64 (usedL (ps.map Prod.fst) s k n)) ∧ Below w.heap.size w w' := by
  by_cases hlt : k < s.uses.length
  · obtain ⟨ub, uo, rfl, hub, hrw⟩ := hu.cell (by omega)
    obtain ⟨j, hj⟩ : ∃ j, j = s.uses[k] := ⟨_, rfl⟩
    have hjl : j < ps.length := by rw [hj]; exact hux _ (List.getElem_mem _)
    obtain ⟨b, rfl, hb, hc⟩ := hr.cel hjl
    have cu : w.cell? ⟨ub, uo + k, none⟩ = some (.int .i64 (j : Int)) := by rw [hrw k hlt, ints_get hlt, ← hj]
    have hm := hr.made ps[j] (List.getElem_mem _)
    have c11 : w.cell? ⟨b, j * 13 + 11, none⟩ = some ps[j].2.2.2 := hc j hjl 11 (by omega)
    obtain ⟨q, hq⟩ : ∃ q, ps[j] = q := ⟨_, rfl⟩
    rw [hq] at hm c11
    obtain ⟨mp, mc, hmv, hmc⟩ := hm.form
    rw [hmv] at hm c11
    have HU : Hid (usedL (ps.map Prod.fst) s k n = q.1.made.getD n 0) := by
      show usedL _ _ _ _ = _
      unfold usedL
      rw [madeAt_of (j := j) (x := q.1) (by rw [List.getElem?_eq_getElem hlt, ← hj]) (by simp [hjl, hq])]
    have hpk := fun w1 (h1 : Below w.heap.size w w1) => rpick_any q.1.made (.slice mp q.1.made.length mc) n w1 (by omega) (hm.below h1 (Nat.le_refl _))
    have h0 : 0 ≤ n := Nat.zero_le _
    clear hc hr hj hux hrw hu hq hmv hm
    go_enter Try.func87, Try.ntmps87
    go_wp2_with (go_at_call 86; refine (hpk _ ((Below.refl _ _).alloc (Nat.le_refl _) _)).mono ?_; rintro e w1 ⟨rfl, hw1⟩; subst w1)
    go_ret
    exact ⟨ret_int (by rw [HU.out, pickL_nat]), (Below.refl _ _).alloc (Nat.le_refl _) _⟩
  · have HU : Hid (usedL (ps.map Prod.fst) s k n = 0) := by
      show usedL _ _ _ _ = _
      unfold usedL
      rw [madeAt_none (List.getElem?_eq_none (by omega))]; rfl
    clear hr hu hux
    go_enter Try.func87, Try.ntmps87
    go_wp2
    go_ret
    exact ⟨ret_int HU.out.symm, (Below.refl _ _).alloc (Nat.le_refl _) _⟩

set_option maxRecDepth 50000 in
set_option maxHeartbeats 1000000 in
theorem latest_any (ps : List TV) (p : Option Addr) (cap : Nat) (s : St) (up : Option Addr) (uc k : Nat) (w : World) (hr : TR w p ps)
    (hu : Reads w (.slice up s.uses.length uc) 1 s.uses.length (ints s.uses)) (hux : ∀ x ∈ s.uses, x < ps.length) (hml : ∀ q ∈ ps, q.1.made.length ≤ 4096) :
    Calls Try.prog 88 #[.slice p ps.length cap, .agg #[.int .i64 s.no, .int .i64 s.kind, .string (S s.name), .slice up s.uses.length uc, .int .i64 s.num, .string (bs s.wd.1), .string (bs s.wd.2), .string (bs s.ck.1), .string (bs s.ck.2)], .int .i64 k] w
      fun e w' => e = .returned (.int .i64 (lastL (ps.map Prod.fst) s k)) ∧ Below w.heap.size w w' := by
  by_cases hlt : k < s.uses.length
  · obtain ⟨ub, uo, rfl, hub, hrw⟩ := hu.cell (by omega)
    obtain ⟨j, hj⟩ : ∃ j, j = s.uses[k] := ⟨_, rfl⟩
    have hjl : j < ps.length := by rw [hj]; exact hux _ (List.getElem_mem _)
    obtain ⟨b, rfl, hb, hc⟩ := hr.cel hjl
    have cu : w.cell? ⟨ub, uo + k, none⟩ = some (.int .i64 (j : Int)) := by rw [hrw k hlt, ints_get hlt, ← hj]
    have hm := hr.made ps[j] (List.getElem_mem _)
    have hmx := hml ps[j] (List.getElem_mem _)
    have c11 : w.cell? ⟨b, j * 13 + 11, none⟩ = some ps[j].2.2.2 := hc j hjl 11 (by omega)
    obtain ⟨q, hq⟩ : ∃ q, ps[j] = q := ⟨_, rfl⟩
    rw [hq] at hm c11 hmx
    obtain ⟨mp, mc, hmv, hmc⟩ := hm.form
    rw [hmv] at hm c11
    have HU : Hid (lastL (ps.map Prod.fst) s k = q.1.made.getD (q.1.made.length - 1) 0) := by
      show lastL _ _ _ = _
      unfold lastL
      rw [madeAt_of (j := j) (x := q.1) (by rw [List.getElem?_eq_getElem hlt, ← hj]) (by simp [hjl, hq])]
    have hpk := fun w1 (h1 : Below w.heap.size w w1) => rpick_any q.1.made (.slice mp q.1.made.length mc) ((q.1.made.length : Int) - 1) w1 (by omega) (hm.below h1 (Nat.le_refl _))
    have HV : Hid (pickL q.1.made ((q.1.made.length : Int) - 1) = q.1.made.getD (q.1.made.length - 1) 0) := by
      show pickL _ _ = _
      unfold pickL
      by_cases h0 : q.1.made.length = 0
      · rw [if_pos (by omega)]
        rw [List.length_eq_zero_iff] at h0
        rw [h0]; rfl
      · rw [if_neg (by omega), show ((q.1.made.length : Int) - 1).toNat = q.1.made.length - 1 by omega]
    obtain ⟨L, hL⟩ : ∃ L, L = q.1.made.length := ⟨_, rfl⟩
    have HL : Hid (L = q.1.made.length) := hL
    rw [← hL] at hmx hpk c11 hmc
    clear hc hr hj hux hrw hu hq hmv hm hml hL
    go_enter Try.func88, Try.ntmps88
    go_wp2_with (go_at_call 86; refine (hpk _ ((Below.refl _ _).alloc (Nat.le_refl _) _)).mono ?_; rintro e w1 ⟨rfl, hw1⟩; subst w1)
    go_ret
    exact ⟨ret_int (by rw [HU.out, HL.out, HV.out]), (Below.refl _ _).alloc (Nat.le_refl _) _⟩
  · have HU : Hid (lastL (ps.map Prod.fst) s k = 0) := by
      show lastL _ _ _ = _
      unfold lastL
      rw [madeAt_none (List.getElem?_eq_none (by omega))]; rfl
    clear hr hu hux
    go_enter Try.func88, Try.ntmps88
    go_wp2
    go_ret
    exact ⟨ret_int HU.out.symm, (Below.refl _ _).alloc (Nat.le_refl _) _⟩
end Go.Proofs.Ytfbkjopidjojeab

namespace Go.Proofs.Ytfbkjopidjojeab
open Go.RowKit

/-- A step boxed: its block can be read. -/
theorem StB.all {w : World} {b : Nat} {s : St} {u : Value} (h : StB w b s u) : w.cell? ⟨b, 0, none⟩ = some (.int .i64 s.no) ∧ w.cell? ⟨b, 1, none⟩ = some (.int .i64 s.kind) ∧ w.cell? ⟨b, 2, none⟩ = some (.string (S s.name)) ∧ w.cell? ⟨b, 3, none⟩ = some u ∧ w.cell? ⟨b, 4, none⟩ = some (.int .i64 s.num) ∧ w.cell? ⟨b, 5, none⟩ = some (.string (bs s.wd.1)) ∧ w.cell? ⟨b, 6, none⟩ = some (.string (bs s.wd.2)) ∧ w.cell? ⟨b, 7, none⟩ = some (.string (bs s.ck.1)) ∧ w.cell? ⟨b, 8, none⟩ = some (.string (bs s.ck.2)) :=
  ⟨h.c 0, h.c 1, h.c 2, h.c 3, h.c 4, h.c 5, h.c 6, h.c 7, h.c 8⟩
/-- The world with a step boxed. -/
def ZS (w : World) (s : St) (u : Value) : World := w.alloc (Obj.cells #[.int .i64 s.no, .int .i64 s.kind, .string (S s.name), u, .int .i64 s.num, .string (bs s.wd.1), .string (bs s.wd.2), .string (bs s.ck.1), .string (bs s.ck.2)] 76)
theorem ZS_size (w : World) (s : St) (u : Value) : (ZS w s u).heap.size = w.heap.size + 1 := by simp [ZS]
theorem ZS_below (w : World) (s : St) (u : Value) : Below w.heap.size w (ZS w s u) := (Below.refl w.heap.size w).alloc (Nat.le_refl _) _
theorem ZS_s (w : World) (s : St) (u : Value) : StB (ZS w s u) w.heap.size s u := by
  unfold StB ZS
  rw [heap_alloc_new]
  rfl

/-- What a step reckons of three numbers. -/
theorem reckL_if (k : Nat) (a b c : Int) (h : k ≠ 8) : ∀ c', reckL k a b c = reckL k a b c' := by
  intro c'; unfold reckL; simp [h]

set_option maxRecDepth 50000 in
set_option maxHeartbeats 2000000 in
theorem reckon_k3 (ps : List TV) (p : Option Addr) (cap : Nat) (s : St) (up : Option Addr) (uc n : Nat) (w : World) (hr : TR w p ps)
    (hu : Reads w (.slice up s.uses.length uc) 1 s.uses.length (ints s.uses)) (hux : ∀ x ∈ s.uses, x < ps.length) (hk : s.kind = 3) :
    Calls Try.prog 89 #[.slice p ps.length cap, .agg #[.int .i64 s.no, .int .i64 s.kind, .string (S s.name), .slice up s.uses.length uc, .int .i64 s.num, .string (bs s.wd.1), .string (bs s.wd.2), .string (bs s.ck.1), .string (bs s.ck.2)], .int .i64 n] w
      fun e w' => e = .returned (.int .i64 (reckL s.kind (usedL (ps.map Prod.fst) s 0 n) (usedL (ps.map Prod.fst) s 1 n) (usedL (ps.map Prod.fst) s 2 n))) ∧ Below w.heap.size w w' := by
  have hz := ZS_below w s (.slice up s.uses.length uc)
  have hzz := ZS_size w s (.slice up s.uses.length uc)
  have hs := ZS_s w s (.slice up s.uses.length uc)
  have hcall := fun (k : Nat) w1 (h1 : Below w.heap.size w w1) => used_any ps p cap s up uc k n w1 (hr.below h1 (Nat.le_refl _)) (hu.below h1 (Nat.le_refl _)) hux
  obtain ⟨a, ha⟩ : ∃ a, usedL (ps.map Prod.fst) s 0 n = a := ⟨_, rfl⟩
  obtain ⟨b, hb⟩ : ∃ b, usedL (ps.map Prod.fst) s 1 n = b := ⟨_, rfl⟩
  obtain ⟨c, hc⟩ : ∃ c, usedL (ps.map Prod.fst) s 2 n = c := ⟨_, rfl⟩
  have hcall0 := fun w1 h1 => hcall 0 w1 h1
  have hcall1 := fun w1 h1 => hcall 1 w1 h1
  have hcall2 := fun w1 h1 => hcall 2 w1 h1
  rw [ha] at hcall0
  rw [hb] at hcall1
  rw [hc] at hcall2
  rw [ha, hb, hc]
  have g3 : ((s.kind : Int) == 3) = true := by simp; omega
  have HK : Hid (reckL s.kind a b c = wr (a + b)) := by show reckL _ _ _ _ = _; unfold reckL; rw [hk]; simp
  clear hr hu hux hcall ha hb hc hk
  go_enter Try.func89, Try.ntmps89
  go_wp2_with fail
  refine (hcall0 _ hz).mono ?_
  rintro e w1 ⟨rfl, hb1⟩
  have hB1 : Below w.heap.size w w1 := hz.trans (hb1.mono (by rw [hzz]; omega))
  have hs1 := hs.below hb1 (by rw [hzz]; omega)
  have hz1 : (ZS w s (.slice up s.uses.length uc)).heap.size ≤ w1.heap.size := hb1.size
  rw [hzz] at hz1
  obtain ⟨d0, d1, d2, d3, d4, d5, d6, d7, d8⟩ := hs1.all
  go_wp2_with fail
  refine (hcall1 w1 hB1).mono ?_
  rintro e w2 ⟨rfl, hb2⟩
  have hB2 : Below w.heap.size w w2 := hB1.trans (hb2.mono (by omega))
  have hs2 := hs1.below hb2 (by omega)
  have hz2 := hb2.size
  obtain ⟨f0, f1, f2, f3, f4, f5, f6, f7, f8⟩ := hs2.all
  clear hcall0 hcall1 d0 d1 d2 d3 d4 d5 d6 d7 d8
  go_wp2
  go_ret
  exact ⟨ret_int (by rw [HK.out]), hB2⟩

set_option maxRecDepth 50000 in
set_option maxHeartbeats 2000000 in
theorem reckon_k4 (ps : List TV) (p : Option Addr) (cap : Nat) (s : St) (up : Option Addr) (uc n : Nat) (w : World) (hr : TR w p ps)
    (hu : Reads w (.slice up s.uses.length uc) 1 s.uses.length (ints s.uses)) (hux : ∀ x ∈ s.uses, x < ps.length) (hk : s.kind = 4) :
    Calls Try.prog 89 #[.slice p ps.length cap, .agg #[.int .i64 s.no, .int .i64 s.kind, .string (S s.name), .slice up s.uses.length uc, .int .i64 s.num, .string (bs s.wd.1), .string (bs s.wd.2), .string (bs s.ck.1), .string (bs s.ck.2)], .int .i64 n] w
      fun e w' => e = .returned (.int .i64 (reckL s.kind (usedL (ps.map Prod.fst) s 0 n) (usedL (ps.map Prod.fst) s 1 n) (usedL (ps.map Prod.fst) s 2 n))) ∧ Below w.heap.size w w' := by
  have hz := ZS_below w s (.slice up s.uses.length uc)
  have hzz := ZS_size w s (.slice up s.uses.length uc)
  have hs := ZS_s w s (.slice up s.uses.length uc)
  have hcall := fun (k : Nat) w1 (h1 : Below w.heap.size w w1) => used_any ps p cap s up uc k n w1 (hr.below h1 (Nat.le_refl _)) (hu.below h1 (Nat.le_refl _)) hux
  obtain ⟨a, ha⟩ : ∃ a, usedL (ps.map Prod.fst) s 0 n = a := ⟨_, rfl⟩
  obtain ⟨b, hb⟩ : ∃ b, usedL (ps.map Prod.fst) s 1 n = b := ⟨_, rfl⟩
  obtain ⟨c, hc⟩ : ∃ c, usedL (ps.map Prod.fst) s 2 n = c := ⟨_, rfl⟩
  have hcall0 := fun w1 h1 => hcall 0 w1 h1
  have hcall1 := fun w1 h1 => hcall 1 w1 h1
  have hcall2 := fun w1 h1 => hcall 2 w1 h1
  rw [ha] at hcall0
  rw [hb] at hcall1
  rw [hc] at hcall2
  rw [ha, hb, hc]
  have g3 : ((s.kind : Int) == 3) = false := by simp; omega
  have g4 : ((s.kind : Int) == 4) = true := by simp; omega
  have HK : Hid (reckL s.kind a b c = wr (a - b)) := by show reckL _ _ _ _ = _; unfold reckL; rw [hk]; simp
  clear hr hu hux hcall ha hb hc hk
  go_enter Try.func89, Try.ntmps89
  go_wp2_with fail
  refine (hcall0 _ hz).mono ?_
  rintro e w1 ⟨rfl, hb1⟩
  have hB1 : Below w.heap.size w w1 := hz.trans (hb1.mono (by rw [hzz]; omega))
  have hs1 := hs.below hb1 (by rw [hzz]; omega)
  have hz1 : (ZS w s (.slice up s.uses.length uc)).heap.size ≤ w1.heap.size := hb1.size
  rw [hzz] at hz1
  obtain ⟨d0, d1, d2, d3, d4, d5, d6, d7, d8⟩ := hs1.all
  go_wp2_with fail
  refine (hcall1 w1 hB1).mono ?_
  rintro e w2 ⟨rfl, hb2⟩
  have hB2 : Below w.heap.size w w2 := hB1.trans (hb2.mono (by omega))
  have hs2 := hs1.below hb2 (by omega)
  have hz2 := hb2.size
  obtain ⟨f0, f1, f2, f3, f4, f5, f6, f7, f8⟩ := hs2.all
  clear hcall0 hcall1 d0 d1 d2 d3 d4 d5 d6 d7 d8
  go_wp2
  go_ret
  exact ⟨ret_int (by rw [HK.out]), hB2⟩

set_option maxRecDepth 50000 in
set_option maxHeartbeats 2000000 in
theorem reckon_k5 (ps : List TV) (p : Option Addr) (cap : Nat) (s : St) (up : Option Addr) (uc n : Nat) (w : World) (hr : TR w p ps)
    (hu : Reads w (.slice up s.uses.length uc) 1 s.uses.length (ints s.uses)) (hux : ∀ x ∈ s.uses, x < ps.length) (hk : s.kind = 5) :
    Calls Try.prog 89 #[.slice p ps.length cap, .agg #[.int .i64 s.no, .int .i64 s.kind, .string (S s.name), .slice up s.uses.length uc, .int .i64 s.num, .string (bs s.wd.1), .string (bs s.wd.2), .string (bs s.ck.1), .string (bs s.ck.2)], .int .i64 n] w
      fun e w' => e = .returned (.int .i64 (reckL s.kind (usedL (ps.map Prod.fst) s 0 n) (usedL (ps.map Prod.fst) s 1 n) (usedL (ps.map Prod.fst) s 2 n))) ∧ Below w.heap.size w w' := by
  have hz := ZS_below w s (.slice up s.uses.length uc)
  have hzz := ZS_size w s (.slice up s.uses.length uc)
  have hs := ZS_s w s (.slice up s.uses.length uc)
  have hcall := fun (k : Nat) w1 (h1 : Below w.heap.size w w1) => used_any ps p cap s up uc k n w1 (hr.below h1 (Nat.le_refl _)) (hu.below h1 (Nat.le_refl _)) hux
  obtain ⟨a, ha⟩ : ∃ a, usedL (ps.map Prod.fst) s 0 n = a := ⟨_, rfl⟩
  obtain ⟨b, hb⟩ : ∃ b, usedL (ps.map Prod.fst) s 1 n = b := ⟨_, rfl⟩
  obtain ⟨c, hc⟩ : ∃ c, usedL (ps.map Prod.fst) s 2 n = c := ⟨_, rfl⟩
  have hcall0 := fun w1 h1 => hcall 0 w1 h1
  have hcall1 := fun w1 h1 => hcall 1 w1 h1
  have hcall2 := fun w1 h1 => hcall 2 w1 h1
  rw [ha] at hcall0
  rw [hb] at hcall1
  rw [hc] at hcall2
  rw [ha, hb, hc]
  have g3 : ((s.kind : Int) == 3) = false := by simp; omega
  have g4 : ((s.kind : Int) == 4) = false := by simp; omega
  have g5 : ((s.kind : Int) == 5) = true := by simp; omega
  have HK : Hid (reckL s.kind a b c = wr (a * b)) := by show reckL _ _ _ _ = _; unfold reckL; rw [hk]; simp
  clear hr hu hux hcall ha hb hc hk
  go_enter Try.func89, Try.ntmps89
  go_wp2_with fail
  refine (hcall0 _ hz).mono ?_
  rintro e w1 ⟨rfl, hb1⟩
  have hB1 : Below w.heap.size w w1 := hz.trans (hb1.mono (by rw [hzz]; omega))
  have hs1 := hs.below hb1 (by rw [hzz]; omega)
  have hz1 : (ZS w s (.slice up s.uses.length uc)).heap.size ≤ w1.heap.size := hb1.size
  rw [hzz] at hz1
  obtain ⟨d0, d1, d2, d3, d4, d5, d6, d7, d8⟩ := hs1.all
  go_wp2_with fail
  refine (hcall1 w1 hB1).mono ?_
  rintro e w2 ⟨rfl, hb2⟩
  have hB2 : Below w.heap.size w w2 := hB1.trans (hb2.mono (by omega))
  have hs2 := hs1.below hb2 (by omega)
  have hz2 := hb2.size
  obtain ⟨f0, f1, f2, f3, f4, f5, f6, f7, f8⟩ := hs2.all
  clear hcall0 hcall1 d0 d1 d2 d3 d4 d5 d6 d7 d8
  go_wp2
  go_ret
  exact ⟨ret_int (by rw [HK.out]), hB2⟩

set_option maxRecDepth 50000 in
set_option maxHeartbeats 2000000 in
theorem reckon_k6 (ps : List TV) (p : Option Addr) (cap : Nat) (s : St) (up : Option Addr) (uc n : Nat) (w : World) (hr : TR w p ps)
    (hu : Reads w (.slice up s.uses.length uc) 1 s.uses.length (ints s.uses)) (hux : ∀ x ∈ s.uses, x < ps.length) (hk : s.kind = 6) :
    Calls Try.prog 89 #[.slice p ps.length cap, .agg #[.int .i64 s.no, .int .i64 s.kind, .string (S s.name), .slice up s.uses.length uc, .int .i64 s.num, .string (bs s.wd.1), .string (bs s.wd.2), .string (bs s.ck.1), .string (bs s.ck.2)], .int .i64 n] w
      fun e w' => e = .returned (.int .i64 (reckL s.kind (usedL (ps.map Prod.fst) s 0 n) (usedL (ps.map Prod.fst) s 1 n) (usedL (ps.map Prod.fst) s 2 n))) ∧ Below w.heap.size w w' := by
  have hz := ZS_below w s (.slice up s.uses.length uc)
  have hzz := ZS_size w s (.slice up s.uses.length uc)
  have hs := ZS_s w s (.slice up s.uses.length uc)
  have hcall := fun (k : Nat) w1 (h1 : Below w.heap.size w w1) => used_any ps p cap s up uc k n w1 (hr.below h1 (Nat.le_refl _)) (hu.below h1 (Nat.le_refl _)) hux
  obtain ⟨a, ha⟩ : ∃ a, usedL (ps.map Prod.fst) s 0 n = a := ⟨_, rfl⟩
  obtain ⟨b, hb⟩ : ∃ b, usedL (ps.map Prod.fst) s 1 n = b := ⟨_, rfl⟩
  obtain ⟨c, hc⟩ : ∃ c, usedL (ps.map Prod.fst) s 2 n = c := ⟨_, rfl⟩
  have hcall0 := fun w1 h1 => hcall 0 w1 h1
  have hcall1 := fun w1 h1 => hcall 1 w1 h1
  have hcall2 := fun w1 h1 => hcall 2 w1 h1
  rw [ha] at hcall0
  rw [hb] at hcall1
  rw [hc] at hcall2
  rw [ha, hb, hc]
  have g3 : ((s.kind : Int) == 3) = false := by simp; omega
  have g4 : ((s.kind : Int) == 4) = false := by simp; omega
  have g5 : ((s.kind : Int) == 5) = false := by simp; omega
  have g6 : ((s.kind : Int) == 6) = true := by simp; omega
  have HK : Hid (reckL s.kind a b c = quoL a b) := by show reckL _ _ _ _ = _; unfold reckL; rw [hk]; simp
  clear hr hu hux hcall ha hb hc hk
  go_enter Try.func89, Try.ntmps89
  go_wp2_with fail
  refine (hcall0 _ hz).mono ?_
  rintro e w1 ⟨rfl, hb1⟩
  have hB1 : Below w.heap.size w w1 := hz.trans (hb1.mono (by rw [hzz]; omega))
  have hs1 := hs.below hb1 (by rw [hzz]; omega)
  have hz1 : (ZS w s (.slice up s.uses.length uc)).heap.size ≤ w1.heap.size := hb1.size
  rw [hzz] at hz1
  obtain ⟨d0, d1, d2, d3, d4, d5, d6, d7, d8⟩ := hs1.all
  go_wp2_with fail
  refine (hcall1 w1 hB1).mono ?_
  rintro e w2 ⟨rfl, hb2⟩
  have hB2 : Below w.heap.size w w2 := hB1.trans (hb2.mono (by omega))
  have hs2 := hs1.below hb2 (by omega)
  have hz2 := hb2.size
  obtain ⟨f0, f1, f2, f3, f4, f5, f6, f7, f8⟩ := hs2.all
  clear hcall0 hcall1 d0 d1 d2 d3 d4 d5 d6 d7 d8
  go_wp2_with fail
  refine (quotient_any a b _).mono ?_
  rintro e w3 ⟨rfl, hw3⟩
  subst w3
  go_wp2
  go_ret
  exact ⟨ret_int (by rw [HK.out]), hB2⟩

set_option maxRecDepth 50000 in
set_option maxHeartbeats 2000000 in
theorem reckon_k7 (ps : List TV) (p : Option Addr) (cap : Nat) (s : St) (up : Option Addr) (uc n : Nat) (w : World) (hr : TR w p ps)
    (hu : Reads w (.slice up s.uses.length uc) 1 s.uses.length (ints s.uses)) (hux : ∀ x ∈ s.uses, x < ps.length) (hk : s.kind = 7) :
    Calls Try.prog 89 #[.slice p ps.length cap, .agg #[.int .i64 s.no, .int .i64 s.kind, .string (S s.name), .slice up s.uses.length uc, .int .i64 s.num, .string (bs s.wd.1), .string (bs s.wd.2), .string (bs s.ck.1), .string (bs s.ck.2)], .int .i64 n] w
      fun e w' => e = .returned (.int .i64 (reckL s.kind (usedL (ps.map Prod.fst) s 0 n) (usedL (ps.map Prod.fst) s 1 n) (usedL (ps.map Prod.fst) s 2 n))) ∧ Below w.heap.size w w' := by
  have hz := ZS_below w s (.slice up s.uses.length uc)
  have hzz := ZS_size w s (.slice up s.uses.length uc)
  have hs := ZS_s w s (.slice up s.uses.length uc)
  have hcall := fun (k : Nat) w1 (h1 : Below w.heap.size w w1) => used_any ps p cap s up uc k n w1 (hr.below h1 (Nat.le_refl _)) (hu.below h1 (Nat.le_refl _)) hux
  obtain ⟨a, ha⟩ : ∃ a, usedL (ps.map Prod.fst) s 0 n = a := ⟨_, rfl⟩
  obtain ⟨b, hb⟩ : ∃ b, usedL (ps.map Prod.fst) s 1 n = b := ⟨_, rfl⟩
  obtain ⟨c, hc⟩ : ∃ c, usedL (ps.map Prod.fst) s 2 n = c := ⟨_, rfl⟩
  have hcall0 := fun w1 h1 => hcall 0 w1 h1
  have hcall1 := fun w1 h1 => hcall 1 w1 h1
  have hcall2 := fun w1 h1 => hcall 2 w1 h1
  rw [ha] at hcall0
  rw [hb] at hcall1
  rw [hc] at hcall2
  rw [ha, hb, hc]
  have g3 : ((s.kind : Int) == 3) = false := by simp; omega
  have g4 : ((s.kind : Int) == 4) = false := by simp; omega
  have g5 : ((s.kind : Int) == 5) = false := by simp; omega
  have g6 : ((s.kind : Int) == 6) = false := by simp; omega
  have g7 : ((s.kind : Int) == 7) = true := by simp; omega
  have HK : Hid (reckL s.kind a b c = lesL a b) := by show reckL _ _ _ _ = _; unfold reckL; rw [hk]; simp
  clear hr hu hux hcall ha hb hc hk
  go_enter Try.func89, Try.ntmps89
  go_wp2_with fail
  refine (hcall0 _ hz).mono ?_
  rintro e w1 ⟨rfl, hb1⟩
  have hB1 : Below w.heap.size w w1 := hz.trans (hb1.mono (by rw [hzz]; omega))
  have hs1 := hs.below hb1 (by rw [hzz]; omega)
  have hz1 : (ZS w s (.slice up s.uses.length uc)).heap.size ≤ w1.heap.size := hb1.size
  rw [hzz] at hz1
  obtain ⟨d0, d1, d2, d3, d4, d5, d6, d7, d8⟩ := hs1.all
  go_wp2_with fail
  refine (hcall1 w1 hB1).mono ?_
  rintro e w2 ⟨rfl, hb2⟩
  have hB2 : Below w.heap.size w w2 := hB1.trans (hb2.mono (by omega))
  have hs2 := hs1.below hb2 (by omega)
  have hz2 := hb2.size
  obtain ⟨f0, f1, f2, f3, f4, f5, f6, f7, f8⟩ := hs2.all
  clear hcall0 hcall1 d0 d1 d2 d3 d4 d5 d6 d7 d8
  go_wp2_with fail
  refine (less_any a b _).mono ?_
  rintro e w3 ⟨rfl, hw3⟩
  subst w3
  go_wp2
  go_ret
  exact ⟨ret_int (by rw [HK.out]), hB2⟩

set_option maxRecDepth 50000 in
set_option maxHeartbeats 2000000 in
theorem reckon_k8a (ps : List TV) (p : Option Addr) (cap : Nat) (s : St) (up : Option Addr) (uc n : Nat) (w : World) (hr : TR w p ps)
    (hu : Reads w (.slice up s.uses.length uc) 1 s.uses.length (ints s.uses)) (hux : ∀ x ∈ s.uses, x < ps.length) (hk : s.kind = 8) (hne : usedL (ps.map Prod.fst) s 0 n ≠ 0) :
    Calls Try.prog 89 #[.slice p ps.length cap, .agg #[.int .i64 s.no, .int .i64 s.kind, .string (S s.name), .slice up s.uses.length uc, .int .i64 s.num, .string (bs s.wd.1), .string (bs s.wd.2), .string (bs s.ck.1), .string (bs s.ck.2)], .int .i64 n] w
      fun e w' => e = .returned (.int .i64 (reckL s.kind (usedL (ps.map Prod.fst) s 0 n) (usedL (ps.map Prod.fst) s 1 n) (usedL (ps.map Prod.fst) s 2 n))) ∧ Below w.heap.size w w' := by
  have hz := ZS_below w s (.slice up s.uses.length uc)
  have hzz := ZS_size w s (.slice up s.uses.length uc)
  have hs := ZS_s w s (.slice up s.uses.length uc)
  have hcall := fun (k : Nat) w1 (h1 : Below w.heap.size w w1) => used_any ps p cap s up uc k n w1 (hr.below h1 (Nat.le_refl _)) (hu.below h1 (Nat.le_refl _)) hux
  obtain ⟨a, ha⟩ : ∃ a, usedL (ps.map Prod.fst) s 0 n = a := ⟨_, rfl⟩
  obtain ⟨b, hb⟩ : ∃ b, usedL (ps.map Prod.fst) s 1 n = b := ⟨_, rfl⟩
  obtain ⟨c, hc⟩ : ∃ c, usedL (ps.map Prod.fst) s 2 n = c := ⟨_, rfl⟩
  have hcall0 := fun w1 h1 => hcall 0 w1 h1
  have hcall1 := fun w1 h1 => hcall 1 w1 h1
  have hcall2 := fun w1 h1 => hcall 2 w1 h1
  rw [ha] at hcall0
  rw [hb] at hcall1
  rw [hc] at hcall2
  rw [ha, hb, hc]
  have g3 : ((s.kind : Int) == 3) = false := by simp; omega
  have g4 : ((s.kind : Int) == 4) = false := by simp; omega
  have g5 : ((s.kind : Int) == 5) = false := by simp; omega
  have g6 : ((s.kind : Int) == 6) = false := by simp; omega
  have g7 : ((s.kind : Int) == 7) = false := by simp; omega
  have g8 : ((s.kind : Int) == 8) = true := by simp; omega
  rw [ha] at hne
  have hne1 : (a == 0) = false := by simp [hne]
  have hne2 : (a != 0) = true := by simp [hne]
  have HK : Hid (reckL s.kind a b c = b) := by show reckL _ _ _ _ = _; unfold reckL; rw [hk]; simp [hne]
  clear hr hu hux hcall ha hb hc hk hne
  go_enter Try.func89, Try.ntmps89
  go_wp2_with fail
  refine (hcall0 _ hz).mono ?_
  rintro e w1 ⟨rfl, hb1⟩
  have hB1 : Below w.heap.size w w1 := hz.trans (hb1.mono (by rw [hzz]; omega))
  have hs1 := hs.below hb1 (by rw [hzz]; omega)
  have hz1 : (ZS w s (.slice up s.uses.length uc)).heap.size ≤ w1.heap.size := hb1.size
  rw [hzz] at hz1
  obtain ⟨d0, d1, d2, d3, d4, d5, d6, d7, d8⟩ := hs1.all
  go_wp2_with fail
  refine (hcall1 w1 hB1).mono ?_
  rintro e w2 ⟨rfl, hb2⟩
  have hB2 : Below w.heap.size w w2 := hB1.trans (hb2.mono (by omega))
  have hs2 := hs1.below hb2 (by omega)
  have hz2 := hb2.size
  obtain ⟨f0, f1, f2, f3, f4, f5, f6, f7, f8⟩ := hs2.all
  clear hcall0 hcall1 d0 d1 d2 d3 d4 d5 d6 d7 d8
  go_wp2
  go_ret
  exact ⟨ret_int (by rw [HK.out]), hB2⟩

set_option maxRecDepth 50000 in
set_option maxHeartbeats 2000000 in
theorem reckon_k8b (ps : List TV) (p : Option Addr) (cap : Nat) (s : St) (up : Option Addr) (uc n : Nat) (w : World) (hr : TR w p ps)
    (hu : Reads w (.slice up s.uses.length uc) 1 s.uses.length (ints s.uses)) (hux : ∀ x ∈ s.uses, x < ps.length) (hk : s.kind = 8) (hne : usedL (ps.map Prod.fst) s 0 n = 0) :
    Calls Try.prog 89 #[.slice p ps.length cap, .agg #[.int .i64 s.no, .int .i64 s.kind, .string (S s.name), .slice up s.uses.length uc, .int .i64 s.num, .string (bs s.wd.1), .string (bs s.wd.2), .string (bs s.ck.1), .string (bs s.ck.2)], .int .i64 n] w
      fun e w' => e = .returned (.int .i64 (reckL s.kind (usedL (ps.map Prod.fst) s 0 n) (usedL (ps.map Prod.fst) s 1 n) (usedL (ps.map Prod.fst) s 2 n))) ∧ Below w.heap.size w w' := by
  have hz := ZS_below w s (.slice up s.uses.length uc)
  have hzz := ZS_size w s (.slice up s.uses.length uc)
  have hs := ZS_s w s (.slice up s.uses.length uc)
  have hcall := fun (k : Nat) w1 (h1 : Below w.heap.size w w1) => used_any ps p cap s up uc k n w1 (hr.below h1 (Nat.le_refl _)) (hu.below h1 (Nat.le_refl _)) hux
  obtain ⟨a, ha⟩ : ∃ a, usedL (ps.map Prod.fst) s 0 n = a := ⟨_, rfl⟩
  obtain ⟨b, hb⟩ : ∃ b, usedL (ps.map Prod.fst) s 1 n = b := ⟨_, rfl⟩
  obtain ⟨c, hc⟩ : ∃ c, usedL (ps.map Prod.fst) s 2 n = c := ⟨_, rfl⟩
  have hcall0 := fun w1 h1 => hcall 0 w1 h1
  have hcall1 := fun w1 h1 => hcall 1 w1 h1
  have hcall2 := fun w1 h1 => hcall 2 w1 h1
  rw [ha] at hcall0
  rw [hb] at hcall1
  rw [hc] at hcall2
  rw [ha, hb, hc]
  have g3 : ((s.kind : Int) == 3) = false := by simp; omega
  have g4 : ((s.kind : Int) == 4) = false := by simp; omega
  have g5 : ((s.kind : Int) == 5) = false := by simp; omega
  have g6 : ((s.kind : Int) == 6) = false := by simp; omega
  have g7 : ((s.kind : Int) == 7) = false := by simp; omega
  have g8 : ((s.kind : Int) == 8) = true := by simp; omega
  rw [ha] at hne
  have hne1 : (a == 0) = true := by simp [hne]
  have hne2 : (a != 0) = false := by simp [hne]
  have HK : Hid (reckL s.kind a b c = c) := by show reckL _ _ _ _ = _; unfold reckL; rw [hk]; simp [hne]
  clear hr hu hux hcall ha hb hc hk hne
  go_enter Try.func89, Try.ntmps89
  go_wp2_with fail
  refine (hcall0 _ hz).mono ?_
  rintro e w1 ⟨rfl, hb1⟩
  have hB1 : Below w.heap.size w w1 := hz.trans (hb1.mono (by rw [hzz]; omega))
  have hs1 := hs.below hb1 (by rw [hzz]; omega)
  have hz1 : (ZS w s (.slice up s.uses.length uc)).heap.size ≤ w1.heap.size := hb1.size
  rw [hzz] at hz1
  obtain ⟨d0, d1, d2, d3, d4, d5, d6, d7, d8⟩ := hs1.all
  go_wp2_with fail
  refine (hcall1 w1 hB1).mono ?_
  rintro e w2 ⟨rfl, hb2⟩
  have hB2 : Below w.heap.size w w2 := hB1.trans (hb2.mono (by omega))
  have hs2 := hs1.below hb2 (by omega)
  have hz2 := hb2.size
  obtain ⟨f0, f1, f2, f3, f4, f5, f6, f7, f8⟩ := hs2.all
  clear hcall0 hcall1 d0 d1 d2 d3 d4 d5 d6 d7 d8
  go_wp2_with fail
  refine (hcall2 w2 hB2).mono ?_
  rintro e w3 ⟨rfl, hb3⟩
  have hB3 : Below w.heap.size w w3 := hB2.trans (hb3.mono (by omega))
  go_wp2
  go_ret
  exact ⟨ret_int (by rw [HK.out]), hB3⟩

set_option maxRecDepth 50000 in
set_option maxHeartbeats 2000000 in
theorem reckon_no (ps : List TV) (p : Option Addr) (cap : Nat) (s : St) (up : Option Addr) (uc n : Nat) (w : World) (hr : TR w p ps)
    (hu : Reads w (.slice up s.uses.length uc) 1 s.uses.length (ints s.uses)) (hux : ∀ x ∈ s.uses, x < ps.length) (hk : ¬ (3 ≤ s.kind ∧ s.kind ≤ 8)) :
    Calls Try.prog 89 #[.slice p ps.length cap, .agg #[.int .i64 s.no, .int .i64 s.kind, .string (S s.name), .slice up s.uses.length uc, .int .i64 s.num, .string (bs s.wd.1), .string (bs s.wd.2), .string (bs s.ck.1), .string (bs s.ck.2)], .int .i64 n] w
      fun e w' => e = .returned (.int .i64 (reckL s.kind (usedL (ps.map Prod.fst) s 0 n) (usedL (ps.map Prod.fst) s 1 n) (usedL (ps.map Prod.fst) s 2 n))) ∧ Below w.heap.size w w' := by
  have hz := ZS_below w s (.slice up s.uses.length uc)
  have hzz := ZS_size w s (.slice up s.uses.length uc)
  have hs := ZS_s w s (.slice up s.uses.length uc)
  have hcall := fun (k : Nat) w1 (h1 : Below w.heap.size w w1) => used_any ps p cap s up uc k n w1 (hr.below h1 (Nat.le_refl _)) (hu.below h1 (Nat.le_refl _)) hux
  obtain ⟨a, ha⟩ : ∃ a, usedL (ps.map Prod.fst) s 0 n = a := ⟨_, rfl⟩
  obtain ⟨b, hb⟩ : ∃ b, usedL (ps.map Prod.fst) s 1 n = b := ⟨_, rfl⟩
  obtain ⟨c, hc⟩ : ∃ c, usedL (ps.map Prod.fst) s 2 n = c := ⟨_, rfl⟩
  have hcall0 := fun w1 h1 => hcall 0 w1 h1
  have hcall1 := fun w1 h1 => hcall 1 w1 h1
  have hcall2 := fun w1 h1 => hcall 2 w1 h1
  rw [ha] at hcall0
  rw [hb] at hcall1
  rw [hc] at hcall2
  rw [ha, hb, hc]
  have g3 : ((s.kind : Int) == 3) = false := by simp; omega
  have g4 : ((s.kind : Int) == 4) = false := by simp; omega
  have g5 : ((s.kind : Int) == 5) = false := by simp; omega
  have g6 : ((s.kind : Int) == 6) = false := by simp; omega
  have g7 : ((s.kind : Int) == 7) = false := by simp; omega
  have g8 : ((s.kind : Int) == 8) = false := by simp; omega
  have HK : Hid (reckL s.kind a b c = 0) := by show reckL _ _ _ _ = _; unfold reckL; rw [if_neg (by omega), if_neg (by omega), if_neg (by omega), if_neg (by omega), if_neg (by omega), if_neg (by omega)]
  clear hr hu hux hcall ha hb hc hk
  go_enter Try.func89, Try.ntmps89
  go_wp2_with fail
  refine (hcall0 _ hz).mono ?_
  rintro e w1 ⟨rfl, hb1⟩
  have hB1 : Below w.heap.size w w1 := hz.trans (hb1.mono (by rw [hzz]; omega))
  have hs1 := hs.below hb1 (by rw [hzz]; omega)
  have hz1 : (ZS w s (.slice up s.uses.length uc)).heap.size ≤ w1.heap.size := hb1.size
  rw [hzz] at hz1
  obtain ⟨d0, d1, d2, d3, d4, d5, d6, d7, d8⟩ := hs1.all
  go_wp2_with fail
  refine (hcall1 w1 hB1).mono ?_
  rintro e w2 ⟨rfl, hb2⟩
  have hB2 : Below w.heap.size w w2 := hB1.trans (hb2.mono (by omega))
  have hs2 := hs1.below hb2 (by omega)
  have hz2 := hb2.size
  obtain ⟨f0, f1, f2, f3, f4, f5, f6, f7, f8⟩ := hs2.all
  clear hcall0 hcall1 d0 d1 d2 d3 d4 d5 d6 d7 d8
  go_wp2
  go_ret
  exact ⟨ret_int (by rw [HK.out]), hB2⟩

theorem reckon_any (ps : List TV) (p : Option Addr) (cap : Nat) (s : St) (up : Option Addr) (uc n : Nat) (w : World) (hr : TR w p ps)
    (hu : Reads w (.slice up s.uses.length uc) 1 s.uses.length (ints s.uses)) (hux : ∀ x ∈ s.uses, x < ps.length) :
    Calls Try.prog 89 #[.slice p ps.length cap, .agg #[.int .i64 s.no, .int .i64 s.kind, .string (S s.name), .slice up s.uses.length uc, .int .i64 s.num, .string (bs s.wd.1), .string (bs s.wd.2), .string (bs s.ck.1), .string (bs s.ck.2)], .int .i64 n] w
      fun e w' => e = .returned (.int .i64 (reckL s.kind (usedL (ps.map Prod.fst) s 0 n) (usedL (ps.map Prod.fst) s 1 n) (usedL (ps.map Prod.fst) s 2 n))) ∧ Below w.heap.size w w' := by
  by_cases h3 : s.kind = 3
  · exact reckon_k3 ps p cap s up uc n w hr hu hux h3
  by_cases h4 : s.kind = 4
  · exact reckon_k4 ps p cap s up uc n w hr hu hux h4
  by_cases h5 : s.kind = 5
  · exact reckon_k5 ps p cap s up uc n w hr hu hux h5
  by_cases h6 : s.kind = 6
  · exact reckon_k6 ps p cap s up uc n w hr hu hux h6
  by_cases h7 : s.kind = 7
  · exact reckon_k7 ps p cap s up uc n w hr hu hux h7
  by_cases h8 : s.kind = 8
  · by_cases h0 : usedL (ps.map Prod.fst) s 0 n = 0
    · exact reckon_k8b ps p cap s up uc n w hr hu hux h8 h0
    · exact reckon_k8a ps p cap s up uc n w hr hu hux h8 h0
  exact reckon_no ps p cap s up uc n w hr hu hux (by omega)
end Go.Proofs.Ytfbkjopidjojeab

namespace Go.Proofs.Ytfbkjopidjojeab
open Go.RowKit

/-- What is known of all tracks while a run goes. -/
structure TWf (ps : List TV) : Prop where
  use : ∀ q ∈ ps, ∀ x ∈ q.1.st.uses, x < ps.length
  len : ∀ q ∈ ps, q.1.made.length ≤ 4096
  wd : ∀ q ∈ ps, q.1.st.kind = 11 → q.1.st.wd.2 ≠ []
  wl : ∀ q ∈ ps, q.1.st.wd.1.length ≤ 12 ∧ q.1.st.wd.2.length ≤ 12
  ck : ∀ q ∈ ps, q.1.st.ck.1.length ≤ 64 ∧ q.1.st.ck.2.length ≤ 64
  z : ∀ q ∈ ps, q.1.st.ck.2 = [] → q.1.st.ck.1 = []

set_option maxRecDepth 50000 in
set_option maxHeartbeats 2000000 in
theorem next_k1 (ps : List TV) (p : Option Addr) (cap k : Nat) (w : World) (hr : TR w p ps) (hk : k < ps.length) (hw : TWf ps) (hkd : ps[k].1.st.kind = 1) :
    Calls Try.prog 73 #[.slice p ps.length cap, .int .i64 k] w
      fun e w' => e = .returned (.int .i64 (nextL (ps.map Prod.fst) ps[k].1)) ∧ Below w.heap.size w w' := by
  obtain ⟨b, rfl, hb, hc⟩ := hr.cel hk
  have c0 := hc k hk 0 (by omega)
  have c1 := hc k hk 1 (by omega)
  have c2 := hc k hk 2 (by omega)
  have c3 := hc k hk 3 (by omega)
  have c4 := hc k hk 4 (by omega)
  have c5 := hc k hk 5 (by omega)
  have c6 := hc k hk 6 (by omega)
  have c7 := hc k hk 7 (by omega)
  have c8 := hc k hk 8 (by omega)
  have c9 := hc k hk 9 (by omega)
  have c11 := hc k hk 11 (by omega)
  have hmem : ps[k] ∈ ps := List.getElem_mem _
  have hu := hr.uses _ hmem
  have hl := hr.list _ hmem
  have hm := hr.made _ hmem
  have hux := hw.use _ hmem
  have hlen := hw.len _ hmem
  have hwd := hw.wd _ hmem
  have hwl := hw.wl _ hmem
  obtain ⟨⟨x, u, l, m⟩, hq⟩ : ∃ q, ps[k] = q := ⟨_, rfl⟩
  rw [hq] at c0 c1 c2 c3 c4 c5 c6 c7 c8 c9 c11 hu hl hm hux hlen hwd hwl hkd  ⊢
  simp only [tkCells, List.getElem?_cons_zero, List.getElem?_cons_succ, Nat.add_zero] at c0 c1 c2 c3 c4 c5 c6 c7 c8 c9 c11 hu hl hm hux hlen hwd hwl hkd 
  obtain ⟨up, uc, rfl, _⟩ := hu.form
  obtain ⟨lp, lc, rfl, _⟩ := hl.form
  obtain ⟨mp, mc, rfl, _⟩ := hm.form
  obtain ⟨s, hsx⟩ : ∃ s, x.st = s := ⟨_, rfl⟩
  have hz := ZS_below w x.st (.slice up x.st.uses.length uc)
  have hzz := ZS_size w x.st (.slice up x.st.uses.length uc)
  have hs := ZS_s w x.st (.slice up x.st.uses.length uc)
  show Calls _ _ _ _ fun e w' => e = .returned (.int .i64 (nextL (ps.map Prod.fst) x)) ∧ _
  have HML : Hid (x.made.length ≤ 4096) := hlen
  have g1 : ((x.st.kind : Int) == 1) = true := by simp; omega
  have hpk := fun w1 (h1 : Below w.heap.size w w1) => rpick_any x.list (.slice lp x.list.length lc) x.made.length w1 (by omega) (hl.below h1 (Nat.le_refl _))
  have HK : Hid (nextL (ps.map Prod.fst) x = pickL x.list x.made.length) := by show nextL _ _ = _; unfold nextL; rw [if_pos hkd, pickL_nat]
  clear hc hr hw hq hu hl hm hmem hux hwd hwl hsx hkd
  go_enter Try.func73, Try.ntmps73
  go_wp2_with (first
    | fail
    | (go_at_call 86; refine (hpk _ hz).mono ?_; rintro e w1 ⟨rfl, hw1⟩; subst w1))
  go_ret
  exact ⟨ret_int (by rw [HK.out]), hz⟩

set_option maxRecDepth 50000 in
set_option maxHeartbeats 2000000 in
theorem next_k2 (ps : List TV) (p : Option Addr) (cap k : Nat) (w : World) (hr : TR w p ps) (hk : k < ps.length) (hw : TWf ps) (hkd : ps[k].1.st.kind = 2) :
    Calls Try.prog 73 #[.slice p ps.length cap, .int .i64 k] w
      fun e w' => e = .returned (.int .i64 (nextL (ps.map Prod.fst) ps[k].1)) ∧ Below w.heap.size w w' := by
  obtain ⟨b, rfl, hb, hc⟩ := hr.cel hk
  have c0 := hc k hk 0 (by omega)
  have c1 := hc k hk 1 (by omega)
  have c2 := hc k hk 2 (by omega)
  have c3 := hc k hk 3 (by omega)
  have c4 := hc k hk 4 (by omega)
  have c5 := hc k hk 5 (by omega)
  have c6 := hc k hk 6 (by omega)
  have c7 := hc k hk 7 (by omega)
  have c8 := hc k hk 8 (by omega)
  have c9 := hc k hk 9 (by omega)
  have c11 := hc k hk 11 (by omega)
  have hmem : ps[k] ∈ ps := List.getElem_mem _
  have hu := hr.uses _ hmem
  have hl := hr.list _ hmem
  have hm := hr.made _ hmem
  have hux := hw.use _ hmem
  have hlen := hw.len _ hmem
  have hwd := hw.wd _ hmem
  have hwl := hw.wl _ hmem
  obtain ⟨⟨x, u, l, m⟩, hq⟩ : ∃ q, ps[k] = q := ⟨_, rfl⟩
  rw [hq] at c0 c1 c2 c3 c4 c5 c6 c7 c8 c9 c11 hu hl hm hux hlen hwd hwl hkd  ⊢
  simp only [tkCells, List.getElem?_cons_zero, List.getElem?_cons_succ, Nat.add_zero] at c0 c1 c2 c3 c4 c5 c6 c7 c8 c9 c11 hu hl hm hux hlen hwd hwl hkd 
  obtain ⟨up, uc, rfl, _⟩ := hu.form
  obtain ⟨lp, lc, rfl, _⟩ := hl.form
  obtain ⟨mp, mc, rfl, _⟩ := hm.form
  obtain ⟨s, hsx⟩ : ∃ s, x.st = s := ⟨_, rfl⟩
  have hz := ZS_below w x.st (.slice up x.st.uses.length uc)
  have hzz := ZS_size w x.st (.slice up x.st.uses.length uc)
  have hs := ZS_s w x.st (.slice up x.st.uses.length uc)
  show Calls _ _ _ _ fun e w' => e = .returned (.int .i64 (nextL (ps.map Prod.fst) x)) ∧ _
  have HML : Hid (x.made.length ≤ 4096) := hlen
  have g1 : ((x.st.kind : Int) == 1) = false := by simp; omega
  have g2 : ((x.st.kind : Int) == 2) = true := by simp; omega
  have HK : Hid (nextL (ps.map Prod.fst) x = x.st.num) := by show nextL _ _ = _; unfold nextL; rw [if_neg (by omega), if_pos hkd]
  clear hc hr hw hq hu hl hm hmem hux hwd hwl hsx hkd
  go_enter Try.func73, Try.ntmps73
  go_wp2_with (first
    | fail)
  go_ret
  exact ⟨ret_int (by rw [HK.out]), hz⟩

set_option maxRecDepth 50000 in
set_option maxHeartbeats 2000000 in
theorem next_k9a (ps : List TV) (p : Option Addr) (cap k : Nat) (w : World) (hr : TR w p ps) (hk : k < ps.length) (hw : TWf ps) (hkd : ps[k].1.st.kind = 9) (hx0 : ps[k].1.made.length = 0) :
    Calls Try.prog 73 #[.slice p ps.length cap, .int .i64 k] w
      fun e w' => e = .returned (.int .i64 (nextL (ps.map Prod.fst) ps[k].1)) ∧ Below w.heap.size w w' := by
  obtain ⟨b, rfl, hb, hc⟩ := hr.cel hk
  have c0 := hc k hk 0 (by omega)
  have c1 := hc k hk 1 (by omega)
  have c2 := hc k hk 2 (by omega)
  have c3 := hc k hk 3 (by omega)
  have c4 := hc k hk 4 (by omega)
  have c5 := hc k hk 5 (by omega)
  have c6 := hc k hk 6 (by omega)
  have c7 := hc k hk 7 (by omega)
  have c8 := hc k hk 8 (by omega)
  have c9 := hc k hk 9 (by omega)
  have c11 := hc k hk 11 (by omega)
  have hmem : ps[k] ∈ ps := List.getElem_mem _
  have hu := hr.uses _ hmem
  have hl := hr.list _ hmem
  have hm := hr.made _ hmem
  have hux := hw.use _ hmem
  have hlen := hw.len _ hmem
  have hwd := hw.wd _ hmem
  have hwl := hw.wl _ hmem
  obtain ⟨⟨x, u, l, m⟩, hq⟩ : ∃ q, ps[k] = q := ⟨_, rfl⟩
  rw [hq] at c0 c1 c2 c3 c4 c5 c6 c7 c8 c9 c11 hu hl hm hux hlen hwd hwl hkd hx0 ⊢
  simp only [tkCells, List.getElem?_cons_zero, List.getElem?_cons_succ, Nat.add_zero] at c0 c1 c2 c3 c4 c5 c6 c7 c8 c9 c11 hu hl hm hux hlen hwd hwl hkd hx0
  obtain ⟨up, uc, rfl, _⟩ := hu.form
  obtain ⟨lp, lc, rfl, _⟩ := hl.form
  obtain ⟨mp, mc, rfl, _⟩ := hm.form
  obtain ⟨s, hsx⟩ : ∃ s, x.st = s := ⟨_, rfl⟩
  have hz := ZS_below w x.st (.slice up x.st.uses.length uc)
  have hzz := ZS_size w x.st (.slice up x.st.uses.length uc)
  have hs := ZS_s w x.st (.slice up x.st.uses.length uc)
  show Calls _ _ _ _ fun e w' => e = .returned (.int .i64 (nextL (ps.map Prod.fst) x)) ∧ _
  have HML : Hid (x.made.length ≤ 4096) := hlen
  have g1 : ((x.st.kind : Int) == 1) = false := by simp; omega
  have g2 : ((x.st.kind : Int) == 2) = false := by simp; omega
  have g9 : ((x.st.kind : Int) == 9) = true := by simp; omega
  have hx1 : ((x.made.length : Int) == 0) = true := by simp; exact List.length_eq_zero_iff.1 hx0
  have HK : Hid (nextL (ps.map Prod.fst) x = x.st.num) := by show nextL _ _ = _; unfold nextL; rw [if_neg (by omega), if_neg (by omega), if_pos hkd, if_pos hx0]
  clear hc hr hw hq hu hl hm hmem hux hwd hwl hsx hkd hx0
  go_enter Try.func73, Try.ntmps73
  go_wp2_with (first
    | fail)
  go_ret
  exact ⟨ret_int (by rw [HK.out]), hz⟩

set_option maxRecDepth 50000 in
set_option maxHeartbeats 2000000 in
theorem next_k9b (ps : List TV) (p : Option Addr) (cap k : Nat) (w : World) (hr : TR w p ps) (hk : k < ps.length) (hw : TWf ps) (hkd : ps[k].1.st.kind = 9) (hx0 : ¬ ps[k].1.made.length = 0) :
    Calls Try.prog 73 #[.slice p ps.length cap, .int .i64 k] w
      fun e w' => e = .returned (.int .i64 (nextL (ps.map Prod.fst) ps[k].1)) ∧ Below w.heap.size w w' := by
  obtain ⟨b, rfl, hb, hc⟩ := hr.cel hk
  have c0 := hc k hk 0 (by omega)
  have c1 := hc k hk 1 (by omega)
  have c2 := hc k hk 2 (by omega)
  have c3 := hc k hk 3 (by omega)
  have c4 := hc k hk 4 (by omega)
  have c5 := hc k hk 5 (by omega)
  have c6 := hc k hk 6 (by omega)
  have c7 := hc k hk 7 (by omega)
  have c8 := hc k hk 8 (by omega)
  have c9 := hc k hk 9 (by omega)
  have c11 := hc k hk 11 (by omega)
  have hmem : ps[k] ∈ ps := List.getElem_mem _
  have hu := hr.uses _ hmem
  have hl := hr.list _ hmem
  have hm := hr.made _ hmem
  have hux := hw.use _ hmem
  have hlen := hw.len _ hmem
  have hwd := hw.wd _ hmem
  have hwl := hw.wl _ hmem
  obtain ⟨⟨x, u, l, m⟩, hq⟩ : ∃ q, ps[k] = q := ⟨_, rfl⟩
  rw [hq] at c0 c1 c2 c3 c4 c5 c6 c7 c8 c9 c11 hu hl hm hux hlen hwd hwl hkd hx0 ⊢
  simp only [tkCells, List.getElem?_cons_zero, List.getElem?_cons_succ, Nat.add_zero] at c0 c1 c2 c3 c4 c5 c6 c7 c8 c9 c11 hu hl hm hux hlen hwd hwl hkd hx0
  obtain ⟨up, uc, rfl, _⟩ := hu.form
  obtain ⟨lp, lc, rfl, _⟩ := hl.form
  obtain ⟨mp, mc, rfl, _⟩ := hm.form
  obtain ⟨s, hsx⟩ : ∃ s, x.st = s := ⟨_, rfl⟩
  have hz := ZS_below w x.st (.slice up x.st.uses.length uc)
  have hzz := ZS_size w x.st (.slice up x.st.uses.length uc)
  have hs := ZS_s w x.st (.slice up x.st.uses.length uc)
  show Calls _ _ _ _ fun e w' => e = .returned (.int .i64 (nextL (ps.map Prod.fst) x)) ∧ _
  have HML : Hid (x.made.length ≤ 4096) := hlen
  have g1 : ((x.st.kind : Int) == 1) = false := by simp; omega
  have g2 : ((x.st.kind : Int) == 2) = false := by simp; omega
  have g9 : ((x.st.kind : Int) == 9) = true := by simp; omega
  have hx1 : ((x.made.length : Int) == 0) = false := by simp; exact fun e => hx0 (by rw [e]; rfl)
  have hus := fun w1 (h1 : Below w.heap.size w w1) => used_any ps (some ⟨b, 0, none⟩) cap x.st up uc 0 (x.made.length - 1) w1 (hr.below h1 (Nat.le_refl _)) (hu.below h1 (Nat.le_refl _)) hux
  rw [show ((x.made.length - 1 : Nat) : Int) = (x.made.length : Int) - 1 by omega] at hus
  have HK : Hid (nextL (ps.map Prod.fst) x = usedL (ps.map Prod.fst) x.st 0 (x.made.length - 1)) := by show nextL _ _ = _; unfold nextL; rw [if_neg (by omega), if_neg (by omega), if_pos hkd, if_neg hx0]
  clear hc hr hw hq hu hl hm hmem hux hwd hwl hsx hkd hx0
  go_enter Try.func73, Try.ntmps73
  go_wp2_with (first
    | fail
    | (go_at_call 87; refine (hus _ hz).mono ?_; rintro e w1 ⟨rfl, hb1⟩; have hB1 : Below w.heap.size w w1 := hz.trans (hb1.mono (by rw [hzz]; omega))))
  go_ret
  exact ⟨ret_int (by rw [HK.out]), hB1⟩

set_option maxRecDepth 50000 in
set_option maxHeartbeats 2000000 in
theorem next_k12 (ps : List TV) (p : Option Addr) (cap k : Nat) (w : World) (hr : TR w p ps) (hk : k < ps.length) (hw : TWf ps) (hkd : ps[k].1.st.kind = 12) :
    Calls Try.prog 73 #[.slice p ps.length cap, .int .i64 k] w
      fun e w' => e = .returned (.int .i64 (nextL (ps.map Prod.fst) ps[k].1)) ∧ Below w.heap.size w w' := by
  obtain ⟨b, rfl, hb, hc⟩ := hr.cel hk
  have c0 := hc k hk 0 (by omega)
  have c1 := hc k hk 1 (by omega)
  have c2 := hc k hk 2 (by omega)
  have c3 := hc k hk 3 (by omega)
  have c4 := hc k hk 4 (by omega)
  have c5 := hc k hk 5 (by omega)
  have c6 := hc k hk 6 (by omega)
  have c7 := hc k hk 7 (by omega)
  have c8 := hc k hk 8 (by omega)
  have c9 := hc k hk 9 (by omega)
  have c11 := hc k hk 11 (by omega)
  have hmem : ps[k] ∈ ps := List.getElem_mem _
  have hu := hr.uses _ hmem
  have hl := hr.list _ hmem
  have hm := hr.made _ hmem
  have hux := hw.use _ hmem
  have hlen := hw.len _ hmem
  have hwd := hw.wd _ hmem
  have hwl := hw.wl _ hmem
  obtain ⟨⟨x, u, l, m⟩, hq⟩ : ∃ q, ps[k] = q := ⟨_, rfl⟩
  rw [hq] at c0 c1 c2 c3 c4 c5 c6 c7 c8 c9 c11 hu hl hm hux hlen hwd hwl hkd  ⊢
  simp only [tkCells, List.getElem?_cons_zero, List.getElem?_cons_succ, Nat.add_zero] at c0 c1 c2 c3 c4 c5 c6 c7 c8 c9 c11 hu hl hm hux hlen hwd hwl hkd 
  obtain ⟨up, uc, rfl, _⟩ := hu.form
  obtain ⟨lp, lc, rfl, _⟩ := hl.form
  obtain ⟨mp, mc, rfl, _⟩ := hm.form
  obtain ⟨s, hsx⟩ : ∃ s, x.st = s := ⟨_, rfl⟩
  have hz := ZS_below w x.st (.slice up x.st.uses.length uc)
  have hzz := ZS_size w x.st (.slice up x.st.uses.length uc)
  have hs := ZS_s w x.st (.slice up x.st.uses.length uc)
  show Calls _ _ _ _ fun e w' => e = .returned (.int .i64 (nextL (ps.map Prod.fst) x)) ∧ _
  have HML : Hid (x.made.length ≤ 4096) := hlen
  have g1 : ((x.st.kind : Int) == 1) = false := by simp; omega
  have g2 : ((x.st.kind : Int) == 2) = false := by simp; omega
  have g9 : ((x.st.kind : Int) == 9) = false := by simp; omega
  have g12 : ((x.st.kind : Int) == 12) = true := by simp; omega
  have hus := fun w1 (h1 : Below w.heap.size w w1) => used_any ps (some ⟨b, 0, none⟩) cap x.st up uc 0 x.made.length w1 (hr.below h1 (Nat.le_refl _)) (hu.below h1 (Nat.le_refl _)) hux
  have HK : Hid (nextL (ps.map Prod.fst) x = usedL (ps.map Prod.fst) x.st 0 x.made.length) := by show nextL _ _ = _; unfold nextL; rw [if_neg (by omega), if_neg (by omega), if_neg (by omega), if_pos hkd]
  clear hc hr hw hq hu hl hm hmem hux hwd hwl hsx hkd
  go_enter Try.func73, Try.ntmps73
  go_wp2_with (first
    | fail
    | (go_at_call 87; refine (hus _ hz).mono ?_; rintro e w1 ⟨rfl, hb1⟩; have hB1 : Below w.heap.size w w1 := hz.trans (hb1.mono (by rw [hzz]; omega))))
  go_ret
  exact ⟨ret_int (by rw [HK.out]), hB1⟩

set_option maxRecDepth 50000 in
set_option maxHeartbeats 2000000 in
theorem next_k10 (ps : List TV) (p : Option Addr) (cap k : Nat) (w : World) (hr : TR w p ps) (hk : k < ps.length) (hw : TWf ps) (hkd : ps[k].1.st.kind = 10) :
    Calls Try.prog 73 #[.slice p ps.length cap, .int .i64 k] w
      fun e w' => e = .returned (.int .i64 (nextL (ps.map Prod.fst) ps[k].1)) ∧ Below w.heap.size w w' := by
  obtain ⟨b, rfl, hb, hc⟩ := hr.cel hk
  have c0 := hc k hk 0 (by omega)
  have c1 := hc k hk 1 (by omega)
  have c2 := hc k hk 2 (by omega)
  have c3 := hc k hk 3 (by omega)
  have c4 := hc k hk 4 (by omega)
  have c5 := hc k hk 5 (by omega)
  have c6 := hc k hk 6 (by omega)
  have c7 := hc k hk 7 (by omega)
  have c8 := hc k hk 8 (by omega)
  have c9 := hc k hk 9 (by omega)
  have c11 := hc k hk 11 (by omega)
  have hmem : ps[k] ∈ ps := List.getElem_mem _
  have hu := hr.uses _ hmem
  have hl := hr.list _ hmem
  have hm := hr.made _ hmem
  have hux := hw.use _ hmem
  have hlen := hw.len _ hmem
  have hwd := hw.wd _ hmem
  have hwl := hw.wl _ hmem
  obtain ⟨⟨x, u, l, m⟩, hq⟩ : ∃ q, ps[k] = q := ⟨_, rfl⟩
  rw [hq] at c0 c1 c2 c3 c4 c5 c6 c7 c8 c9 c11 hu hl hm hux hlen hwd hwl hkd  ⊢
  simp only [tkCells, List.getElem?_cons_zero, List.getElem?_cons_succ, Nat.add_zero] at c0 c1 c2 c3 c4 c5 c6 c7 c8 c9 c11 hu hl hm hux hlen hwd hwl hkd 
  obtain ⟨up, uc, rfl, _⟩ := hu.form
  obtain ⟨lp, lc, rfl, _⟩ := hl.form
  obtain ⟨mp, mc, rfl, _⟩ := hm.form
  obtain ⟨s, hsx⟩ : ∃ s, x.st = s := ⟨_, rfl⟩
  have hz := ZS_below w x.st (.slice up x.st.uses.length uc)
  have hzz := ZS_size w x.st (.slice up x.st.uses.length uc)
  have hs := ZS_s w x.st (.slice up x.st.uses.length uc)
  show Calls _ _ _ _ fun e w' => e = .returned (.int .i64 (nextL (ps.map Prod.fst) x)) ∧ _
  have HML : Hid (x.made.length ≤ 4096) := hlen
  have g1 : ((x.st.kind : Int) == 1) = false := by simp; omega
  have g2 : ((x.st.kind : Int) == 2) = false := by simp; omega
  have g9 : ((x.st.kind : Int) == 9) = false := by simp; omega
  have g12 : ((x.st.kind : Int) == 12) = false := by simp; omega
  have g10 : ((x.st.kind : Int) == 10) = true := by simp; omega
  have hla := fun w1 (h1 : Below w.heap.size w w1) => latest_any ps (some ⟨b, 0, none⟩) cap x.st up uc 0 w1 (hr.below h1 (Nat.le_refl _)) (hu.below h1 (Nat.le_refl _)) hux hw.len
  have HK : Hid (nextL (ps.map Prod.fst) x = lastL (ps.map Prod.fst) x.st 0) := by show nextL _ _ = _; unfold nextL; rw [if_neg (by omega), if_neg (by omega), if_neg (by omega), if_neg (by omega), if_pos hkd]
  clear hc hr hw hq hu hl hm hmem hux hwd hwl hsx hkd
  go_enter Try.func73, Try.ntmps73
  go_wp2_with (first
    | fail
    | (go_at_call 88; refine (hla _ hz).mono ?_; rintro e w1 ⟨rfl, hb1⟩; have hB1 : Below w.heap.size w w1 := hz.trans (hb1.mono (by rw [hzz]; omega))))
  go_ret
  exact ⟨ret_int (by rw [HK.out]), hB1⟩

set_option maxRecDepth 50000 in
set_option maxHeartbeats 2000000 in
theorem next_k11a (ps : List TV) (p : Option Addr) (cap k : Nat) (w : World) (hr : TR w p ps) (hk : k < ps.length) (hw : TWf ps) (hkd : ps[k].1.st.kind = 11) (hx0 : bitAt ps[k].1.st.wd.1 ps[k].1.st.wd.2 ps[k].1.made.length = true) :
    Calls Try.prog 73 #[.slice p ps.length cap, .int .i64 k] w
      fun e w' => e = .returned (.int .i64 (nextL (ps.map Prod.fst) ps[k].1)) ∧ Below w.heap.size w w' := by
  obtain ⟨b, rfl, hb, hc⟩ := hr.cel hk
  have c0 := hc k hk 0 (by omega)
  have c1 := hc k hk 1 (by omega)
  have c2 := hc k hk 2 (by omega)
  have c3 := hc k hk 3 (by omega)
  have c4 := hc k hk 4 (by omega)
  have c5 := hc k hk 5 (by omega)
  have c6 := hc k hk 6 (by omega)
  have c7 := hc k hk 7 (by omega)
  have c8 := hc k hk 8 (by omega)
  have c9 := hc k hk 9 (by omega)
  have c11 := hc k hk 11 (by omega)
  have hmem : ps[k] ∈ ps := List.getElem_mem _
  have hu := hr.uses _ hmem
  have hl := hr.list _ hmem
  have hm := hr.made _ hmem
  have hux := hw.use _ hmem
  have hlen := hw.len _ hmem
  have hwd := hw.wd _ hmem
  have hwl := hw.wl _ hmem
  obtain ⟨⟨x, u, l, m⟩, hq⟩ : ∃ q, ps[k] = q := ⟨_, rfl⟩
  rw [hq] at c0 c1 c2 c3 c4 c5 c6 c7 c8 c9 c11 hu hl hm hux hlen hwd hwl hkd hx0 ⊢
  simp only [tkCells, List.getElem?_cons_zero, List.getElem?_cons_succ, Nat.add_zero] at c0 c1 c2 c3 c4 c5 c6 c7 c8 c9 c11 hu hl hm hux hlen hwd hwl hkd hx0
  obtain ⟨up, uc, rfl, _⟩ := hu.form
  obtain ⟨lp, lc, rfl, _⟩ := hl.form
  obtain ⟨mp, mc, rfl, _⟩ := hm.form
  obtain ⟨s, hsx⟩ : ∃ s, x.st = s := ⟨_, rfl⟩
  have hz := ZS_below w x.st (.slice up x.st.uses.length uc)
  have hzz := ZS_size w x.st (.slice up x.st.uses.length uc)
  have hs := ZS_s w x.st (.slice up x.st.uses.length uc)
  show Calls _ _ _ _ fun e w' => e = .returned (.int .i64 (nextL (ps.map Prod.fst) x)) ∧ _
  have HML : Hid (x.made.length ≤ 4096) := hlen
  have g1 : ((x.st.kind : Int) == 1) = false := by simp; omega
  have g2 : ((x.st.kind : Int) == 2) = false := by simp; omega
  have g9 : ((x.st.kind : Int) == 9) = false := by simp; omega
  have g12 : ((x.st.kind : Int) == 12) = false := by simp; omega
  have g10 : ((x.st.kind : Int) == 10) = false := by simp; omega
  have g11 : ((x.st.kind : Int) == 11) = true := by simp; omega
  have hla := fun w1 (h1 : Below w.heap.size w w1) => latest_any ps (some ⟨b, 0, none⟩) cap x.st up uc 0 w1 (hr.below h1 (Nat.le_refl _)) (hu.below h1 (Nat.le_refl _)) hux hw.len
  have hbt := fun w1 => bit_any x.st.wd.1 x.st.wd.2 x.made.length w1 (hwd hkd) (by omega) (by omega) (by omega)
  rw [hx0] at hbt
  have HK : Hid (nextL (ps.map Prod.fst) x = lastL (ps.map Prod.fst) x.st 0) := by show nextL _ _ = _; unfold nextL; rw [if_neg (by omega), if_neg (by omega), if_neg (by omega), if_neg (by omega), if_neg (by omega), if_pos hkd, hx0]; rfl
  clear hc hr hw hq hu hl hm hmem hux hwd hwl hsx hkd hx0
  go_enter Try.func73, Try.ntmps73
  go_wp2_with (first
    | fail
    | (go_at_call 70; refine (hbt _).mono ?_; rintro e w1 ⟨rfl, hb1⟩; have hB1 : Below w.heap.size w w1 := hz.trans (hb1.mono (by simp)); have hs1 := hs.below hb1 (by simp); have hz1 := hB1.size; obtain ⟨d0, d1, d2, d3, d4, d5, d6, d7, d8⟩ := hs1.all)
    | (go_at_call 88; refine (hla w1 hB1).mono ?_; rintro e w2 ⟨rfl, hb2⟩; have hB2 : Below w.heap.size w w2 := hB1.trans (hb2.mono (by omega))))
  go_ret
  exact ⟨ret_int (by rw [HK.out]), hB2⟩

set_option maxRecDepth 50000 in
set_option maxHeartbeats 2000000 in
theorem next_k11b (ps : List TV) (p : Option Addr) (cap k : Nat) (w : World) (hr : TR w p ps) (hk : k < ps.length) (hw : TWf ps) (hkd : ps[k].1.st.kind = 11) (hx0 : bitAt ps[k].1.st.wd.1 ps[k].1.st.wd.2 ps[k].1.made.length = false) :
    Calls Try.prog 73 #[.slice p ps.length cap, .int .i64 k] w
      fun e w' => e = .returned (.int .i64 (nextL (ps.map Prod.fst) ps[k].1)) ∧ Below w.heap.size w w' := by
  obtain ⟨b, rfl, hb, hc⟩ := hr.cel hk
  have c0 := hc k hk 0 (by omega)
  have c1 := hc k hk 1 (by omega)
  have c2 := hc k hk 2 (by omega)
  have c3 := hc k hk 3 (by omega)
  have c4 := hc k hk 4 (by omega)
  have c5 := hc k hk 5 (by omega)
  have c6 := hc k hk 6 (by omega)
  have c7 := hc k hk 7 (by omega)
  have c8 := hc k hk 8 (by omega)
  have c9 := hc k hk 9 (by omega)
  have c11 := hc k hk 11 (by omega)
  have hmem : ps[k] ∈ ps := List.getElem_mem _
  have hu := hr.uses _ hmem
  have hl := hr.list _ hmem
  have hm := hr.made _ hmem
  have hux := hw.use _ hmem
  have hlen := hw.len _ hmem
  have hwd := hw.wd _ hmem
  have hwl := hw.wl _ hmem
  obtain ⟨⟨x, u, l, m⟩, hq⟩ : ∃ q, ps[k] = q := ⟨_, rfl⟩
  rw [hq] at c0 c1 c2 c3 c4 c5 c6 c7 c8 c9 c11 hu hl hm hux hlen hwd hwl hkd hx0 ⊢
  simp only [tkCells, List.getElem?_cons_zero, List.getElem?_cons_succ, Nat.add_zero] at c0 c1 c2 c3 c4 c5 c6 c7 c8 c9 c11 hu hl hm hux hlen hwd hwl hkd hx0
  obtain ⟨up, uc, rfl, _⟩ := hu.form
  obtain ⟨lp, lc, rfl, _⟩ := hl.form
  obtain ⟨mp, mc, rfl, _⟩ := hm.form
  obtain ⟨s, hsx⟩ : ∃ s, x.st = s := ⟨_, rfl⟩
  have hz := ZS_below w x.st (.slice up x.st.uses.length uc)
  have hzz := ZS_size w x.st (.slice up x.st.uses.length uc)
  have hs := ZS_s w x.st (.slice up x.st.uses.length uc)
  show Calls _ _ _ _ fun e w' => e = .returned (.int .i64 (nextL (ps.map Prod.fst) x)) ∧ _
  have HML : Hid (x.made.length ≤ 4096) := hlen
  have g1 : ((x.st.kind : Int) == 1) = false := by simp; omega
  have g2 : ((x.st.kind : Int) == 2) = false := by simp; omega
  have g9 : ((x.st.kind : Int) == 9) = false := by simp; omega
  have g12 : ((x.st.kind : Int) == 12) = false := by simp; omega
  have g10 : ((x.st.kind : Int) == 10) = false := by simp; omega
  have g11 : ((x.st.kind : Int) == 11) = true := by simp; omega
  have hla := fun w1 (h1 : Below w.heap.size w w1) => latest_any ps (some ⟨b, 0, none⟩) cap x.st up uc 1 w1 (hr.below h1 (Nat.le_refl _)) (hu.below h1 (Nat.le_refl _)) hux hw.len
  have hbt := fun w1 => bit_any x.st.wd.1 x.st.wd.2 x.made.length w1 (hwd hkd) (by omega) (by omega) (by omega)
  rw [hx0] at hbt
  have HK : Hid (nextL (ps.map Prod.fst) x = lastL (ps.map Prod.fst) x.st 1) := by show nextL _ _ = _; unfold nextL; rw [if_neg (by omega), if_neg (by omega), if_neg (by omega), if_neg (by omega), if_neg (by omega), if_pos hkd, hx0]; rfl
  clear hc hr hw hq hu hl hm hmem hux hwd hwl hsx hkd hx0
  go_enter Try.func73, Try.ntmps73
  go_wp2_with (first
    | fail
    | (go_at_call 70; refine (hbt _).mono ?_; rintro e w1 ⟨rfl, hb1⟩; have hB1 : Below w.heap.size w w1 := hz.trans (hb1.mono (by simp)); have hs1 := hs.below hb1 (by simp); have hz1 := hB1.size; obtain ⟨d0, d1, d2, d3, d4, d5, d6, d7, d8⟩ := hs1.all)
    | (go_at_call 88; refine (hla w1 hB1).mono ?_; rintro e w2 ⟨rfl, hb2⟩; have hB2 : Below w.heap.size w w2 := hB1.trans (hb2.mono (by omega))))
  go_ret
  exact ⟨ret_int (by rw [HK.out]), hB2⟩

set_option maxRecDepth 50000 in
set_option maxHeartbeats 2000000 in
theorem next_no (ps : List TV) (p : Option Addr) (cap k : Nat) (w : World) (hr : TR w p ps) (hk : k < ps.length) (hw : TWf ps) (hkd : ps[k].1.st.kind ≠ 1 ∧ ps[k].1.st.kind ≠ 2 ∧ ps[k].1.st.kind ≠ 9 ∧ ps[k].1.st.kind ≠ 12 ∧ ps[k].1.st.kind ≠ 10 ∧ ps[k].1.st.kind ≠ 11) :
    Calls Try.prog 73 #[.slice p ps.length cap, .int .i64 k] w
      fun e w' => e = .returned (.int .i64 (nextL (ps.map Prod.fst) ps[k].1)) ∧ Below w.heap.size w w' := by
  obtain ⟨b, rfl, hb, hc⟩ := hr.cel hk
  have c0 := hc k hk 0 (by omega)
  have c1 := hc k hk 1 (by omega)
  have c2 := hc k hk 2 (by omega)
  have c3 := hc k hk 3 (by omega)
  have c4 := hc k hk 4 (by omega)
  have c5 := hc k hk 5 (by omega)
  have c6 := hc k hk 6 (by omega)
  have c7 := hc k hk 7 (by omega)
  have c8 := hc k hk 8 (by omega)
  have c9 := hc k hk 9 (by omega)
  have c11 := hc k hk 11 (by omega)
  have hmem : ps[k] ∈ ps := List.getElem_mem _
  have hu := hr.uses _ hmem
  have hl := hr.list _ hmem
  have hm := hr.made _ hmem
  have hux := hw.use _ hmem
  have hlen := hw.len _ hmem
  have hwd := hw.wd _ hmem
  have hwl := hw.wl _ hmem
  obtain ⟨⟨x, u, l, m⟩, hq⟩ : ∃ q, ps[k] = q := ⟨_, rfl⟩
  rw [hq] at c0 c1 c2 c3 c4 c5 c6 c7 c8 c9 c11 hu hl hm hux hlen hwd hwl hkd  ⊢
  simp only [tkCells, List.getElem?_cons_zero, List.getElem?_cons_succ, Nat.add_zero] at c0 c1 c2 c3 c4 c5 c6 c7 c8 c9 c11 hu hl hm hux hlen hwd hwl hkd 
  obtain ⟨up, uc, rfl, _⟩ := hu.form
  obtain ⟨lp, lc, rfl, _⟩ := hl.form
  obtain ⟨mp, mc, rfl, _⟩ := hm.form
  obtain ⟨s, hsx⟩ : ∃ s, x.st = s := ⟨_, rfl⟩
  have hz := ZS_below w x.st (.slice up x.st.uses.length uc)
  have hzz := ZS_size w x.st (.slice up x.st.uses.length uc)
  have hs := ZS_s w x.st (.slice up x.st.uses.length uc)
  show Calls _ _ _ _ fun e w' => e = .returned (.int .i64 (nextL (ps.map Prod.fst) x)) ∧ _
  have HML : Hid (x.made.length ≤ 4096) := hlen
  have g1 : ((x.st.kind : Int) == 1) = false := by simp; omega
  have g2 : ((x.st.kind : Int) == 2) = false := by simp; omega
  have g9 : ((x.st.kind : Int) == 9) = false := by simp; omega
  have g12 : ((x.st.kind : Int) == 12) = false := by simp; omega
  have g10 : ((x.st.kind : Int) == 10) = false := by simp; omega
  have g11 : ((x.st.kind : Int) == 11) = false := by simp; omega
  have hre := fun w1 (h1 : Below w.heap.size w w1) => reckon_any ps (some ⟨b, 0, none⟩) cap x.st up uc x.made.length w1 (hr.below h1 (Nat.le_refl _)) (hu.below h1 (Nat.le_refl _)) hux
  have HK : Hid (nextL (ps.map Prod.fst) x = reckL x.st.kind (usedL (ps.map Prod.fst) x.st 0 x.made.length) (usedL (ps.map Prod.fst) x.st 1 x.made.length) (usedL (ps.map Prod.fst) x.st 2 x.made.length)) := by show nextL _ _ = _; unfold nextL; rw [if_neg (by omega), if_neg (by omega), if_neg (by omega), if_neg (by omega), if_neg (by omega), if_neg (by omega)]
  clear hc hr hw hq hu hl hm hmem hux hwd hwl hsx hkd
  go_enter Try.func73, Try.ntmps73
  go_wp2_with (first
    | fail
    | (go_at_call 89; refine (hre _ hz).mono ?_; rintro e w1 ⟨rfl, hb1⟩; have hB1 : Below w.heap.size w w1 := hz.trans (hb1.mono (by rw [hzz]; omega))))
  go_ret
  exact ⟨ret_int (by rw [HK.out]), hB1⟩

theorem next_any (ps : List TV) (p : Option Addr) (cap k : Nat) (w : World) (hr : TR w p ps) (hk : k < ps.length) (hw : TWf ps) :
    Calls Try.prog 73 #[.slice p ps.length cap, .int .i64 k] w
      fun e w' => e = .returned (.int .i64 (nextL (ps.map Prod.fst) ps[k].1)) ∧ Below w.heap.size w w' := by
  by_cases h1 : ps[k].1.st.kind = 1
  · exact next_k1 ps p cap k w hr hk hw h1
  by_cases h2 : ps[k].1.st.kind = 2
  · exact next_k2 ps p cap k w hr hk hw h2
  by_cases h9 : ps[k].1.st.kind = 9
  · by_cases h0 : ps[k].1.made.length = 0
    · exact next_k9a ps p cap k w hr hk hw h9 h0
    · exact next_k9b ps p cap k w hr hk hw h9 h0
  by_cases h12 : ps[k].1.st.kind = 12
  · exact next_k12 ps p cap k w hr hk hw h12
  by_cases h10 : ps[k].1.st.kind = 10
  · exact next_k10 ps p cap k w hr hk hw h10
  by_cases h11 : ps[k].1.st.kind = 11
  · cases hb : bitAt ps[k].1.st.wd.1 ps[k].1.st.wd.2 ps[k].1.made.length with
    | true => exact next_k11a ps p cap k w hr hk hw h11 hb
    | false => exact next_k11b ps p cap k w hr hk hw h11 hb
  exact next_no ps p cap k w hr hk hw ⟨h1, h2, h9, h12, h10, h11⟩
end Go.Proofs.Ytfbkjopidjojeab

namespace Go.Proofs.Ytfbkjopidjojeab
open Go.RowKit

set_option maxRecDepth 50000 in
set_option maxHeartbeats 1000000 in
theorem bit_none (n : Nat) (w : World) :
    Calls Try.prog 70 #[.agg #[.string (bs []), .string (bs [])], .int .i64 n] w fun e w' => e = .returned (.bool (bitAt [] [] n)) ∧ Below w.heap.size w w' := by
  have hbw : Below w.heap.size w (w.alloc (Obj.cells #[.string (bs []), .string (bs [])] 74)) := (Below.refl _ _).alloc (Nat.le_refl _) _
  go_enter Try.func70, Try.ntmps70
  go_wp2_with (go_at_call 64; refine (None_any [] [] _).mono ?_; rintro e w1 ⟨rfl, hb1⟩)
  go_ret
  exact ⟨rfl, hbw.trans (hb1.mono (by simp))⟩
theorem bit_all (u v : List Bool) (n : Nat) (w : World) (hz : v = [] → u = []) (hu : u.length ≤ 64) (hv : v.length ≤ 64) (hn : n ≤ 1048576) :
    Calls Try.prog 70 #[.agg #[.string (bs u), .string (bs v)], .int .i64 n] w fun e w' => e = .returned (.bool (bitAt u v n)) ∧ Below w.heap.size w w' := by
  by_cases h : v = []
  · rw [hz h, h]; exact bit_none n w
  · exact bit_any u v n w h (by omega) (by omega) (by omega)

/-- The world with a track boxed. -/
def Y1 (w : World) (x : Tk) (u l m : Value) : World := w.alloc (Obj.cells #[.int .i64 x.st.no, .int .i64 x.st.kind, .string (S x.st.name), u, .int .i64 x.st.num, .string (bs x.st.wd.1), .string (bs x.st.wd.2), .string (bs x.st.ck.1), .string (bs x.st.ck.2), l, .int .i64 x.size, m, .int .i64 x.most] 114)
theorem Y1_size (w : World) (x : Tk) (u l m : Value) : (Y1 w x u l m).heap.size = w.heap.size + 1 := by simp [Y1]
theorem Y1_below (w : World) (x : Tk) (u l m : Value) : Below w.heap.size w (Y1 w x u l m) := (Below.refl w.heap.size w).alloc (Nat.le_refl _) _
theorem Y1_c (w : World) (x : Tk) (u l m : Value) (j : Nat) : (Y1 w x u l m).cell? ⟨w.heap.size, j, none⟩ = (tkCells (x, u, l, m))[j]? := by
  have h : (Y1 w x u l m).heap[w.heap.size]? = some (.cells (tkCells (x, u, l, m)).toArray 114 (0, 0)) := by
    unfold Y1
    rw [heap_alloc_new]
    rfl
  rw [cell_of_row _ _ j _ _ _ h]; simp

set_option maxRecDepth 50000 in
set_option maxHeartbeats 1000000 in
theorem reach_any (x : Tk) (u l : Value) (mp : Option Addr) (mc t : Nat) (w : World) (hz : x.st.ck.2 = [] → x.st.ck.1 = []) (hck : x.st.ck.1.length ≤ 64 ∧ x.st.ck.2.length ≤ 64) (hm : x.made.length ≤ 4096) (ht : t ≤ 1048576) :
    Calls Try.prog 85 #[.agg #[.int .i64 x.st.no, .int .i64 x.st.kind, .string (S x.st.name), u, .int .i64 x.st.num, .string (bs x.st.wd.1), .string (bs x.st.wd.2), .string (bs x.st.ck.1), .string (bs x.st.ck.2), l, .int .i64 x.size, .slice mp x.made.length mc, .int .i64 x.most], .int .i64 t] w fun e w' => e = .returned (.int .i64 (rchL x t)) ∧ Below w.heap.size w w' := by
  have hbw := Y1_below w x u l (.slice mp x.made.length mc)
  have hbz := Y1_size w x u l (.slice mp x.made.length mc)
  have hc := Y1_c w x u l (.slice mp x.made.length mc)
  have hbit := fun w1 => bit_all x.st.ck.1 x.st.ck.2 t w1 hz hck.1 hck.2 ht
  cases hb : bitAt x.st.ck.1 x.st.ck.2 t with
  | true =>
    rw [hb] at hbit
    have HR : Hid (rchL x t = x.made.length + 1) := by show rchL _ _ = _; unfold rchL Tk.bit ckS; rw [hb]; rfl
    clear hz hck
    go_enter Try.func85, Try.ntmps85
    go_wp2_with (go_at_call 70; refine (hbit _).mono ?_; rintro e w1 ⟨rfl, hb1⟩; have hB1 : Below w.heap.size w w1 := hbw.trans (hb1.mono (by simp)); have d11 : w1.cell? ⟨w.heap.size, 11, none⟩ = some (.slice mp x.made.length mc) := by (rw [hb1.cell (p := ⟨w.heap.size, 11, none⟩) (by show w.heap.size < _; simp)]; exact hc 11))
    go_ret
    exact ⟨ret_int (by rw [HR.out]; simp), hB1⟩
  | false =>
    rw [hb] at hbit
    have HR : Hid (rchL x t = x.made.length) := by show rchL _ _ = _; unfold rchL Tk.bit ckS; rw [hb]; rfl
    clear hz hck
    go_enter Try.func85, Try.ntmps85
    go_wp2_with (go_at_call 70; refine (hbit _).mono ?_; rintro e w1 ⟨rfl, hb1⟩; have hB1 : Below w.heap.size w w1 := hbw.trans (hb1.mono (by simp)); have d11 : w1.cell? ⟨w.heap.size, 11, none⟩ = some (.slice mp x.made.length mc) := by (rw [hb1.cell (p := ⟨w.heap.size, 11, none⟩) (by show w.heap.size < _; simp)]; exact hc 11))
    go_ret
    exact ⟨ret_int (by rw [HR.out]), hB1⟩

set_option maxRecDepth 50000 in
set_option maxHeartbeats 2000000 in
theorem held_any (ps : List TV) (p : Option Addr) (cap k t : Nat) (w : World) (hr : TR w p ps) (hk : k < ps.length) (hw : TWf ps) (ht : t ≤ 1048576) :
    Calls Try.prog 72 #[.slice p ps.length cap, .int .i64 k, .int .i64 t] w
      fun e w' => e = .returned (.int .i64 (heldL (ps.map Prod.fst) ps[k].1 t)) ∧ Below w.heap.size w w' := by
  obtain ⟨b, rfl, hb, hc⟩ := hr.cel hk
  have hmem : ps[k] ∈ ps := List.getElem_mem _
  have cc := fun j h => hc k hk j h
  have hu := hr.uses _ hmem
  have hl := hr.list _ hmem
  have hm := hr.made _ hmem
  have hux := hw.use _ hmem
  have hlen := hw.len _ hmem
  have hck := hw.ck _ hmem
  have hzk := hw.z _ hmem
  obtain ⟨⟨x, u, l, m⟩, hq⟩ : ∃ q, ps[k] = q := ⟨_, rfl⟩
  rw [hq] at cc hu hl hm hux hlen hck hzk ⊢
  have c0 := cc 0 (by omega)
  have c1 := cc 1 (by omega)
  have c2 := cc 2 (by omega)
  have c3 := cc 3 (by omega)
  have c4 := cc 4 (by omega)
  have c5 := cc 5 (by omega)
  have c6 := cc 6 (by omega)
  have c7 := cc 7 (by omega)
  have c8 := cc 8 (by omega)
  have c9 := cc 9 (by omega)
  have c10 := cc 10 (by omega)
  have c11 := cc 11 (by omega)
  have c12 := cc 12 (by omega)
  simp only [tkCells, List.getElem?_cons_zero, List.getElem?_cons_succ, Nat.add_zero] at c0 c1 c2 c3 c4 c5 c6 c7 c8 c9 c10 c11 c12 hu hl hm hux hlen hck hzk
  obtain ⟨up, uc, rfl, _⟩ := hu.form
  obtain ⟨mp, mc, rfl, _⟩ := hm.form
  have hz := ZS_below w x.st (.slice up x.st.uses.length uc)
  have hzz := ZS_size w x.st (.slice up x.st.uses.length uc)
  have hs := ZS_s w x.st (.slice up x.st.uses.length uc)
  show Calls _ _ _ _ fun e w' => e = .returned (.int .i64 (heldL (ps.map Prod.fst) x t)) ∧ _
  by_cases h12 : x.st.kind = 12
  · by_cases h1 : x.st.uses.length = 1
    · obtain ⟨ub, uo, rfl, hub, hrw⟩ := hu.cell (by omega)
      have h0 : 0 < x.st.uses.length := by omega
      obtain ⟨j, hj⟩ : ∃ j, j = x.st.uses[0] := ⟨_, rfl⟩
      have hjl : j < ps.length := by rw [hj]; exact hux _ (List.getElem_mem _)
      have cu : w.cell? ⟨ub, uo, none⟩ = some (.int .i64 (j : Int)) := by
        have := hrw 0 h0
        rw [ints_get h0, ← hj] at this; exact this
      have hjm : ps[j] ∈ ps := List.getElem_mem _
      have ee := fun i h => hc j hjl i h
      have hm2 := hr.made _ hjm
      have hlen2 := hw.len _ hjm
      have hck2 := hw.ck _ hjm
      have hzk2 := hw.z _ hjm
      obtain ⟨⟨y, u2, l2, m2⟩, hq2⟩ : ∃ q, ps[j] = q := ⟨_, rfl⟩
      rw [hq2] at ee hm2 hlen2 hck2 hzk2
      have e0 := ee 0 (by omega)
      have e1 := ee 1 (by omega)
      have e2 := ee 2 (by omega)
      have e3 := ee 3 (by omega)
      have e4 := ee 4 (by omega)
      have e5 := ee 5 (by omega)
      have e6 := ee 6 (by omega)
      have e7 := ee 7 (by omega)
      have e8 := ee 8 (by omega)
      have e9 := ee 9 (by omega)
      have e10 := ee 10 (by omega)
      have e11 := ee 11 (by omega)
      have e12 := ee 12 (by omega)
      simp only [tkCells, List.getElem?_cons_zero, List.getElem?_cons_succ, Nat.add_zero] at e0 e1 e2 e3 e4 e5 e6 e7 e8 e9 e10 e11 e12 hm2 hlen2 hck2 hzk2
      obtain ⟨mp2, mc2, rfl, _⟩ := hm2.form
      have hcall1 := fun w1 => reach_any y u2 l2 mp2 mc2 t w1 hzk2 hck2 hlen2 ht
      have hcall2 := fun w1 => reach_any x (.slice (some ⟨ub, uo, none⟩) x.st.uses.length uc) l mp mc t w1 hzk hck hlen ht
      have HH : Hid (heldL (ps.map Prod.fst) x t = (rchL y t : Int) - (rchL x t : Int)) := by
        show heldL _ _ _ = _
        unfold heldL
        rw [if_pos ⟨h12, h1⟩]
        have r1 : x.st.uses[0]? = some j := by rw [List.getElem?_eq_getElem h0, ← hj]
        have r2 : (ps.map Prod.fst)[j]? = some y := by simp [hjl, hq2]
        simp only [r1, r2]
      have hr1 : rchL y t ≤ 4097 := by unfold rchL; cases y.bit t <;> simp <;> omega
      have hr2 : rchL x t ≤ 4097 := by unfold rchL; cases x.bit t <;> simp <;> omega
      have g1 : ((x.st.kind : Int) == 12) = true := by simp; omega
      have g2 : ((x.st.kind : Int) != 12) = false := by simp; omega
      have g3 : ((x.st.uses.length : Int) == 1) = true := by simp; omega
      have g4 : ((x.st.uses.length : Int) != 1) = false := by simp; omega
      have hI0 : 0 < x.st.uses.length := h0
      have KB : Hid (∀ w1, Below w.heap.size w w1 → ∀ i, w1.cell? ⟨b, i, none⟩ = w.cell? ⟨b, i, none⟩) := fun w1 h i => h.cell (p := ⟨b, i, none⟩) hb
      clear hc cc ee hr hrw hu hl hm hm2 hj hux hw hq hq2 h12 h1 hck hzk hck2 hzk2 hmem hjm
      go_enter Try.func72, Try.ntmps72
      go_wp2_with fail
      refine (hcall1 _).mono ?_
      rintro e w1 ⟨rfl, hb1⟩
      have hB1 : Below w.heap.size w w1 := hz.trans (hb1.mono (by simp))
      have q := KB.out w1 hB1
      have d0 := (q (k * 13)).trans c0
      have d1 := (q (k * 13 + 1)).trans c1
      have d2 := (q (k * 13 + 2)).trans c2
      have d3 := (q (k * 13 + 3)).trans c3
      have d4 := (q (k * 13 + 4)).trans c4
      have d5 := (q (k * 13 + 5)).trans c5
      have d6 := (q (k * 13 + 6)).trans c6
      have d7 := (q (k * 13 + 7)).trans c7
      have d8 := (q (k * 13 + 8)).trans c8
      have d9 := (q (k * 13 + 9)).trans c9
      have d10 := (q (k * 13 + 10)).trans c10
      have d11 := (q (k * 13 + 11)).trans c11
      have d12 := (q (k * 13 + 12)).trans c12
      have hz1 := hB1.size
      have hbb : b < w1.heap.size := by omega
      clear q
      go_wp2_with fail
      refine (hcall2 w1).mono ?_
      rintro e w2 ⟨rfl, hb2⟩
      have hB2 : Below w.heap.size w w2 := hB1.trans (hb2.mono (by omega))
      go_wp2
      go_ret
      exact ⟨ret_int (by rw [HH.out]), hB2⟩
    · have HH : Hid (heldL (ps.map Prod.fst) x t = 0) := by show heldL _ _ _ = _; unfold heldL; rw [if_neg (fun e => h1 e.2)]
      have g1 : ((x.st.kind : Int) == 12) = true := by simp; omega
      have g2 : ((x.st.kind : Int) != 12) = false := by simp; omega
      have g3 : ((x.st.uses.length : Int) == 1) = false := by simp only [beq_eq_false_iff_ne, ne_eq]; omega
      have g4 : ((x.st.uses.length : Int) != 1) = true := by simp only [bne_iff_ne, ne_eq]; omega
      clear hc cc hr hu hl hm hux hw hq h12 h1 hck hzk hmem
      go_enter Try.func72, Try.ntmps72
      go_wp2
      go_ret
      exact ⟨ret_int HH.out.symm, hz⟩
  · have HH : Hid (heldL (ps.map Prod.fst) x t = 0) := by show heldL _ _ _ = _; unfold heldL; rw [if_neg (fun e => h12 e.1)]
    have g1 : ((x.st.kind : Int) == 12) = false := by simp; omega
    have g2 : ((x.st.kind : Int) != 12) = true := by simp; omega
    clear hc cc hr hu hl hm hux hw hq h12 hck hzk hmem
    go_enter Try.func72, Try.ntmps72
    go_wp2
    go_ret
    exact ⟨ret_int HH.out.symm, hz⟩
end Go.Proofs.Ytfbkjopidjojeab

namespace Go.Proofs.Ytfbkjopidjojeab
open Go.RowKit

theorem any_no {α : Type} {f : α → Bool} {L : List α} (h : ∀ j (hj : j < L.length), f L[j] = false) : L.any f = false := by
  rw [List.any_eq_false]
  intro x hx
  obtain ⟨j, hj, rfl⟩ := List.getElem_of_mem hx
  rw [h j hj]; simp
theorem any_yes {α : Type} {f : α → Bool} {L : List α} {j : Nat} (hj : j < L.length) (h : f L[j] = true) : L.any f = true := by
  rw [List.any_eq_true]; exact ⟨_, List.getElem_mem _, h⟩
theorem any_map {α β : Type} {f : β → Bool} {g : α → β} (L : List α) : (L.map g).any f = L.any fun x => f (g x) := by rw [List.any_map]; rfl

set_option maxRecDepth 50000 in
set_option maxHeartbeats 1000000 in
theorem wants_any (ps : List TV) (p : Option Addr) (cap t : Nat) (w : World) (hr : TR w p ps) (hn : ps.length ≤ 24) (hw : TWf ps) (ht : t ≤ 1048576) :
    Calls Try.prog 49 #[.slice p ps.length cap, .int .i64 t] w fun e w' => e = .returned (.bool (wantsL (ps.map Prod.fst) t)) ∧ Below w.heap.size w w' := by
  have HWL : Hid (wantsL (ps.map Prod.fst) t = ps.any fun q => wantB t q.1) := any_map ps
  go_enter Try.func49, Try.ntmps49
  go_wp2
  go_loopw [5] (fun i wr => ∃ k : Nat, k ≤ ps.length ∧ i = .int .i64 k ∧ Below w.heap.size w wr ∧ Hid (∀ j (h : j < ps.length), j < k → wantB t ps[j].1 = false)) (fun i _ => ps.length - (intOf i).toNat)
  case atStart => exact ⟨0, Nat.zero_le _, rfl, Below.refl _ _, fun j h hj => by omega⟩
  case round =>
    obtain ⟨k, hk, rfl, hnx, HB⟩ := hrel
    have hsz := hnx.size
    by_cases hlt : k < ps.length
    · have hrr := hr.below hnx (Nat.le_refl _)
      obtain ⟨b, rfl, hb, hc⟩ := hrr.cel hlt
      have cc := fun j h => hc k hlt j h
      have hmem : ps[k] ∈ ps := List.getElem_mem _
      have hu := hrr.uses _ hmem
      have hl := hrr.list _ hmem
      have hm := hrr.made _ hmem
      have hlen := hw.len _ hmem
      have hck := hw.ck _ hmem
      have hzk := hw.z _ hmem
      have hnext : wantB t ps[k].1 = false → ∀ j (h : j < ps.length), j < k + 1 → wantB t ps[j].1 = false := fun hf j h hj => by
        rcases Nat.lt_or_ge j k with q | q
        · exact HB.out j h q
        · have : j = k := by omega
          subst this; exact hf
      have hyes : wantB t ps[k].1 = true → wantsL (ps.map Prod.fst) t = true := fun hf => by rw [HWL.out]; exact any_yes hlt hf
      obtain ⟨⟨x, u, l, m⟩, hq⟩ : ∃ q, ps[k] = q := ⟨_, rfl⟩
      rw [hq] at cc hu hl hm hlen hck hzk hnext hyes
      have c0 := cc 0 (by omega)
      have c1 := cc 1 (by omega)
      have c2 := cc 2 (by omega)
      have c3 := cc 3 (by omega)
      have c4 := cc 4 (by omega)
      have c5 := cc 5 (by omega)
      have c6 := cc 6 (by omega)
      have c7 := cc 7 (by omega)
      have c8 := cc 8 (by omega)
      have c9 := cc 9 (by omega)
      have c10 := cc 10 (by omega)
      have c11 := cc 11 (by omega)
      have c12 := cc 12 (by omega)
      simp only [tkCells, List.getElem?_cons_zero, List.getElem?_cons_succ, Nat.add_zero] at c0 c1 c2 c3 c4 c5 c6 c7 c8 c9 c10 c11 c12 hu hl hm hlen hck hzk hnext hyes
      obtain ⟨up, uc, rfl, _⟩ := hu.form
      obtain ⟨mp, mc, rfl, _⟩ := hm.form
      obtain ⟨lp, lc, rfl, _⟩ := hl.form
      have HNX : Hid (wantB t x = false → ∀ j (h : j < ps.length), j < k + 1 → wantB t ps[j].1 = false) := hnext
      have HY : Hid (wantB t x = true → wantsL (ps.map Prod.fst) t = true) := hyes
      have hbw := Y1_below wr x (.slice up x.st.uses.length uc) (.slice lp x.list.length lc) (.slice mp x.made.length mc)
      have hyc := Y1_c wr x (.slice up x.st.uses.length uc) (.slice lp x.list.length lc) (.slice mp x.made.length mc)
      have hbit := fun w1 => bit_all x.st.ck.1 x.st.ck.2 t w1 hzk hck.1 hck.2 ht
      clear hc cc hrr hu hl hm hq hck hzk hnext hyes hmem
      by_cases h1 : x.st.kind = 1
      · have g1 : ((x.st.kind : Int) == 1) = true := by simp; omega
        cases hbt : bitAt x.st.ck.1 x.st.ck.2 t with
        | false =>
          have HN2 : Hid (∀ j (h : j < ps.length), j < k + 1 → wantB t ps[j].1 = false) := HNX.out (by unfold wantB Tk.bit ckS; rw [hbt]; simp)
          rw [hbt] at hbit
          clear h1 hbt
          go_wp2_with fail
          refine (hbit _).mono ?_
          rintro e w1 ⟨rfl, hb1⟩
          have hB1 : Below w.heap.size w w1 := hnx.trans ((hbw.trans (hb1.mono (by simp))).mono hsz)
          go_wp2
          go_roundw
          case rel => exact ⟨k + 1, by omega, by go_num, hB1, HN2⟩
          case measure => simp [intOf]; omega
        | true =>
          rw [hbt] at hbit
          by_cases hle : x.list.length ≤ x.made.length
          · have HR : Hid (wantsL (ps.map Prod.fst) t = true) := HY.out (by unfold wantB Tk.bit ckS; rw [hbt, h1]; simp [hle])
            clear h1 hbt
            go_wp2_with fail
            refine (hbit _).mono ?_
            rintro e w1 ⟨rfl, hb1⟩
            have hB1 : Below w.heap.size w w1 := hnx.trans ((hbw.trans (hb1.mono (by simp))).mono hsz)
            have d9 : w1.cell? ⟨wr.heap.size, 9, none⟩ = some (.slice lp x.list.length lc) := by rw [hb1.cell (p := ⟨wr.heap.size, 9, none⟩) (by show wr.heap.size < _; simp)]; exact hyc 9
            have d11 : w1.cell? ⟨wr.heap.size, 11, none⟩ = some (.slice mp x.made.length mc) := by rw [hb1.cell (p := ⟨wr.heap.size, 11, none⟩) (by show wr.heap.size < _; simp)]; exact hyc 11
            go_wp2
            go_ret
            exact ⟨ret_bool HR.out.symm, hB1⟩
          · have HN2 : Hid (∀ j (h : j < ps.length), j < k + 1 → wantB t ps[j].1 = false) := HNX.out (by unfold wantB; simp [hle])
            have hlt2 : x.made.length < x.list.length := by omega
            clear h1 hbt
            go_wp2_with fail
            refine (hbit _).mono ?_
            rintro e w1 ⟨rfl, hb1⟩
            have hB1 : Below w.heap.size w w1 := hnx.trans ((hbw.trans (hb1.mono (by simp))).mono hsz)
            have d9 : w1.cell? ⟨wr.heap.size, 9, none⟩ = some (.slice lp x.list.length lc) := by rw [hb1.cell (p := ⟨wr.heap.size, 9, none⟩) (by show wr.heap.size < _; simp)]; exact hyc 9
            have d11 : w1.cell? ⟨wr.heap.size, 11, none⟩ = some (.slice mp x.made.length mc) := by rw [hb1.cell (p := ⟨wr.heap.size, 11, none⟩) (by show wr.heap.size < _; simp)]; exact hyc 11
            go_wp2
            go_roundw
            case rel => exact ⟨k + 1, by omega, by go_num, hB1, HN2⟩
            case measure => simp [intOf]; omega
      · have g1 : ((x.st.kind : Int) == 1) = false := by simp; omega
        have HN2 : Hid (∀ j (h : j < ps.length), j < k + 1 → wantB t ps[j].1 = false) := HNX.out (by unfold wantB; simp [h1])
        have hB1 : Below w.heap.size w _ := hnx.trans (hbw.mono hsz)
        clear h1 hbit
        go_wp2
        go_roundw
        case rel => exact ⟨k + 1, by omega, by go_num, hB1, HN2⟩
        case measure => simp [intOf]; omega
    · have HR : Hid (wantsL (ps.map Prod.fst) t = false) := by show _ = _; rw [HWL.out]; exact any_no (fun j hj => HB.out j hj (by omega))
      clear hr
      go_wp2
      go_ret
      exact ⟨ret_bool HR.out.symm, hnx⟩

set_option maxRecDepth 50000 in
set_option maxHeartbeats 1000000 in
theorem overflows_any (ps : List TV) (p : Option Addr) (cap t : Nat) (w : World) (hr : TR w p ps) (hn : ps.length ≤ 24) (hw : TWf ps) (ht : t ≤ 1048576) :
    Calls Try.prog 51 #[.slice p ps.length cap, .int .i64 t] w fun e w' => e = .returned (.bool (overL (ps.map Prod.fst) t)) ∧ Below w.heap.size w w' := by
  have HWL : Hid (overL (ps.map Prod.fst) t = ps.any fun q => overB (ps.map Prod.fst) t q.1) := any_map ps
  go_enter Try.func51, Try.ntmps51
  go_wp2
  go_loopw [5] (fun i wr => ∃ k : Nat, k ≤ ps.length ∧ i = .int .i64 k ∧ Below w.heap.size w wr ∧ Hid (∀ j (h : j < ps.length), j < k → overB (ps.map Prod.fst) t ps[j].1 = false)) (fun i _ => ps.length - (intOf i).toNat)
  case atStart => exact ⟨0, Nat.zero_le _, rfl, Below.refl _ _, fun j h hj => by omega⟩
  case round =>
    obtain ⟨k, hk, rfl, hnx, HB⟩ := hrel
    have hsz := hnx.size
    by_cases hlt : k < ps.length
    · have hrr := hr.below hnx (Nat.le_refl _)
      obtain ⟨b, rfl, hb, hc⟩ := hrr.cel hlt
      have c10 : wr.cell? ⟨b, k * 13 + 10, none⟩ = some (.int .i64 ps[k].1.size) := hc k hlt 10 (by omega)
      have hcall := held_any ps (some ⟨b, 0, none⟩) cap k t wr.drew (hrr.below (Below.refl wr.heap.size wr).drew (Nat.le_refl _)) hlt hw ht
      have hnext : overB (ps.map Prod.fst) t ps[k].1 = false → ∀ j (h : j < ps.length), j < k + 1 → overB (ps.map Prod.fst) t ps[j].1 = false := fun hf j h hj => by
        rcases Nat.lt_or_ge j k with q | q
        · exact HB.out j h q
        · have : j = k := by omega
          subst this; exact hf
      have hyes : overB (ps.map Prod.fst) t ps[k].1 = true → overL (ps.map Prod.fst) t = true := fun hf => by rw [HWL.out]; exact any_yes hlt hf
      have hob : overB (ps.map Prod.fst) t ps[k].1 = decide (ps[k].1.size < heldL (ps.map Prod.fst) ps[k].1 t) := rfl
      rw [hob] at hnext hyes
      obtain ⟨z, hz⟩ : ∃ z, ps[k].1.size = z := ⟨_, rfl⟩
      obtain ⟨h, hh⟩ : ∃ h, heldL (ps.map Prod.fst) ps[k].1 t = h := ⟨_, rfl⟩
      rw [hz] at c10
      rw [hh] at hcall
      rw [hz, hh] at hnext hyes
      clear hc hrr hob hz hh
      by_cases hzh : z < h
      · have HR : Hid (overL (ps.map Prod.fst) t = true) := hyes (by simp [hzh])
        clear hnext hyes
        go_wp2
        go_region_held3 (fun w' => w'.cell? ⟨b, k * 13 + 10, none⟩ = some (.int .i64 z)) (go_keep)
          (first | (go_at_call 72; refine hcall.mono ?_; rintro e w1 ⟨hK, hb1⟩; subst hK; have hb1' : Below wr.heap.size wr w1 := below_undrew (W := wr) hb1; have d0 := hb1'.cell (p := ⟨b, k * 13 + 10, none⟩) hb; rw [c10] at d0; have hz1 := hb1'.size; have hbb : b < w1.heap.size := by omega))
        go_wp2
        go_ret
        exact ⟨ret_bool HR.out.symm, hnx.trans (hb1'.mono hsz)⟩
      · have HN2 : Hid (∀ j (h : j < ps.length), j < k + 1 → overB (ps.map Prod.fst) t ps[j].1 = false) := hnext (by simp; omega)
        clear hnext hyes
        go_wp2
        go_region_held3 (fun w' => w'.cell? ⟨b, k * 13 + 10, none⟩ = some (.int .i64 z)) (go_keep)
          (first | (go_at_call 72; refine hcall.mono ?_; rintro e w1 ⟨hK, hb1⟩; subst hK; have hb1' : Below wr.heap.size wr w1 := below_undrew (W := wr) hb1; have d0 := hb1'.cell (p := ⟨b, k * 13 + 10, none⟩) hb; rw [c10] at d0; have hz1 := hb1'.size; have hbb : b < w1.heap.size := by omega))
        go_wp2
        go_roundw
        case rel => exact ⟨k + 1, by omega, by go_num, hnx.trans (hb1'.mono hsz), HN2⟩
        case measure => simp [intOf]; omega
    · have HR : Hid (overL (ps.map Prod.fst) t = false) := by show _ = _; rw [HWL.out]; exact any_no (fun j hj => HB.out j hj (by omega))
      clear hr
      go_wp2
      go_ret
      exact ⟨ret_bool HR.out.symm, hnx⟩
end Go.Proofs.Ytfbkjopidjojeab

