/-
  Joined: Ia Ib Ic Id.
-/
import Derived.Test.YtfbkjopidjojeabPE
import Derived.BigQuiet
import Derived.Test.YtfbkjopidjojeabP9
namespace Go.Proofs.Ytfbkjopidjojeab
open Go.RowKit

/-- A bit as a byte's number. -/
def bn (b : Bool) : Nat := if b then 49 else 48
/-- A text that spells a word. -/
structure TxtOk (s : ByteArray) (u v : List Bool) : Prop where
  size : s.size = u.length + v.length + 2
  lead : ∀ i (h : i < s.size), i < u.length → s[i].toNat = bn (u.getD i false)
  mark : ∀ (h : u.length < s.size), s[u.length].toNat = 40
  round : ∀ j (h : u.length + 1 + j < s.size), j < v.length → s[u.length + 1 + j].toNat = bn (v.getD j false)
theorem txt_list (u v : List Bool) : (txt (bs u) (bs v)).data.toList = u.map bb ++ (40 :: (v.map bb ++ [41])) := by
  unfold txt
  simp [bs_toList]
theorem bb_bn (b : Bool) : (bb b).toNat = bn b := by cases b <;> rfl
theorem txt_ok (u v : List Bool) : TxtOk (txt (bs u) (bs v)) u v := by
  have hl := txt_list u v
  have hsz : (txt (bs u) (bs v)).size = u.length + v.length + 2 := by
    have := congrArg List.length hl
    simp at this
    show (txt (bs u) (bs v)).data.size = _
    rw [← Array.length_toList, hl]; simp; omega
  refine ⟨hsz, fun i h hi => ?_, fun h => ?_, fun j h hj => ?_⟩
  · rw [← get_toList _ _ h]
    have : (txt (bs u) (bs v)).data.toList[i]? = some (bb (u.getD i false)) := by rw [hl, List.getElem?_append_left (by simpa using hi)]; simp [hi]
    rw [List.getElem?_eq_getElem (by simpa using h)] at this
    injection this with this
    rw [this, bb_bn]
  · rw [← get_toList _ _ h]
    have : (txt (bs u) (bs v)).data.toList[u.length]? = some 40 := by rw [hl, List.getElem?_append_right (by simp)]; simp
    rw [List.getElem?_eq_getElem (by simpa using h)] at this
    injection this with this
    rw [this]; rfl
  · rw [← get_toList _ _ h]
    have : (txt (bs u) (bs v)).data.toList[u.length + 1 + j]? = some (bb (v.getD j false)) := by
      rw [hl, List.getElem?_append_right (by simp; omega)]
      have e : u.length + 1 + j - (u.map bb).length = j + 1 := by simp; omega
      rw [e, List.getElem?_cons_succ, List.getElem?_append_left (by simpa using hj)]
      simp [hj]
    rw [List.getElem?_eq_getElem (by simpa using h)] at this
    injection this with this
    rw [this, bb_bn]

set_option maxRecDepth 50000 in
set_option maxHeartbeats 1000000 in
theorem ones_any (s : ByteArray) (u v : List Bool) (n : Nat) (w : World) (ht : TxtOk s u v) (hv0 : v ≠ []) (hu : u.length ≤ 64) (hv : v.length ≤ 64) (hn : n ≤ 1048576) :
    Calls Try.prog 20 #[.string s, .int .i64 n] w fun e w' => e = .returned (.int .i64 (ones (bitAt u v) n)) ∧ w' = w := by
  have hvl : 0 < v.length := List.length_pos_iff.2 hv0
  have hsz := ht.size
  have HT : Hid (TxtOk s u v) := ht
  obtain ⟨U, hU⟩ : ∃ U, u.length = U := ⟨_, rfl⟩
  obtain ⟨V, hV⟩ : ∃ V, v.length = V := ⟨_, rfl⟩
  have HU : Hid (u.length = U) := hU
  have HV : Hid (v.length = V) := hV
  rw [hU, hV] at hsz
  rw [hU] at hu
  rw [hV] at hv hvl
  have hs1 : U + V + 2 ≤ s.size := by omega
  have hs2 : s.size ≤ U + V + 2 := by omega
  clear ht hv0 hU hV hsz
  go_enter Try.func20, Try.ntmps20
  go_wp2
  go_loop [5] (fun k => ∃ j : Nat, j ≤ U ∧ k = .int .i64 j) (fun k => U - (intOf k).toNat)
  case atStart => exact ⟨0, Nat.zero_le _, rfl⟩
  case round =>
    obtain ⟨j, hj, rfl⟩ := hrel
    have hjs : j < s.size := by omega
    by_cases hlt : j < U
    · have hb := HT.out.lead j hjs (by rw [HU.out]; exact hlt)
      have hb2 : ((s[j].toNat : Int) == 40) = false := by
        rw [hb]; unfold bn; split <;> rfl
      have hb3 : ((s[j].toNat : Int) != 40) = true := by
        rw [hb]; unfold bn; split <;> rfl
      clear hb
      go_wp2
      go_round
      case rel => exact ⟨j + 1, by omega, by go_num⟩
      case measure => simp [intOf]; omega
    · have hje : j = U := by omega
      subst hje
      have hb : s[j].toNat = 40 := by
        have := HT.out.mark (by rw [HU.out]; exact hjs)
        simp only [HU.out] at this
        exact this
      have hb2 : ((s[j].toNat : Int) == 40) = true := by rw [hb]; rfl
      have hb3 : ((s[j].toNat : Int) != 40) = false := by rw [hb]; rfl
      have hlv : (s.size : Int) - (j : Int) - 2 = (V : Int) := by omega
      clear hb hj hlt
      go_wp2
      go_loop [7, 8, 9] (fun c i b => ∃ k m : Nat, k ≤ n ∧ i = .int .i64 k ∧ c = .int .i64 m ∧ m ≤ k ∧ Hid (ones (bitAt u v) k = m)) (fun _ i _ => n - (intOf i).toNat)
      case atStart => exact ⟨0, 0, Nat.zero_le _, rfl, rfl, Nat.le_refl _, rfl⟩
      case round =>
        obtain ⟨k, m, hk, rfl, rfl, hm, HO⟩ := hrel
        by_cases hkn : k < n
        · have hgt : (0 : Int) < (V : Int) := by omega
          have step : ∀ b, bitAt u v k = b → ones (bitAt u v) (k + 1) = m + b.toNat := fun b hb => by rw [ones, HO.out, hb]
          have HST : Hid (∀ b, bitAt u v k = b → ones (bitAt u v) (k + 1) = m + b.toNat) := step
          clear step
          by_cases hkU : k < j
          · have hks : k < s.size := by omega
            have hbt : bitAt u v k = u.getD k false := by unfold bitAt; rw [if_pos (by rw [HU.out]; exact hkU)]
            have hby := HT.out.lead k hks (by rw [HU.out]; exact hkU)
            rw [← hbt] at hby
            clear hbt
            cases hbb : bitAt u v k with
            | true =>
              have b1 : ((s[k].toNat : Int) == 49) = true := by rw [hby, hbb]; rfl
              have HN : Hid (ones (bitAt u v) (k + 1) = m + 1) := HST.out true hbb
              clear hby hbb
              go_wp2
              go_round
              case rel => exact ⟨k + 1, m + 1, by omega, by go_num, by go_num, by omega, HN⟩
              case measure => simp [intOf]; omega
            | false =>
              have b1 : ((s[k].toNat : Int) == 49) = false := by rw [hby, hbb]; rfl
              have HN : Hid (ones (bitAt u v) (k + 1) = m) := HST.out false hbb
              clear hby hbb
              go_wp2
              go_round
              case rel => exact ⟨k + 1, m, by omega, by go_num, rfl, by omega, HN⟩
              case measure => simp [intOf]; omega
          · obtain ⟨r, hr⟩ : ∃ r, r = (k - j) % V := ⟨_, rfl⟩
            have hrV : r < V := by rw [hr]; exact Nat.mod_lt _ (by omega)
            have hm2 : (0 : Int) ≤ (k : Int) - (j : Int) := by omega
            have hre : ((k : Int) - (j : Int)) % (V : Int) = (r : Int) := by
              rw [hr, show (k : Int) - (j : Int) = ((k - j : Nat) : Int) by omega]; rfl
            have hrt : ((k : Int) - (j : Int)).tmod (V : Int) = (r : Int) := by rw [Int.tmod_eq_emod_of_nonneg hm2]; exact hre
            have hks : j + 1 + r < s.size := by omega
            have hbt : bitAt u v k = v.getD r false := by unfold bitAt; rw [if_neg (by rw [HU.out]; exact hkU), HU.out, HV.out, hr]
            have hby : s[j + 1 + r].toNat = bn (v.getD r false) := by
              have := HT.out.round r (by rw [HU.out]; exact hks) (by rw [HV.out]; exact hrV)
              simp only [HU.out] at this
              exact this
            rw [← hbt] at hby
            clear hbt hr
            cases hbb : bitAt u v k with
            | true =>
              have b1 : ((s[j + 1 + r].toNat : Int) == 49) = true := by rw [hby, hbb]; rfl
              have HN : Hid (ones (bitAt u v) (k + 1) = m + 1) := HST.out true hbb
              clear hby hbb
              go_wp2
              go_round
              case rel => exact ⟨k + 1, m + 1, by omega, by go_num, by go_num, by omega, HN⟩
              case measure => simp [intOf]; omega
            | false =>
              have b1 : ((s[j + 1 + r].toNat : Int) == 49) = false := by rw [hby, hbb]; rfl
              have HN : Hid (ones (bitAt u v) (k + 1) = m) := HST.out false hbb
              clear hby hbb
              go_wp2
              go_round
              case rel => exact ⟨k + 1, m, by omega, by go_num, rfl, by omega, HN⟩
              case measure => simp [intOf]; omega
        · have HF : Hid (ones (bitAt u v) n = m) := by have := HO.out; rw [show k = n by omega] at this; exact this
          have hgt : (0 : Int) < (V : Int) := by omega
          go_wp2
          go_ret
          exact ⟨ret_int (by rw [HF.out]), rfl⟩
end Go.Proofs.Ytfbkjopidjojeab

namespace Go.Proofs.Ytfbkjopidjojeab
open Go.RowKit

set_option maxRecDepth 50000 in
set_option maxHeartbeats 1000000 in
theorem same_eq (L : List Int) (va vb : Value) (w : World) (hL : L.length ≤ 1048576) (ha : Reads w va 1 L.length (zs L)) (hb : Reads w vb 1 L.length (zs L)) :
    Calls Try.prog 19 #[va, vb] w fun e w' => e = .returned (.bool true) ∧ Below w.heap.size w w' := by
  obtain ⟨pa, ca, rfl, _⟩ := ha.form
  obtain ⟨pb, cb, rfl, _⟩ := hb.form
  have g1 : ((L.length : Int) != (L.length : Int)) = false := by simp
  go_enter Try.func19, Try.ntmps19
  go_wp2
  go_loopw [5] (fun i wr => ∃ k : Nat, k ≤ L.length ∧ i = .int .i64 k ∧ Below w.heap.size w wr) (fun i _ => L.length - (intOf i).toNat)
  case atStart => exact ⟨0, Nat.zero_le _, rfl, Below.refl _ _⟩
  case round =>
    obtain ⟨k, hk, rfl, hnx⟩ := hrel
    by_cases hlt : k < L.length
    · obtain ⟨a, ao, rfl, haz, hac⟩ := ha.cell (by omega)
      obtain ⟨b, bo, rfl, hbz, hbc⟩ := hb.cell (by omega)
      have c1 : wr.cell? ⟨a, ao + k, none⟩ = some (.int .i64 L[k]) := by rw [hnx.cell (p := ⟨a, ao + k, none⟩) haz, hac k hlt, zs_get hlt]
      have c2 : wr.cell? ⟨b, bo + k, none⟩ = some (.int .i64 L[k]) := by rw [hnx.cell (p := ⟨b, bo + k, none⟩) hbz, hbc k hlt, zs_get hlt]
      obtain ⟨z, hz⟩ : ∃ z, L[k] = z := ⟨_, rfl⟩
      rw [hz] at c1 c2
      have g2 : (z != z) = false := by simp
      clear hac hbc ha hb hz
      go_wp2
      go_quiet (fail)
      go_wp2
      go_roundw
      case rel => exact ⟨k + 1, by omega, by go_num, below_drewN hnx _⟩
      case measure => simp [intOf]; omega
    · clear ha hb
      go_wp2
      go_ret
      exact ⟨rfl, hnx⟩

set_option maxRecDepth 50000 in
set_option maxHeartbeats 1000000 in
theorem begins_pre (A L : List Int) (va vb : Value) (w : World) (hA : A.length ≤ 1048576) (ha : Reads w va 1 A.length (zs A)) (hb : Reads w vb 1 L.length (zs L)) (hp : A <+: L) :
    Calls Try.prog 18 #[va, vb] w fun e w' => e = .returned (.bool true) ∧ Below w.heap.size w w' := by
  obtain ⟨pa, ca, rfl, _⟩ := ha.form
  obtain ⟨pb, cb, rfl, hcb⟩ := hb.form
  have hle := hp.length_le
  have hsub : Reads w (.slice pb A.length cb) 1 A.length (zs A) := by
    obtain ⟨t, ht⟩ := hp
    obtain ⟨_, q, c', he, _, hrow⟩ := hb
    injection he with he1 _ _
    refine ⟨by simp [zs], pb, cb, rfl, by omega, ?_⟩
    rcases hrow with h | ⟨b, off, h1, h2⟩
    · left; omega
    · right
      refine ⟨b, off, he1.trans h1, h2.1, fun i hi => ?_⟩
      rw [h2.2 i (by rw [zs_length] at hi ⊢; omega), ← ht]
      have : zs (A ++ t) = zs A ++ zs t := by simp [zs]
      rw [this, List.getElem?_append_left hi]
  have hcall := fun w1 (h1 : Below w.heap.size w w1) => same_eq A (.slice pa A.length ca) (.slice pb A.length cb) w1 hA (ha.below h1 (Nat.le_refl _)) (hsub.below h1 (Nat.le_refl _))
  clear ha hb hsub hp
  go_enter Try.func18, Try.ntmps18
  go_wp2_with fail
  refine (hcall w (Below.refl _ _)).mono ?_
  rintro e w1 ⟨rfl, hb1⟩
  go_wp2
  go_ret
  exact ⟨rfl, hb1⟩

theorem comp_err2 {t : List UInt8} {f : Flt} (h : compF t = .error f) : f.1 ≠ 0 := by
  unfold compF at h
  cases hs : sourceL t with
  | error g => rw [hs] at h; cases h; exact source_err hs
  | ok ls => rw [hs] at h; exact make_err h
def smlB : ByteArray := { data := #[105, 110, 32, 120, 32, 40, 49, 41, 10, 111, 117, 116, 32, 120] }
theorem sml_comp : ∃ rs, compF smlB.data.toList = .ok rs := ⟨[⟨1, 1, [120], [], 0, ([], [true]), ([], [true])⟩, ⟨2, 13, [], [0], 0, ([], []), ([], [])⟩], compC_ok (by kernel_rfl)⟩

/-- What read gives. -/
def ReadIs (B : Nat) (o : Except Flt (List St)) (e : Ending) (w' : World) : Prop :=
  (∃ f : Flt, o = .error f ∧ e = .returned (.tuple #[.pointer none, .bool true])) ∨
  ∃ qs v b, o = .ok (qs.map Prod.fst) ∧ e = .returned (.tuple #[.pointer (some ⟨b, 0, none⟩), .bool true]) ∧ B ≤ b ∧ w'.cell? ⟨b, 0, none⟩ = some v ∧ StepsAt w' B v qs

set_option maxRecDepth 50000 in
set_option maxHeartbeats 1000000 in
theorem read_any (s : ByteArray) (w : World) (hs : s.size ≤ maxLen) :
    Calls Try.prog 13 #[.string s] w fun e w' => ReadIs w.heap.size (compF s.data.toList) e w' ∧ Below w.heap.size w w' := by
  have hcomp := Compile_any s w hs
  obtain ⟨o, ho⟩ : ∃ o, compF s.data.toList = o := ⟨_, rfl⟩
  rw [ho] at hcomp ⊢
  have HO : Hid (compF s.data.toList = o) := ho
  clear ho hs
  go_enter Try.func13, Try.ntmps13
  go_wp2_with fail
  refine hcomp.mono ?_
  rintro e w1 ⟨hC, hb1⟩
  rcases hC with ⟨f, hf, rfl⟩ | ⟨qs, v, b, hqs, rfl, hBb, hcell, hsteps⟩
  · have hnz := comp_err2 (HO.out.trans hf)
    have g1 : ((f.1 : Int) != 0) = true := by simpa using hnz
    have g2 : ((f.1 : Int) == 0) = false := by simpa using hnz
    obtain ⟨rs, hrs⟩ := sml_comp
    have hF : Hid (o = .error f) := hf
    obtain ⟨W2, hW2⟩ : ∃ W2, W2 = w1.alloc (Obj.cells #[.int .i64 f.1, .int .i64 f.2] 30) := ⟨_, rfl⟩
    have hb2 : Below w1.heap.size w1 W2 := by rw [hW2]; exact (Below.refl _ _).alloc (Nat.le_refl _) _
    have hs2 : W2.heap.size = w1.heap.size + 1 := by rw [hW2]; simp
    have hc2 : W2.cell? ⟨w1.heap.size, 0, none⟩ = some (.int .i64 f.1) := by rw [hW2, cell_of_row _ _ 0 _ _ _ (heap_alloc_new w1 _)]; rfl
    have hcomp2 := Compile_any smlB W2 (by decide)
    rw [hrs] at hcomp2
    clear hf hnz hcomp hrs
    go_wp2_with fail
    rw [← hW2]
    refine hcomp2.mono ?_
    rintro e w3 ⟨hC3, hb3⟩
    have d0 : w3.cell? ⟨w1.heap.size, 0, none⟩ = some (.int .i64 f.1) := by rw [hb3.cell (p := ⟨w1.heap.size, 0, none⟩) (by show w1.heap.size < _; omega)]; exact hc2
    have hz3 := hb3.size
    have hz1 := hb1.size
    have hlt3 : w1.heap.size < w3.heap.size := by omega
    have hB3 : Below w.heap.size w w3 := hb1.trans ((hb2.trans (hb3.mono (by omega))).mono (by omega))
    rcases hC3 with ⟨f3, hf3, _⟩ | ⟨qs3, v3, b3, _, rfl, _⟩
    · cases hf3
    · clear hc2 hW2 hcomp2
      go_wp2
      go_ret2
      exact ⟨.inl ⟨f, hF.out, rfl⟩, hB3.alloc (by omega) _⟩
  · have hz1 := hb1.size
    have hB2 : Below w.heap.size w (w1.alloc (Obj.cells #[.int .i64 0, .int .i64 0] 30)) := hb1.alloc hz1 _
    have hbA : Below w1.heap.size w1 (w1.alloc (Obj.cells #[.int .i64 0, .int .i64 0] 30)) := (Below.refl _ _).alloc (Nat.le_refl _) _
    have hbb : b < w1.heap.size := by
      rcases Nat.lt_or_ge b w1.heap.size with q | q
      · exact q
      · exfalso
        simp [World.cell?, Array.getElem?_eq_none q] at hcell
    have HR : Hid (ReadIs w.heap.size o (.returned (.tuple #[.pointer (some ⟨b, 0, none⟩), .bool true])) (w1.alloc (Obj.cells #[.int .i64 0, .int .i64 0] 30))) := .inr ⟨qs, v, b, hqs, rfl, hBb, by rw [hbA.cell (p := ⟨b, 0, none⟩) hbb]; exact hcell, hsteps.below hbA⟩
    clear hqs hcell hsteps hcomp
    go_wp2
    go_ret2
    exact ⟨HR.out, hB2⟩
end Go.Proofs.Ytfbkjopidjojeab

namespace Go.Proofs.Ytfbkjopidjojeab
open Go.RowKit

/-- The k-th number of the m-th input. -/
def gv (key : Int) (m k : Nat) : Int := wrap64 (wrap64 (wrap64 (key * ((m : Int) + 1)) + wrap64 ((k : Int) * wrap64 (key.tmod 7 + (m : Int)))) + wrap64 (wrap64 ((m : Int) * (k : Int)) * (k : Int)))
def gRow (key : Int) (n m : Nat) : List Int := (List.range n).map (gv key m)
def gLs (key : Int) (n c : Nat) : List (List Int) := (List.range c).map (gRow key n)
theorem gRow_len (key : Int) (n m : Nat) : (gRow key n m).length = n := by simp [gRow]
theorem gLs_len (key : Int) (n c : Nat) : (gLs key n c).length = c := by simp [gLs]
theorem gRow_step {key : Int} {n m k : Nat} (h : k < n) : zs ((gRow key n m).take (k + 1)) = zs ((gRow key n m).take k) ++ [.int .i64 (gv key m k)] := by
  rw [take_one (by rw [gRow_len]; exact h), zs_snoc]
  simp [gRow]
theorem gLs_step {key : Int} {n c m : Nat} (h : m < c) : (gLs key n c).take (m + 1) = (gLs key n c).take m ++ [gRow key n m] := by
  rw [take_one (by rw [gLs_len]; exact h)]
  simp [gLs]
/-- What given gives. -/
def GivenIs (B : Nat) (Ls : List (List Int)) (e : Ending) (w' : World) : Prop := ∃ v vs, e = .returned v ∧ TLo B w' v (.slice none 0 0) vs Ls []

set_option maxRecDepth 50000 in
set_option maxHeartbeats 2000000 in
theorem given_any (qs : List (St × Value)) (b n : Nat) (key : Int) (w : World) (hl : qs.length ≤ 24) (hp : ProgAt w b qs) (hux : ∀ q ∈ qs, ∀ x ∈ q.1.uses, x < qs.length) (hn : n ≤ 1000) :
    Calls Try.prog 14 #[.pointer (some ⟨b, 0, none⟩), .int .i64 n, .int .i64 key] w fun e w' => GivenIs w.heap.size (gLs key n (namesL (qs.map Prod.fst) 1 (qs.map Prod.fst)).length) e w' ∧ Below w.heap.size w w' := by
  obtain ⟨i0, hi, hz0, hz1, hz2⟩ := info_parts Try.info38
  obtain ⟨j0, hjI, hyI0, hyI1, hyI2⟩ := info_parts Try.info3
  have hins := Ins_any qs b w hl hp hux
  obtain ⟨L, hL⟩ : ∃ L, namesL (qs.map Prod.fst) 1 (qs.map Prod.fst) = L := ⟨_, rfl⟩
  have hLl : L.length ≤ 24 := by rw [← hL]; have := names_len (qs.map Prod.fst) 1 (qs.map Prod.fst); rw [List.length_map] at this; omega
  rw [hL] at hins ⊢
  clear hL
  go_enter Try.func14, Try.ntmps14
  go_wp2_with fail
  refine hins.mono ?_
  rintro e w1 ⟨⟨v, rfl, hv⟩, hb1⟩
  obtain ⟨vp, vn, vc, hve⟩ := own_isSlice hv
  have hvn : vn = L.length := by
    have := Reads.of hv
    rw [hve] at this
    obtain ⟨_, q, c', he, _, _⟩ := this
    injection he
  subst hvn
  subst hve
  obtain ⟨c, hc⟩ : ∃ c, L.length = c := ⟨_, rfl⟩
  have HC : Hid (L.length = c) := hc
  rw [hc] at hLl ⊢
  clear hv hins hc
  have hb1s := hb1.size
  have HT0 : Hid (TL w1 w1 (.slice none 0 0) (.slice none 0 0) [] ((gLs key n c).take 0) []) := ⟨World.ownsRow_nil _ _ _ _, rfl, fun i v L h => by simp at h, World.ownsRow_nil _ _ _ _, by simp, Below.refl _ _⟩
  go_wp2
  go_loopw [8, 9, 10, 11, 12] (fun ov i x k o wr => ∃ (m : Nat) (o1 : Value) (vs : List Value), i = .int .i64 m ∧ ov = o1 ∧ m ≤ c ∧ Hid (TL w1 wr o1 (.slice none 0 0) vs ((gLs key n c).take m) [])) (fun _ i _ _ _ _ => c - (intOf i).toNat)
  case atStart => exact ⟨0, _, [], rfl, rfl, Nat.zero_le _, HT0⟩
  case round =>
    clear HT0
    obtain ⟨m, ov, vs, rfl, hov, hm, HT⟩ := hrel
    replace hov := hov.symm
    subst hov
    have hnx := HT.out.bel
    have hsz := hnx.size
    by_cases hlt : m < c
    · have HG : Hid ((gLs key n c).take (m + 1) = (gLs key n c).take m ++ [gRow key n m]) := gLs_step hlt
      go_wp2
      rename World => wO
      go_loopw [10, 11] (fun x i w2 => ∃ (k : Nat) (x1 : Value), i = .int .i64 k ∧ x = x1 ∧ k ≤ n ∧ w2.ownsRow wO.heap.size 3 1 x1 k (zs ((gRow key n m).take k)) ∧ Below wO.heap.size wO w2) (fun _ i _ => n - (intOf i).toNat)
      case atStart => exact ⟨0, _, rfl, rfl, Nat.zero_le _, World.ownsRow_nil _ _ _ _, Below.refl _ _⟩
      case round =>
        obtain ⟨k, xv, rfl, hxv, hk, hown, hnx2⟩ := hrel
        replace hxv := hxv.symm
        subst hxv
        have hsz2 := hnx2.size
        by_cases hkn : k < n
        · have HS : Hid (zs ((gRow key n m).take (k + 1)) = zs ((gRow key n m).take k) ++ [.int .i64 (gv key m k)]) := gRow_step hkn
          go_wp2_with (at_builtin; refine wpList_append_own _ rfl _ _ 38 rfl wO.heap.size 3 j0 (.int .i64 0) 1 8 Try.under38 hjI hyI0 hyI1 hyI2 rfl (by decide) _ _ _ rfl (hown.alloc _) ⟨wr.heap.size, 0, none⟩ 1 1 [.int .i64 (gv key m k)] rfl rfl (cell_one_new _ _ _) (by intro x hx; simp at hx; subst hx; rfl) (by unfold maxLen; omega) (by omega) (by simp; omega) ?_; intro v' w' hown' hgrow _)
          have hb' : Below wO.heap.size wO w' := (hnx2.alloc hsz2 _).grown hgrow (by simp; omega) (fun j hj => (hown.lt j hj).1)
          have hw2 : w'.ownsRow wO.heap.size 3 1 v' (k + 1) (zs ((gRow key n m).take (k + 1))) := by rw [HS.out]; exact hown'
          clear hown' hgrow hown hnx2
          go_wp2
          go_roundw
          case rel => exact ⟨k + 1, _, by go_num, rfl, by omega, hw2, hb'⟩
          case measure => simp [intOf]; omega
        · have hkn2 : k = n := by omega
          subst hkn2
          have hown2 : wr.ownsRow wO.heap.size 3 1 xv (gRow key k m).length (zs (gRow key k m)) := by
            have := hown
            rw [List.take_of_length_le (by rw [gRow_len]; exact Nat.le_refl _)] at this
            rw [gRow_len]; exact this
          obtain ⟨xp, xn, xc, hxe⟩ := own_isSlice hown2
          subst hxe
          have hO2 := ownsRow_below HT.out.outs hnx2
          have hvl := HT.out.vlen
          rw [List.length_take, gLs_len] at hvl
          clear hown
          go_wp2_with (at_builtin; refine wpList_append_own _ rfl _ _ 36 rfl w1.heap.size 38 i0 (.slice none 0 0) 1 24 Try.under36 hi hz0 hz1 hz2 rfl (by decide) _ _ _ rfl (hO2.alloc _) ⟨wr.heap.size, 0, none⟩ 1 1 [.slice xp xn xc] rfl rfl (cell_one_new _ _ _) (by intro x hx; simp at hx; subst hx; rfl) (by unfold maxLen; omega) (by omega) (by simp; omega) ?_; intro v' w' hown' hgrow _)
          have HT2 : Hid (TL w1 w' v' (.slice none 0 0) (vs ++ [.slice xp xn xc]) ((gLs key k c).take (m + 1)) []) := by
            show TL _ _ _ _ _ _ _
            rw [HG.out]
            exact HT.out.addOut hnx2 hown2 (Nat.le_refl _) hown' hgrow
          clear hown' hgrow HT hO2 hown2
          go_wp2
          go_roundw
          case rel => exact ⟨m + 1, _, _, by go_num, rfl, by omega, HT2⟩
          case measure => simp [intOf]; omega
    · have HF : Hid (TL w1 wr ov (.slice none 0 0) vs (gLs key n c) []) := by
        have := HT.out
        rw [List.take_of_length_le (by rw [gLs_len]; omega)] at this
        exact this
      go_wp2
      go_ret
      refine ⟨⟨_, vs, rfl, ?_⟩, hb1.trans (hnx.mono hb1s)⟩
      have h := HF.out.lo
      rw [HC.out]
      exact ⟨own_mono h.outs hb1s, h.vlen, fun i v L a b => own_mono (h.inn i v L a b) hb1s, own_mono h.most hb1s⟩
end Go.Proofs.Ytfbkjopidjojeab

namespace Go.Proofs.Ytfbkjopidjojeab
open Go.RowKit

set_option maxRecDepth 50000 in
set_option maxHeartbeats 400000 in
theorem kpick_any (c : Int) (n : Nat) (w : World) (hc : (Lit.int .i64 c).wf = true) (hn0 : 0 < n) (hn : n ≤ 1099511627776) :
    Calls Try.prog 11 #[.int .i64 c, .int .i64 n] w fun e w' => (∃ r : Nat, e = .returned (.int .i64 r) ∧ r < n) ∧ w' = w := by
  have hb : -9223372036854775808 ≤ c ∧ c ≤ 9223372036854775807 := by
    simp only [Lit.wf, Bool.and_eq_true, decide_eq_true_eq] at hc
    have e1 : IntKind.i64.min = -9223372036854775808 := by decide
    have e2 : IntKind.i64.max = 9223372036854775807 := by decide
    rw [e1, e2] at hc; exact hc
  obtain ⟨hb1, hb2⟩ := hb
  have hn1 : (1 : Int) ≤ (n : Int) := by omega
  clear hc
  by_cases h : c < 0
  · go_enter Try.func11, Try.ntmps11
    go_wp2
    go_ret
    refine ⟨⟨((-(c + 1)).tmod n).toNat, ret_int ?_, ?_⟩, rfl⟩
    · have : 0 ≤ (-(c + 1)).tmod (n : Int) := Int.tmod_nonneg _ (by omega)
      rw [Int.neg_tmod] at this ⊢
      omega
    · have h1 : (-(c + 1)).tmod (n : Int) < n := Int.tmod_lt_of_pos _ (by omega)
      omega
  · have h' : (0 : Int) ≤ c := by omega
    go_enter Try.func11, Try.ntmps11
    go_wp2
    go_ret
    have h1 : 0 ≤ c % (n : Int) := Int.emod_nonneg _ (by omega)
    have h2 : c % (n : Int) < n := Int.emod_lt_of_pos _ (by omega)
    exact ⟨⟨(c % (n : Int)).toNat, ret_int (by omega), by omega⟩, rfl⟩


/-- A program that was read. -/
structure PW (w : World) (b : Nat) (qs : List (St × Value)) (R : List St) : Prop where
  at_ : ProgAt w b qs
  eq : qs.map Prod.fst = R
  good : Good R
  nock : NoCk R
theorem PW.below {w w' : World} {b : Nat} {qs : List (St × Value)} {R : List St} (h : PW w b qs R) (hb : Below w.heap.size w w') : PW w' b qs R := ⟨h.at_.below hb, h.eq, h.good, h.nock⟩
theorem PW.len {w : World} {b : Nat} {qs : List (St × Value)} {R : List St} (h : PW w b qs R) : qs.length ≤ 24 := by
  have := h.good.prog.len
  rw [← h.eq, List.length_map] at this; exact this
theorem PW.use {w : World} {b : Nat} {qs : List (St × Value)} {R : List St} (h : PW w b qs R) : ∀ q ∈ qs, ∀ x ∈ q.1.uses, x < qs.length := fun q hq x hx => by
  have := (h.good.prog.wf q.1 (by rw [← h.eq]; exact List.mem_map.2 ⟨q, hq, rfl⟩)).use x hx
  rw [← h.eq, List.length_map] at this; exact this
theorem read_pw {w' : World} {B b : Nat} {t : List UInt8} {qs : List (St × Value)} {v : Value} (hc : compF t = .ok (qs.map Prod.fst)) (h1 : w'.cell? ⟨b, 0, none⟩ = some v) (h2 : StepsAt w' B v qs) : PW w' b qs (qs.map Prod.fst) := by
  obtain ⟨p, cap, rfl, hcap, hrs⟩ := h2.rs
  refine ⟨⟨p, cap, h1, ?_, hcap, hrs⟩, rfl, comp_good hc, comp_nock hc⟩
  rcases Nat.lt_or_ge b w'.heap.size with q | q
  · exact q
  · exfalso
    simp [World.cell?, Array.getElem?_eq_none q] at h1
theorem names_cnt (R : List St) (k : Nat) : (namesL R k R).length = cntL R k := by unfold namesL cntL; rw [List.length_map]

theorem find_own {R : List St} (hn : Named R) {j : Nat} {u : St} (hj : R[j]? = some u) (h13 : u.kind ≠ 13) : findL R u.name = some j := by
  have hjl := (List.getElem?_eq_some_iff.1 hj).1
  unfold findL
  rw [List.findIdx?_eq_some_iff_getElem]
  have hju : R[j] = u := by rw [List.getElem?_eq_getElem hjl] at hj; injection hj
  refine ⟨hjl, by rw [hju]; simp [h13], fun i hi => ?_⟩
  have hil : i < R.length := by omega
  intro e
  simp only [Bool.and_eq_true, Bool.not_eq_true', beq_eq_false_iff_ne, ne_eq, beq_iff_eq] at e
  have := hn.uniq i j R[i] u (List.getElem?_eq_getElem hil) hj e.1 e.2
  omega
theorem clock_own {R : List St} (hn : Named R) {j : Nat} {u : St} (hj : R[j]? = some u) (h13 : u.kind ≠ 13) {e : Ending} (h : ClockIs R u.name e) : e = .returned (.tuple #[.string (txt (bs u.ck.1) (bs u.ck.2)), .int .i64 0]) := by
  have hf := find_own hn hj h13
  rcases h with ⟨h1, _⟩ | ⟨k, s, h1, h2, h3⟩
  · rw [hf] at h1; cases h1
  · rw [hf] at h1
    injection h1 with h1
    subst h1
    rw [hj] at h2
    injection h2 with h2
    subst h2
    exact h3
theorem clock_pw {w : World} {b : Nat} {qs : List (St × Value)} {R : List St} (h : PW w b qs R) {j : Nat} {u : St} (hj : R[j]? = some u) (h13 : u.kind ≠ 13) :
    Calls Try.prog 17 #[.pointer (some ⟨b, 0, none⟩), .string (S u.name)] w fun e w' => e = .returned (.tuple #[.string (txt (bs u.ck.1) (bs u.ck.2)), .int .i64 0]) ∧ Below w.heap.size w w' := by
  have hok : ∀ q ∈ qs, q.1.ck.1.length ≤ 64 ∧ q.1.ck.2.length ≤ 64 := fun q hq => h.good.prog.ok q.1 (by rw [← h.eq]; exact List.mem_map.2 ⟨q, hq, rfl⟩)
  refine (Clock_any qs b (S u.name) w h.len h.at_ hok).mono ?_
  rintro e w' ⟨h1, h2⟩
  rw [h.eq] at h1
  exact ⟨clock_own h.good.named hj h13 h1, h2⟩
theorem ones_ck {R : List St} (hg : Good R) {u : St} (hu : u ∈ R) (h13 : u.kind ≠ 13) (n : Nat) (hn : n ≤ 1048576) (w : World) :
    Calls Try.prog 20 #[.string (txt (bs u.ck.1) (bs u.ck.2)), .int .i64 n] w fun e w' => e = .returned (.int .i64 (ones (ckS u) n)) ∧ w' = w :=
  ones_any _ u.ck.1 u.ck.2 n w (txt_ok _ _) (hg.clk.has u hu h13) (hg.prog.ok u hu).1 (hg.prog.ok u hu).2 hn
theorem run_pw {w : World} {b : Nat} {qs : List (St × Value)} {R : List St} (h : PW w b qs R) (lp : Option Addr) (lc ticks m : Nat) (Ls : List (List Int)) (hm : Ls.length = m) (hL : LL w (.slice lp m lc) Ls) (ht : ticks ≤ 4096) (hLc : Ls.length = cntL R 1) :
    Calls Try.prog 15 #[.pointer (some ⟨b, 0, none⟩), .slice lp m lc, .int .i64 ticks, .slice none 0 0] w fun e w' => RunIs w.heap.size R Ls [] ticks e w' ∧ Below w.heap.size w w' := by
  subst hm
  obtain ⟨p, cap, h1, h2, h3, h4⟩ := h.at_
  exact pRun_nil qs R b p lp cap lc ticks Ls w h.len h1 h2 h4 hL h.eq h.good h.nock ht hLc
theorem given_pw {w : World} {b : Nat} {qs : List (St × Value)} {R : List St} (h : PW w b qs R) (n : Nat) (key : Int) (hn : n ≤ 1000) :
    Calls Try.prog 14 #[.pointer (some ⟨b, 0, none⟩), .int .i64 n, .int .i64 key] w fun e w' => (∃ lp lc, e = .returned (.slice lp (cntL R 1) lc) ∧ LL w' (.slice lp (cntL R 1) lc) (gLs key n (cntL R 1))) ∧ Below w.heap.size w w' := by
  refine (given_any qs b n key w h.len h.at_ h.use hn).mono ?_
  rintro e w' ⟨⟨v, vs, rfl, hT⟩, hb⟩
  rw [h.eq, names_cnt] at hT
  obtain ⟨hLL, _⟩ := hT.ll
  have hLL2 := hLL
  obtain ⟨vs', _, hr, _⟩ := hLL2
  obtain ⟨p, c, hv, _⟩ := hr.form
  rw [gLs_len] at hv
  subst hv
  exact ⟨⟨p, c, rfl, hLL⟩, hb⟩

/- Runs with as many numbers for each input. -/
theorem begin_len : ∀ {R : List St} {Ls : List (List Int)} {Zs : List Int} {n : Nat}, (∀ L ∈ Ls, L.length = n) → Ls.length = cntL R 1 → ∀ x ∈ beginL R Ls Zs, x.st.kind = 1 → x.list.length = n := by
  intro R
  induction R with
  | nil => intro Ls Zs n _ _ x hx; simp [beginL] at hx
  | cons s R ih =>
    intro Ls Zs n h1 h2 x hx hk
    have hc : cntL (s :: R) 1 = (if s.kind = 1 then 1 else 0) + cntL R 1 := by
      unfold cntL
      by_cases h : s.kind = 1
      · rw [List.filter_cons, if_pos (by simpa using h), if_pos h]; simp; omega
      · rw [List.filter_cons, if_neg (by simpa using h), if_neg h]; simp
    rw [hc] at h2
    rcases List.mem_cons.1 hx with rfl | hx
    · have hk : s.kind = 1 := hk
      rw [if_pos hk] at h2
      show (if s.kind = 1 then Ls.headD [] else []).length = n
      rw [if_pos hk]
      cases Ls with
      | nil => simp at h2; omega
      | cons L Ls => exact h1 L (by simp)
    · refine ih (Ls := if s.kind = 1 then Ls.drop 1 else Ls) (fun L hL => ?_) ?_ x hx hk
      · split at hL
        · exact h1 L (List.mem_of_mem_drop hL)
        · exact h1 L hL
      · by_cases h : s.kind = 1
        · rw [if_pos h] at h2 ⊢; rw [List.length_drop]; omega
        · rw [if_neg h] at h2 ⊢; omega
theorem begin_size : ∀ {R : List St} {Ls : List (List Int)}, ∀ x ∈ beginL R Ls [], x.size = 4096 := by
  intro R
  induction R with
  | nil => intro Ls x hx; simp [beginL] at hx
  | cons s R ih =>
    intro Ls x hx
    rcases List.mem_cons.1 hx with rfl | hx
    · show (if s.kind = 12 then ([] : List Int).headD 4096 else 4096) = 4096
      split <;> rfl
    · have : (if s.kind = 12 then ([] : List Int).drop 1 else []) = [] := by split <;> rfl
      rw [this] at hx
      exact ih x hx
theorem gLs_each {key : Int} {n c : Nat} : ∀ L ∈ gLs key n c, L.length = n := fun L hL => by
  obtain ⟨m, _, rfl⟩ := List.mem_map.1 hL
  exact gRow_len key n m
theorem dif_le (f g : Nat → Bool) (n : Nat) : dif f g n ≤ n := by
  unfold dif
  have := ones_le f n
  omega
/-- At which tick a number is wanting, if each input has n. -/
def WantAt (R : List St) (n t : Nat) : Prop := ∃ s ∈ R, s.kind = 1 ∧ ckS s t = true ∧ n ≤ ones (ckS s) t
theorem run_nil {R : List St} (hg : Good R) {X : List Nat} (ho : OrdOk R X) {Ls : List (List Int)} {n ticks : Nat} (h1 : ∀ L ∈ Ls, L.length = n) (h2 : Ls.length = cntL R 1) (ht : ticks ≤ 4096) {en tk : Nat} {us : List Tk} (hr : runL X ticks 0 (beginL R Ls []) = (en, tk, us)) :
    us = simL X (beginL R Ls []) tk ∧ tk ≤ ticks ∧ (∀ j, j < tk → ¬ WantAt R n j) ∧ ((en = 1 ∧ tk = ticks) ∨ (en = 2 ∧ tk < ticks ∧ WantAt R n tk)) := by
  have hat := begin_at R Ls []
  have hm0 : ∀ x ∈ beginL R Ls [], x.most = 0 := fun x hx => (beginL_mem hx).2
  obtain ⟨e, m, c1, c2, c3, c4, c5⟩ := run_char X (beginL R Ls []) ticks 0
  have c1' : runL X ticks 0 (beginL R Ls []) = (e, m, simL X (beginL R Ls []) m) := c1
  rw [hr] at c1'
  injection c1' with q1 q2
  injection q2 with q2 q3
  subst q1; subst q2
  rw [Nat.zero_add] at c3 c5
  have hW : ∀ t, wantsL (simL X (beginL R Ls []) t) t = true ↔ WantAt R n t := fun t => by
    rw [sim_wants hg ho hat hm0 t]
    constructor
    · rintro ⟨x, hx, a, b, c⟩
      rw [begin_len h1 h2 x hx a] at c
      exact ⟨x.st, hat.mem hx, a, b, c⟩
    · rintro ⟨s, hs, a, b, c⟩
      rw [← beginL_st R Ls []] at hs
      obtain ⟨x, hx, rfl⟩ := List.mem_map.1 hs
      exact ⟨x, hx, a, b, by rw [begin_len h1 h2 x hx a]; exact c⟩
  have hO : ∀ t, t < ticks → overL (simL X (beginL R Ls []) t) t = false := fun t hlt => by
    cases ho' : overL (simL X (beginL R Ls []) t) t with
    | false => rfl
    | true =>
      exfalso
      obtain ⟨x, hx, _, b⟩ := (sim_over hg ho hat hm0 (fun x hx _ => by rw [begin_size x hx]; decide) t).1 ho'
      rw [begin_size x hx] at b
      have := dif_le (bitAt (ucL R x.st 0).1 (ucL R x.st 0).2) (ckS x.st) (t + 1)
      omega
  refine ⟨q3, c3, fun j hj hw => ?_, ?_⟩
  · have := (c4 j (Nat.zero_le _) hj).1
    rw [(hW j).2 hw] at this; cases this
  · rcases c5 with ⟨a, b⟩ | ⟨a, b, c⟩ | ⟨a, b, c, d⟩
    · exact .inl ⟨a, b⟩
    · exact .inr ⟨a, b, (hW _).1 c⟩
    · rw [hO _ b] at d; cases d
theorem ones_bound {f : Nat → Bool} {n : Nat} : ∀ {T : Nat}, (∀ j, j < T → ¬ (f j = true ∧ n ≤ ones f j)) → ones f T ≤ n := by
  intro T
  induction T with
  | zero => intro _; exact Nat.zero_le _
  | succ T ih =>
    intro h
    have h1 := ih fun j hj => h j (by omega)
    have h2 := h T (by omega)
    rw [ones]
    cases hf : f T with
    | false => simpa using h1
    | true =>
      have : ¬ n ≤ ones f T := fun e => h2 ⟨hf, e⟩
      simp
      omega
end Go.Proofs.Ytfbkjopidjojeab

