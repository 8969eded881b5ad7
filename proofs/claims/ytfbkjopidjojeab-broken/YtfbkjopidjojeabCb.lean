/-
  Walks over package source: cut, filled.
-/
import Derived.Test.YtfbkjopidjojeabCa
namespace Go.Proofs.Ytfbkjopidjojeab
open Go.RowKit

theorem Try.info9 : (Try.prog.info? 9).map (fun i => (i.zero, i.size, i.bytes)) = some (some (.string ⟨#[]⟩), 1, 16) := by kernel_rfl
theorem Try.under43 : Try.prog.underlying 43 = some (.slice 9) := by kernel_rfl

/-- Texts as cells. -/
def strs (L : List (List UInt8)) : List Value := L.map fun p => .string (S p)
theorem strs_length (L : List (List UInt8)) : (strs L).length = L.length := by simp [strs]

/-- A list of texts of its own. -/
def Strs (B : Nat) (L : List (List UInt8)) (e : Ending) (w' : World) : Prop := ∃ v, e = .returned v ∧ w'.ownsRow B 9 1 v L.length (strs L)

/-- A row that can be read: cells from an address on. -/
def Row (w : World) (b off : Nat) (xs : List Value) : Prop := b < w.heap.size ∧ ∀ i, i < xs.length → w.cell? ⟨b, off + i, none⟩ = xs[i]?
theorem Row.below {w w' : World} {B b off : Nat} {xs : List Value} (h : Row w b off xs) (hB : Below B w w') (hb : b < B) : Row w' b off xs :=
  ⟨Nat.lt_of_lt_of_le h.1 hB.size, fun i hi => by rw [hB.cell (p := ⟨b, off + i, none⟩) hb]; exact h.2 i hi⟩
theorem Row.drop {w : World} {b off : Nat} {xs : List Value} (h : Row w b off xs) (k : Nat) (hk : k ≤ xs.length) : Row w b (off + k) (xs.drop k) :=
  ⟨h.1, fun i hi => by rw [Nat.add_assoc, List.getElem?_drop]; exact h.2 (k + i) (by rw [List.length_drop] at hi; omega)⟩
theorem Row.take {w : World} {b off : Nat} {xs : List Value} (h : Row w b off xs) (k : Nat) : Row w b off (xs.take k) :=
  ⟨h.1, fun i hi => by
    rw [List.length_take] at hi
    rw [List.getElem?_take, if_pos (by omega)]; exact h.2 i (by omega)⟩

/-- A slice that can be read. -/
def Reads (w : World) (v : Value) (size n : Nat) (xs : List Value) : Prop := xs.length = n * size ∧ ∃ p cap, v = .slice p n cap ∧ n ≤ cap ∧ (n = 0 ∨ ∃ b off, p = some ⟨b, off, none⟩ ∧ Row w b off xs)
theorem Reads.of {w : World} {B : Nat} {e : TypeId} {size : Nat} {v : Value} {n : Nat} {xs : List Value} (h : w.ownsRow B e size v n xs) : Reads w v size n xs := by
  obtain ⟨h1, h2⟩ := h
  refine ⟨h1, ?_⟩
  rcases h2 with ⟨rfl, rfl⟩ | ⟨g, cap, cur, rfl, hg, hh, hc, hm, hs, ht⟩
  · exact ⟨none, 0, rfl, Nat.le_refl _, .inl rfl⟩
  · refine ⟨some ⟨g, 0, none⟩, cap, rfl, hc, .inr ⟨g, 0, rfl, ?_, fun i hi => ?_⟩⟩
    · exact (Array.getElem?_eq_some_iff.1 hh).1
    · have := World.ownsRow.cellAt (w := w) (base := B) (e := e) (size := size) (g := g) (n := n) (cap := cap) (xs := xs) ⟨h1, .inr ⟨g, cap, cur, rfl, hg, hh, hc, hm, hs, ht⟩⟩ i (by omega)
      rw [Nat.zero_add]; exact this

/-- The list with something ahead of its first. -/
def pre (x : List UInt8) : List (List UInt8) → List (List UInt8)
  | [] => [x]
  | h :: t => (x ++ h) :: t
theorem pre_pre (x y : List UInt8) (L : List (List UInt8)) : pre x (pre y L) = pre (x ++ y) L := by cases L <;> simp [pre]
theorem pre_nil {L : List (List UInt8)} (h : L ≠ []) : pre [] L = L := by cases L <;> simp_all [pre]
theorem cutL_ne (m : UInt8) (l : List UInt8) : cutL m l ≠ [] := by
  cases l with
  | nil => simp [cutL]
  | cons c r => unfold cutL; split; simp; split <;> simp
/-- How far cut has come. -/
def CutAt (m : UInt8) (l : List UInt8) (P : List (List UInt8)) (b n : Nat) : Prop := b ≤ n ∧ n ≤ l.length ∧ cutL m l = P ++ pre ((l.drop b).take (n - b)) (cutL m (l.drop n))
theorem CutAt.start (m : UInt8) (l : List UInt8) : CutAt m l [] 0 0 := ⟨Nat.le_refl _, Nat.zero_le _, by simp [pre_nil (cutL_ne m l)]⟩
theorem CutAt.hit {m : UInt8} {l : List UInt8} {P : List (List UInt8)} {b n : Nat} (h : CutAt m l P b n) (hn : n < l.length) (hm : l[n] = m) : CutAt m l (P ++ [(l.drop b).take (n - b)]) (n + 1) (n + 1) := by
  obtain ⟨h1, h2, h3⟩ := h
  refine ⟨Nat.le_refl _, hn, ?_⟩
  rw [h3, List.drop_eq_getElem_cons hn, cutL, if_pos (by simp [hm]), Nat.sub_self, List.take_zero, pre_nil (cutL_ne m _)]
  simp [pre]
theorem CutAt.miss {m : UInt8} {l : List UInt8} {P : List (List UInt8)} {b n : Nat} (h : CutAt m l P b n) (hn : n < l.length) (hm : l[n] ≠ m) : CutAt m l P b (n + 1) := by
  obtain ⟨h1, h2, h3⟩ := h
  refine ⟨by omega, hn, ?_⟩
  have e1 : cutL m (l.drop n) = pre [l[n]] (cutL m (l.drop (n + 1))) := by
    rw [List.drop_eq_getElem_cons hn, cutL, if_neg (by simp [hm])]
    cases cutL m (l.drop (n + 1)) <;> simp [pre]
  have e2 : (l.drop b).take (n + 1 - b) = (l.drop b).take (n - b) ++ [l[n]] := by
    have : n + 1 - b = n - b + 1 := by omega
    rw [this, List.take_add_one]
    have : (l.drop b)[n - b]? = some l[n] := by rw [List.getElem?_drop]; simp [show b + (n - b) = n by omega, hn]
    rw [this]; rfl
  rw [h3, e1, pre_pre, e2]
theorem CutAt.fin {m : UInt8} {l : List UInt8} {P : List (List UInt8)} {b n : Nat} (h : CutAt m l P b n) (hn : n = l.length) : cutL m l = P ++ [(l.drop b).take (l.length - b)] := by
  obtain ⟨h1, h2, h3⟩ := h
  subst hn
  rw [h3]; simp [cutL, pre]

theorem own_start_str (W : World) (B b : Nat) (h : W.heap.size = b) (hB : B ≤ b) : (W.alloc (.cells #[] 9)).ownsRow B 9 1 (.slice (some ⟨b, 0, none⟩) 0 0) 0 [] := by
  subst h
  exact World.ownsRow_made W #[] 0 hB (by unfold maxLen; omega) rfl

theorem rel_str {wr w' w : World} {B k : Nat} {r v' : Value} {L : List (List UInt8)} {x : List UInt8} {o : Obj} (hB : B ≤ wr.heap.size) (hown : wr.ownsRow B 9 1 r k (strs L)) (hnx : Below B w wr)
    (hown' : w'.ownsRow B 9 1 v' (k + 1) (strs L ++ [.string (S x)])) (hg : (wr.alloc o).grownBy w' r.ownBlock) :
    w'.ownsRow B 9 1 v' (k + 1) (strs (L ++ [x])) ∧ Below B w w' := by
  refine ⟨by simpa [strs] using hown', ?_⟩
  exact (hnx.alloc hB o).grown hg (by simp; omega) (fun j hj => (hown.lt j hj).1)

set_option maxRecDepth 50000 in
set_option maxHeartbeats 1000000 in
theorem cut_any (s : ByteArray) (m : Nat) (mu : UInt8) (w : World) (hs : s.size ≤ 1048576) (hm : mu.toNat = m) :
    Calls Try.prog 38 #[.string s, .int .u8 m] w fun e w' => Strs w.heap.size (cutL mu s.data.toList) e w' ∧ Below w.heap.size w w' := by
  obtain ⟨i0, hi, hz0, hz1, hz2⟩ := info_parts Try.info9
  have hl : s.data.toList.length = s.size := by simp
  go_enter Try.func38, Try.ntmps38
  go_wp2
  go_loopw [5, 6, 7] (fun r b i wr => ∃ (P : List (List UInt8)) (bn k : Nat), b = .int .i64 bn ∧ i = .int .i64 k ∧ P.length ≤ k ∧ CutAt mu s.data.toList P bn k ∧ wr.ownsRow w.heap.size 9 1 r P.length (strs P) ∧ Below w.heap.size w wr)
    (fun _ _ i _ => s.size - (intOf i).toNat)
  case atStart => exact ⟨[], 0, 0, rfl, rfl, Nat.le_refl _, CutAt.start _ _, own_start_str _ _ _ rfl (Nat.le_refl _), (Below.refl _ _).alloc (Nat.le_refl _) _⟩
  case round =>
    obtain ⟨P, b, k, rfl, rfl, hP, hc, hown, hnx⟩ := hrel
    have hsz := hnx.size
    have hb := hc.1
    have hk : k ≤ s.size := by rw [← hl]; exact hc.2.1
    have HC : Hid (CutAt mu s.data.toList P b k) := hc
    clear hc
    by_cases hlt : k < s.size
    · have hx := S_ext s b k
      by_cases hq : (s[k].toNat : Int) = (m : Int)
      · go_wp2_with (at_builtin; refine wpList_append_own _ rfl _ _ 43 rfl w.heap.size 9 i0 (.string ⟨#[]⟩) 1 16 Try.under43 hi hz0 hz1 hz2 rfl (by decide) _ _ _ rfl (hown.alloc _) ⟨wr.heap.size, 0, none⟩ 1 1 [.string (S ((s.data.toList.drop b).take (k - b)))] rfl rfl (cell_one_new _ _ _) (by intro x hx; simp at hx; subst hx; rfl) (by unfold maxLen; omega) (by omega) (by simp; omega) ?_; intro v' w' hown' hgrow _)
        have R := rel_str hsz hown hnx hown' hgrow
        clear hown' hgrow hown hnx
        go_wp2
        go_roundw
        case rel => exact ⟨_, k + 1, k + 1, by go_num, by go_num, by simp; omega, HC.out.hit (by omega) (by rw [get_toList _ _ hlt]; apply UInt8.toNat_inj.1; omega), by simpa using R.1, R.2⟩
        case measure => simp [intOf]; omega
      · go_wp2
        go_roundw
        case rel => exact ⟨P, b, k + 1, rfl, by go_num, by omega, HC.out.miss (by omega) (by rw [get_toList _ _ hlt]; intro e; apply hq; rw [e, hm]), hown, hnx⟩
        case measure => simp [intOf]; omega
    · have hk : k = s.size := by omega
      have hx := S_ext s b s.size
      go_wp2_with (at_builtin; refine wpList_append_own _ rfl _ _ 43 rfl w.heap.size 9 i0 (.string ⟨#[]⟩) 1 16 Try.under43 hi hz0 hz1 hz2 rfl (by decide) _ _ _ rfl (hown.alloc _) ⟨wr.heap.size, 0, none⟩ 1 1 [.string (S ((s.data.toList.drop b).take (s.size - b)))] rfl rfl (cell_one_new _ _ _) (by intro x hx; simp at hx; subst hx; rfl) (by unfold maxLen; omega) (by omega) (by simp; omega) ?_; intro v' w' hown' hgrow _)
      have R := rel_str hsz hown hnx hown' hgrow
      clear hown' hgrow hown hnx
      go_wp2
      go_ret
      have e := HC.out.fin (by omega)
      rw [hl] at e
      exact ⟨⟨_, rfl, by rw [e]; simpa using R.1⟩, R.2⟩

theorem filL_snoc {l : List UInt8} (h : l.isEmpty = false) (P : List (List UInt8)) : filL (P ++ [l]) = filL P ++ [l] := by simp [filL, h]
theorem filL_skip {l : List UInt8} (h : l.isEmpty = true) (P : List (List UInt8)) : filL (P ++ [l]) = filL P := by simp [filL, h]
theorem take_one {α : Type} {L : List α} {k : Nat} (h : k < L.length) : L.take (k + 1) = L.take k ++ [L[k]] := by
  rw [List.take_add_one]; simp [h]
theorem strs_get {L : List (List UInt8)} {k : Nat} (h : k < L.length) : (strs L)[k]? = some (.string (S L[k])) := by simp [strs, h]

set_option maxRecDepth 50000 in
set_option maxHeartbeats 1000000 in
theorem filled_any (L : List (List UInt8)) (v : Value) (w : World) (hL : L.length ≤ 1048576) (hv : Reads w v 1 L.length (strs L)) :
    Calls Try.prog 39 #[v] w fun e w' => Strs w.heap.size (filL L) e w' ∧ Below w.heap.size w w' := by
  obtain ⟨i0, hi, hz0, hz1, hz2⟩ := info_parts Try.info9
  obtain ⟨_, p, cap, rfl, hcap, hrow⟩ := hv
  go_enter Try.func39, Try.ntmps39
  go_wp2
  go_loopw [3, 4] (fun r i wr => ∃ (k : Nat), i = .int .i64 k ∧ k ≤ L.length ∧ (filL (L.take k)).length ≤ k ∧ wr.ownsRow w.heap.size 9 1 r (filL (L.take k)).length (strs (filL (L.take k))) ∧ Below w.heap.size w wr)
    (fun _ i _ => L.length - (intOf i).toNat)
  case atStart => exact ⟨0, rfl, Nat.zero_le _, Nat.le_refl _, own_start_str _ _ _ rfl (Nat.le_refl _), (Below.refl _ _).alloc (Nat.le_refl _) _⟩
  case round =>
    obtain ⟨k, rfl, hk, hfk, hown, hnx⟩ := hrel
    have hsz := hnx.size
    by_cases hlt : k < L.length
    · obtain ⟨b, off, rfl, hr⟩ : ∃ b off, p = some ⟨b, off, none⟩ ∧ Row w b off (strs L) := by
        rcases hrow with h | h
        · omega
        · exact h
      have hc : wr.cell? ⟨b, off + k, none⟩ = some (.string (S L[k])) := by
        rw [(hr.below hnx hr.1).2 k (by rw [strs_length]; exact hlt), strs_get hlt]
      have hc2 : ∀ o, (wr.alloc o).cell? ⟨b, off + k, none⟩ = some (.string (S L[k])) := fun o => by
        rw [((Below.refl wr.heap.size wr).alloc (Nat.le_refl _) o).cell (p := ⟨b, off + k, none⟩) (by have := hr.1; show b < _; omega)]; exact hc
      have ht := take_one hlt
      by_cases hq : (L[k]).isEmpty = true
      · have hq2 : (S L[k]).toList.isEmpty = true := by rw [ByteArray.toList_eq, S_data]; exact hq
        have e := filL_skip hq (L.take k)
        rw [← ht] at e
        have HE : Hid (filL (L.take (k + 1)) = filL (L.take k)) := e
        clear e ht hrow
        go_wp2
        go_roundw
        case rel => exact ⟨k + 1, by go_num, by omega, by rw [HE.out]; omega, by rw [HE.out]; exact hown, hnx⟩
        case measure => simp [intOf]; omega
      · have hq1 : (L[k]).isEmpty = false := by simpa using hq
        have hq2 : (S L[k]).toList.isEmpty = false := by rw [ByteArray.toList_eq, S_data]; exact hq1
        have e := filL_snoc hq1 (L.take k)
        rw [← ht] at e
        have HE : Hid (filL (L.take (k + 1)) = filL (L.take k) ++ [L[k]]) := e
        clear e ht hrow hq hq1
        go_wp2_with (at_builtin; refine wpList_append_own _ rfl _ _ 43 rfl w.heap.size 9 i0 (.string ⟨#[]⟩) 1 16 Try.under43 hi hz0 hz1 hz2 rfl (by decide) _ _ _ rfl (hown.alloc _) ⟨wr.heap.size, 0, none⟩ 1 1 [.string (S L[k])] rfl rfl (cell_one_new _ _ _) (by intro x hx; simp at hx; subst hx; rfl) (by unfold maxLen; omega) (by omega) (by simp; omega) ?_; intro v' w' hown' hgrow _)
        have R := rel_str hsz hown hnx hown' hgrow
        clear hown' hgrow hown hnx
        go_wp2
        go_roundw
        case rel => exact ⟨k + 1, by go_num, by omega, by rw [HE.out]; simp; omega, by rw [HE.out]; simpa using R.1, R.2⟩
        case measure => simp [intOf]; omega
    · have hke : k = L.length := by omega
      subst hke
      go_wp2
      go_ret
      rw [List.take_length] at hown
      exact ⟨⟨_, rfl, hown⟩, hnx⟩
end Go.Proofs.Ytfbkjopidjojeab
