/-
  Texts of words: what the laws of package streamskeep need.
-/
import Derived.Test.YtfbkjopidjojeaaWm
namespace Go.Proofs.Ytfbkjopidjojeaa
open Go.RowKit

theorem txt_toList (u v : List Bool) : (txt (bs u) (bs v)).data.toList = txtL u v := by
  unfold txt
  simp only [ByteArray.data_append, Array.toList_append, bs_toList]
  simp [txtL]
theorem txt_size (u v : List Bool) : (txt (bs u) (bs v)).size = u.length + v.length + 2 := by
  have : (txt (bs u) (bs v)).data.toList.length = u.length + v.length + 2 := by rw [txt_toList, txtL_length]
  simpa using this
theorem okW_word {u v : List Bool} (hu : u.length ≤ 12) (hv : v.length ≤ 12) (hv0 : v ≠ []) : okW (txt (bs u) (bs v)).data.toList = true := by
  rw [txt_toList]; exact okW_txt u v hu hv hv0
theorem st_word (u v : List Bool) : st (txt (bs u) (bs v)) = bitAt u v := by
  unfold st; rw [txt_toList, pU_txt, pV_txt, toB_map, toB_map]
theorem txt_inj {u v x y : List Bool} (h : txt (bs u) (bs v) = txt (bs x) (bs y)) : u = x ∧ v = y := by
  have e : txtL u v = txtL x y := by rw [← txt_toList, ← txt_toList, h]
  have e1 := congrArg pU e
  have e2 := congrArg pV e
  rw [pU_txt, pU_txt] at e1
  rw [pV_txt, pV_txt] at e2
  exact ⟨(List.map_inj_right (fun _ _ h => bb_inj h)).1 e1, (List.map_inj_right (fun _ _ h => bb_inj h)).1 e2⟩
theorem toldS_short {u v : List Bool} (hu : u.length ≤ 64) (hv : v.length ≤ 64) : toldS u v = txt (bs u) (bs v) ∧ toldE u v = 0 := by
  unfold toldS toldE; rw [if_neg (by omega), if_neg (by omega)]; exact ⟨rfl, rfl⟩
theorem NF.short {f : Nat → Bool} {u v : List Bool} {m p : Nat} (h : NF f u v) (hE : EP f m p) : u.length ≤ m ∧ v.length ≤ p :=
  ⟨h.pre m (hE.from h.ep), h.per m p hE⟩

/-- A short word comes out as its text. -/
theorem TextIs.short {f : Nat → Bool} {e : Ending} {m p : Nat} (h : TextIs f e) (hE : EP f m p) (hm : m ≤ 64) (hp : p ≤ 64) :
    ∃ u v : List Bool, e = .returned (.tuple #[.string (txt (bs u) (bs v)), .int .i64 0]) ∧ NF f u v ∧ u.length ≤ m ∧ v.length ≤ p := by
  obtain ⟨u, v, rfl, hn⟩ := h
  obtain ⟨h1, h2⟩ := hn.short hE
  obtain ⟨e1, e2⟩ := toldS_short (u := u) (v := v) (by omega) (by omega)
  exact ⟨u, v, by rw [e1, e2], hn, h1, h2⟩

theorem NF_ones : NF (fun _ => true) [] [true] := by
  have : Red [] [true] := ⟨by simp, fun p h1 h2 => by simp at h2; omega, fun k hk => by simp at hk⟩
  exact this.nf.congr fun n => by unfold bitAt; simp [Nat.mod_one]
theorem NF_zeros : NF (fun _ => false) [] [false] := by
  have : Red [] [false] := ⟨by simp, fun p h1 h2 => by simp at h2; omega, fun k hk => by simp at hk⟩
  exact this.nf.congr fun n => by unfold bitAt; simp [Nat.mod_one]
theorem EP_const (b : Bool) : EP (fun _ => b) 0 1 := ⟨by omega, fun _ _ => rfl⟩

/-- The calls on texts of words. -/
theorem normal_word {u v : List Bool} (w : World) (hu : u.length ≤ 12) (hv : v.length ≤ 12) (hv0 : v ≠ []) :
    Calls Try.prog 12 #[.string (txt (bs u) (bs v))] w fun e w' => (∃ x y : List Bool, e = .returned (.tuple #[.string (txt (bs x) (bs y)), .int .i64 0]) ∧ NF (bitAt u v) x y ∧ x.length ≤ u.length ∧ y.length ≤ v.length) ∧ Below w.heap.size w w' := by
  refine (sNormal_yes _ w (by unfold maxLen; rw [txt_size]; omega) (okW_word hu hv hv0)).mono ?_
  rintro e w' ⟨h, hb⟩
  rw [st_word] at h
  exact ⟨h.short (EP_bitAt u v hv0) (by omega) (by omega), hb⟩
theorem not_word {u v : List Bool} (w : World) (hu : u.length ≤ 12) (hv : v.length ≤ 12) (hv0 : v ≠ []) :
    Calls Try.prog 13 #[.string (txt (bs u) (bs v))] w fun e w' => (∃ x y : List Bool, e = .returned (.tuple #[.string (txt (bs x) (bs y)), .int .i64 0]) ∧ NF (fun n => !bitAt u v n) x y ∧ x.length ≤ u.length ∧ y.length ≤ v.length) ∧ Below w.heap.size w w' := by
  refine (sNot_yes _ w (by unfold maxLen; rw [txt_size]; omega) (okW_word hu hv hv0)).mono ?_
  rintro e w' ⟨h, hb⟩
  rw [st_word] at h
  exact ⟨h.short (EP_map (EP_bitAt u v hv0)) (by omega) (by omega), hb⟩
theorem either_word {u v x y : List Bool} (w : World) (hu : u.length ≤ 12) (hv : v.length ≤ 12) (hv0 : v ≠ []) (hx : x.length ≤ 12) (hy : y.length ≤ 12) (hy0 : y ≠ []) :
    Calls Try.prog 14 #[.string (txt (bs u) (bs v)), .string (txt (bs x) (bs y))] w fun e w' => TextIs (fun n => bitAt u v n || bitAt x y n) e ∧ Below w.heap.size w w' := by
  refine (sEither_yes _ _ w (by unfold maxLen; rw [txt_size]; omega) (by unfold maxLen; rw [txt_size]; omega) (okW_word hu hv hv0) (okW_word hx hy hy0)).mono ?_
  rintro e w' ⟨h, hb⟩
  rw [st_word, st_word] at h
  exact ⟨h, hb⟩
theorem on_word {u v x y : List Bool} (w : World) (hu : u.length ≤ 12) (hv : v.length ≤ 12) (hv0 : v ≠ []) (hx : x.length ≤ 12) (hy : y.length ≤ 12) (hy0 : y ≠ []) :
    Calls Try.prog 15 #[.string (txt (bs u) (bs v)), .string (txt (bs x) (bs y))] w fun e w' => TextIs (onS (bitAt u v) (bitAt x y)) e ∧ Below w.heap.size w w' := by
  refine (sOn_yes _ _ w (by unfold maxLen; rw [txt_size]; omega) (by unfold maxLen; rw [txt_size]; omega) (okW_word hu hv hv0) (okW_word hx hy hy0)).mono ?_
  rintro e w' ⟨h, hb⟩
  rw [st_word, st_word] at h
  exact ⟨h, hb⟩
theorem ahead_word {u v x y : List Bool} (w : World) (hu : u.length ≤ 12) (hv : v.length ≤ 12) (hv0 : v ≠ []) (hx : x.length ≤ 12) (hy : y.length ≤ 12) (hy0 : y ≠ []) :
    Calls Try.prog 17 #[.string (txt (bs u) (bs v)), .string (txt (bs x) (bs y))] w fun e w' => (∃ r : Bool, e = .returned (.tuple #[.bool r, .int .i64 0]) ∧ Hid (r = true ↔ AheadS (bitAt u v) (bitAt x y))) ∧ Below w.heap.size w w' := by
  have := sAhead_yes _ _ w (by unfold maxLen; rw [txt_size]; omega) (by unfold maxLen; rw [txt_size]; omega) (okW_word hu hv hv0) (okW_word hx hy hy0)
  rw [st_word, st_word] at this
  exact this
theorem size_word {u v x y : List Bool} (w : World) (hu : u.length ≤ 12) (hv : v.length ≤ 12) (hv0 : v ≠ []) (hx : x.length ≤ 12) (hy : y.length ≤ 12) (hy0 : y ≠ []) :
    Calls Try.prog 18 #[.string (txt (bs u) (bs v)), .string (txt (bs x) (bs y))] w fun e w' => (∃ z k : Int, e = .returned (.tuple #[.int .i64 z, .int .i64 k]) ∧ Hid (SizeOf (bitAt u v) (bitAt x y) z k)) ∧ Below w.heap.size w w' := by
  have := sSize_yes _ _ w (by unfold maxLen; rw [txt_size]; omega) (by unfold maxLen; rw [txt_size]; omega) (okW_word hu hv hv0) (okW_word hx hy hy0)
  rw [st_word, st_word] at this
  exact this
end Go.Proofs.Ytfbkjopidjojeaa
