/-
  Walks over package plan: hangsOnItself, findCause.
-/
import Derived.Test.YtfbkjopidjojeabDl
namespace Go.Proofs.Ytfbkjopidjojeab
open Go.RowKit

/-- Whether a step hangs on itself is told. -/
def HangIs (qs : List St) (k : Nat) (e : Ending) : Prop := ∃ r : Bool, e = .returned (.bool r) ∧ Hid (r = true ↔ Hangs qs k)

set_option maxRecDepth 100000 in
set_option maxRecDepth 50000 in
set_option maxHeartbeats 2000000 in
theorem hangs_any (qs : List (St × Value)) (p : Option Addr) (cap : Nat) (start : Nat) (w : World) (hl : qs.length ≤ 24) (hs : start < qs.length) (hr : RS w p qs) (hwf : Wf (qs.map Prod.fst)) :
    Calls Try.prog 62 #[.slice p qs.length cap, .int .i64 start] w fun e w' => HangIs (qs.map Prod.fst) start e ∧ Below w.heap.size w w' := by
  obtain ⟨i0, hi, hz0, hz1, hz2⟩ := info_parts Try.info4
  obtain ⟨j0, hjI, hyI0, hyI1, hyI2⟩ := info_parts Try.info3
  obtain ⟨n, hn⟩ : ∃ n, qs.length = n := ⟨_, rfl⟩
  have HN : Hid (qs.length = n) := hn
  rw [hn] at hl hs ⊢
  obtain ⟨b, rfl, hb, hc⟩ : ∃ b, p = some ⟨b, 0, none⟩ ∧ b < w.heap.size ∧ ∀ k (h : k < qs.length) j, j < 9 → w.cell? ⟨b, k * 9 + j, none⟩ = (stCells qs[k].1 qs[k].2)[j]? := by
    rcases hr.1 with h | h
    · rw [h] at hn; simp at hn; omega
    · exact h
  have HC : Hid (∀ k (h : k < qs.length) j, j < 9 → w.cell? ⟨b, k * 9 + j, none⟩ = (stCells qs[k].1 qs[k].2)[j]?) := hc
  have hmap : (qs.map Prod.fst).length = n := by rw [List.length_map, hn]
  have HM : Hid ((qs.map Prod.fst).length = n) := hmap
  clear hc hn hmap
  go_enter Try.func62, Try.ntmps62
  go_wp2_with (at_make; refine wpList_make_full _ rfl _ _ 115 rfl w.heap.size 4 i0 (.bool false) 1 Try.under115 hi hz0 hz1 .i64 .i64 _ _ n rfl rfl rfl rfl (by rw [hz2]; omega) (by unfold maxLen; omega) (Nat.le_refl _) ?_; intro w1 hown1 hgrow1)
  have hb1 : Below w.heap.size w w1 := (Below.refl _ _).grown hgrow1 (Nat.le_refl _) (fun k hk => by cases hk)
  have hmem : HMem w n (w1.alloc (Obj.cells #[.int .i64 start] 3)) (.slice (some ⟨w1.heap.size, 0, none⟩) 1 1) (List.replicate n false) [start] := by
    refine ⟨?_, ?_, hb1.alloc hb1.size _⟩
    · have e : bools (List.replicate n false) = (madeCells (Value.bool false).cells (n * 1)).toList := by
        rw [Nat.mul_one]
        show _ = (madeCells #[Value.bool false] n).toList
        rw [toList_madeCells_one]; simp [bools]
      rw [e]; exact hown1.alloc _
    · exact World.ownsRow_lit w1 #[.int .i64 start] 1 hb1.size (by unfold maxLen; omega) rfl
  have hinv : HInv (qs.map Prod.fst) start n (List.replicate n false) [start] := by
    refine ⟨by simp, rfl, fun x hx => by rw [List.mem_singleton.1 hx]; exact hs, fun x hx => by simp at hx, fun y hy => ?_, by simp [List.count_replicate]⟩
    rw [List.getElem?_replicate] at hy
    split at hy <;> simp at hy
  have HMEM : Hid _ := hmem
  have HINV : Hid _ := hinv
  clear hmem hinv hown1 hgrow1
  go_wp2
  go_loopw [6, 7] (fun r i wr => ∃ (k : Nat) (M : List Bool) (X : List Nat), i = .int .i64 k ∧ k ≤ X.length ∧ Hid (HInv (qs.map Prod.fst) start n M X) ∧ Hid (Done (qs.map Prod.fst) start M X k) ∧ Hid (HMem w n wr r M X)) (fun _ i _ => n + 1 - (intOf i).toNat)
  case atStart => exact ⟨0, _, _, rfl, Nat.zero_le _, HINV, fun j h hj => by omega, HMEM⟩
  case round =>
    clear HINV HMEM
    obtain ⟨k, M, X, rfl, hk, HI, HD, HMe⟩ := hrel
    have hXb := HI.out.bound
    obtain ⟨g, gc, hge⟩ := own_form HMe.out.walk (by have := HI.out.cnt; omega)
    subst hge
    by_cases hlt : k < X.length
    · obtain ⟨x, hx⟩ : ∃ x, X[k] = x := ⟨_, rfl⟩
      have hxn : x < n := by rw [← hx]; exact HI.out.lt _ (List.getElem_mem _)
      have hxq : x < qs.length := by rw [HN.out]; exact hxn
      have cw : wr.cell? ⟨g, k, none⟩ = some (.int .i64 (x : Int)) := by rw [HMe.out.walk.cellAt k (by omega), ints_get hlt, hx]
      obtain ⟨⟨s, u⟩, hq⟩ : ∃ q, qs[x] = q := ⟨_, rfl⟩
      have hmemq : (s, u) ∈ qs := by rw [← hq]; exact List.getElem_mem _
      have hget : (qs.map Prod.fst)[x]? = some s := by simp [hxq, hq]
      have hbel := HMe.out.bel
      have c0 : wr.cell? ⟨b, x * 9 + 0, none⟩ = (stCells s u)[0]? := by rw [hbel.cell (p := ⟨b, x * 9 + 0, none⟩) hb, HC.out x hxq 0 (by omega), hq]
      have c1 : wr.cell? ⟨b, x * 9 + 1, none⟩ = (stCells s u)[1]? := by rw [hbel.cell (p := ⟨b, x * 9 + 1, none⟩) hb, HC.out x hxq 1 (by omega), hq]
      have c2 : wr.cell? ⟨b, x * 9 + 2, none⟩ = (stCells s u)[2]? := by rw [hbel.cell (p := ⟨b, x * 9 + 2, none⟩) hb, HC.out x hxq 2 (by omega), hq]
      have c3 : wr.cell? ⟨b, x * 9 + 3, none⟩ = (stCells s u)[3]? := by rw [hbel.cell (p := ⟨b, x * 9 + 3, none⟩) hb, HC.out x hxq 3 (by omega), hq]
      have c4 : wr.cell? ⟨b, x * 9 + 4, none⟩ = (stCells s u)[4]? := by rw [hbel.cell (p := ⟨b, x * 9 + 4, none⟩) hb, HC.out x hxq 4 (by omega), hq]
      have c5 : wr.cell? ⟨b, x * 9 + 5, none⟩ = (stCells s u)[5]? := by rw [hbel.cell (p := ⟨b, x * 9 + 5, none⟩) hb, HC.out x hxq 5 (by omega), hq]
      have c6 : wr.cell? ⟨b, x * 9 + 6, none⟩ = (stCells s u)[6]? := by rw [hbel.cell (p := ⟨b, x * 9 + 6, none⟩) hb, HC.out x hxq 6 (by omega), hq]
      have c7 : wr.cell? ⟨b, x * 9 + 7, none⟩ = (stCells s u)[7]? := by rw [hbel.cell (p := ⟨b, x * 9 + 7, none⟩) hb, HC.out x hxq 7 (by omega), hq]
      have c8 : wr.cell? ⟨b, x * 9 + 8, none⟩ = (stCells s u)[8]? := by rw [hbel.cell (p := ⟨b, x * 9 + 8, none⟩) hb, HC.out x hxq 8 (by omega), hq]
      simp only [stCells, List.getElem?_cons_zero, List.getElem?_cons_succ, Nat.add_zero] at c0 c1 c2 c3 c4 c5 c6 c7 c8
      have hrd0 := hr.2 (s, u) hmemq
      have hrd := hrd0
      obtain ⟨_, up, uc, hue, _, hurow⟩ := hrd
      simp only at hue
      subst hue
      have hws := hwf s (List.mem_of_getElem? hget)
      have hul := hws.len
      have hsz := hbel.size
      have HGet : Hid ((qs.map Prod.fst)[x]? = some s) := hget
      have HX : Hid (X[k] = x) := hx
      clear hget hx hrd0
      by_cases h9 : s.kind = 9
      · have hk9 : (s.kind : Int) = 9 := by omega
        have HD2 : Hid (Done (qs.map Prod.fst) start M X (k + 1)) := fun j h hj y he => by
          rcases Nat.lt_or_ge j k with q | q
          · exact HD.out j h q y he
          · have hjk : j = k := by omega
            subst hjk
            obtain ⟨s', h1, h2, _⟩ := he
            rw [HX.out, HGet.out] at h1
            injection h1 with h1
            subst h1
            exact absurd h9 h2
        have HMe2 := HMe.out.alloc
        clear h9
        go_wp2
        go_roundw
        case rel => exact ⟨k + 1, M, X, by go_num, by omega, HI, HD2, HMe2 _⟩
        case measure => simp [intOf]; omega
      · have hk9 : ¬ (s.kind : Int) = 9 := by omega
        obtain ⟨W1, hW1⟩ : ∃ W1, W1 = wr.alloc (Obj.cells #[.int .i64 s.no, .int .i64 s.kind, .string (S s.name), .slice up s.uses.length uc, .int .i64 s.num, .string (bs s.wd.1), .string (bs s.wd.2), .string (bs s.ck.1), .string (bs s.ck.2)] 76) := ⟨_, rfl⟩
        have HS1 : Hid (StB W1 wr.heap.size s (.slice up s.uses.length uc)) := by show StB _ _ _ _; unfold StB; rw [hW1, heap_alloc_new]; rfl
        have HMe2 : Hid (HMem w n W1 (.slice (some ⟨g, 0, none⟩) X.length gc) M X) := by show HMem _ _ _ _ _ _; rw [hW1]; exact HMe.out.alloc _
        have HD1 : Hid (Done (qs.map Prod.fst) start M X k ∧ (∀ i y, i < 0 → s.uses[i]? = some y → y ≠ start ∧ M[y]? = some true) ∧ X[k]? = some x) := ⟨HD.out, fun i y h => by omega, by rw [List.getElem?_eq_getElem hlt, HX.out]⟩
        have H9 : Hid (s.kind ≠ 9) := h9
        have hmm := HMe.out
        clear h9 HD HMe HX
        go_wp2
        rw [← hW1]
        obtain ⟨bx, hbx⟩ : ∃ bx, bx = wr.heap.size := ⟨_, rfl⟩
        rw [← hbx] at HS1 ⊢
        have hbxw : w.heap.size ≤ bx := by omega
        clear hW1 hbx c0 c1 c2 c3 c4 c5 c6 c7 c8 cw hmm hbel hsz
        rename World => W0
        go_loopw [6, 9] (fun r i wr => ∃ (j : Nat) (M' : List Bool) (X' : List Nat), i = .int .i64 j ∧ j ≤ s.uses.length ∧ Hid (HInv (qs.map Prod.fst) start n M' X') ∧ Hid (HMem w n wr r M' X') ∧ Hid (StB wr bx s (.slice up s.uses.length uc)) ∧ Hid (Done (qs.map Prod.fst) start M' X' k ∧ (∀ i y, i < j → s.uses[i]? = some y → y ≠ start ∧ M'[y]? = some true) ∧ X'[k]? = some x)) (fun _ i _ => s.uses.length - (intOf i).toNat)
        case atStart => exact ⟨0, M, X, rfl, Nat.zero_le _, HI, HMe2, HS1, HD1⟩
        case round =>
          clear HMe2 HS1 HD1 HI
          obtain ⟨j, M', X', rfl, hj, HI, HMe, HS, HD⟩ := hrel
          have b3 : wr.cell? ⟨bx, 3, none⟩ = some (.slice up s.uses.length uc) := HS.out.c 3
          by_cases hjl : j < s.uses.length
          · obtain ⟨ub, uo, rfl, hrw⟩ : ∃ b off, up = some ⟨b, off, none⟩ ∧ Row w b off (ints s.uses) := by
              rcases hurow with h | h
              · omega
              · exact h
            obtain ⟨y, hy⟩ : ∃ y, s.uses[j] = y := ⟨_, rfl⟩
            have hyn : y < n := by rw [← hy, ← HM.out]; exact hws.use _ (List.getElem_mem _)
            have cu : wr.cell? ⟨ub, uo + j, none⟩ = some (.int .i64 (y : Int)) := by
              rw [(hrw.below HMe.out.bel hrw.1).2 j (by rw [ints_length]; exact hjl), ints_get hjl, hy]
            have HE : Hid (Edge (qs.map Prod.fst) x y) := ⟨s, HGet.out, H9.out, by rw [← hy]; exact List.getElem_mem _⟩
            have hkX : k < X'.length := by
              rcases Nat.lt_or_ge k X'.length with q | q
              · exact q
              · have := HD.out.2.2; rw [List.getElem?_eq_none q] at this; cases this
            have HR : Hid (Reach (qs.map Prod.fst) start y) := HI.out.from hkX (by
              have := HD.out.2.2
              rw [List.getElem?_eq_getElem hkX] at this
              injection this with this
              rw [this]; exact HE.out)
            have HY : Hid (s.uses[j]? = some y) := by show _ = _; rw [List.getElem?_eq_getElem hjl, hy]
            clear hy hurow
            by_cases hst : y = start
            · have hst2 : (y : Int) = (start : Int) := by omega
              have HH : Hid (Hangs (qs.map Prod.fst) start) := by have := HR.out; rw [hst] at this; exact this
              have hbl := HMe.out.bel
              clear hst
              go_wp2
              go_ret
              exact ⟨⟨true, rfl, by show _ ↔ _; simp [HH.out]⟩, hbl⟩
            · have hst2 : ¬ (y : Int) = (start : Int) := by omega
              have hyM : y < M'.length := by rw [HI.out.len]; exact hyn
              obtain ⟨bb, hbb⟩ : ∃ bb, M'[y]? = some bb := ⟨M'[y], List.getElem?_eq_getElem hyM⟩
              obtain ⟨cm, fm⟩ := HMe.out.mc hbb hyn
              have hjl2 : j + 1 ≤ s.uses.length := hjl
              have hms : s.uses.length - (j + 1) < s.uses.length - j := by omega
              have hzw := HMe.out.bel.size
              cases bb with
              | true =>
                have HD2 : Hid (Done (qs.map Prod.fst) start M' X' k ∧ (∀ i y, i < j + 1 → s.uses[i]? = some y → y ≠ start ∧ M'[y]? = some true) ∧ X'[k]? = some x) := by
                  refine ⟨HD.out.1, fun i z hi hz => ?_, HD.out.2.2⟩
                  rcases Nat.lt_or_ge i j with q | q
                  · exact HD.out.2.1 i z q hz
                  · have : i = j := by omega
                    subst this
                    rw [HY.out] at hz
                    injection hz with hz
                    subst hz
                    exact ⟨hst, hbb⟩
                clear hbb
                go_wp2
                go_roundw
                case rel => exact ⟨j + 1, M', X', by go_num, hjl2, HI, HMe, HS, HD2⟩
                case measure => simpa [intOf] using hms
              | false =>
                have HI2 : Hid (HInv (qs.map Prod.fst) start n (M'.set y true) (X' ++ [y])) := HI.out.add hyn hbb HR.out
                have HMs : Hid (HMem w n (wr.setCell ⟨w.heap.size, y, none⟩ (.bool true)) _ (M'.set y true) X') := HMe.out.set y
                have HSs : Hid (StB (wr.setCell ⟨w.heap.size, y, none⟩ (.bool true)) bx s (.slice (some ⟨ub, uo, none⟩) s.uses.length uc)) := HS.out.grown HMe.out.met (by decide) (HMe.out.met.stored y (.bool true)).2
                have HD2 : Hid (Done (qs.map Prod.fst) start (M'.set y true) (X' ++ [y]) k ∧ (∀ i z, i < j + 1 → s.uses[i]? = some z → z ≠ start ∧ (M'.set y true)[z]? = some true) ∧ (X' ++ [y])[k]? = some x) := by
                  have hmono : ∀ z, M'[z]? = some true → (M'.set y true)[z]? = some true := fun z hz => by
                    by_cases e : y = z
                    · subst e; rw [List.getElem?_set_self hyM]
                    · rw [List.getElem?_set_ne e]; exact hz
                  refine ⟨fun a ha hak z he => ?_, fun i z hi hz => ?_, by rw [List.getElem?_append_left hkX]; exact HD.out.2.2⟩
                  · have hax : a < X'.length := by omega
                    rw [List.getElem_append_left hax] at he
                    have := HD.out.1 a hax hak z he
                    exact ⟨this.1, hmono z this.2⟩
                  · rcases Nat.lt_or_ge i j with q | q
                    · have := HD.out.2.1 i z q hz
                      exact ⟨this.1, hmono z this.2⟩
                    · have : i = j := by omega
                      subst this
                      rw [HY.out] at hz
                      injection hz with hz
                      subst hz
                      exact ⟨hst, by rw [List.getElem?_set_self hyM]⟩
                have hXb2 := HI.out.bound
                have hwalk := HMs.out.walk
                clear hbb
                go_wp2_with (at_builtin; refine wpList_append_own _ rfl _ _ 38 rfl w.heap.size 3 j0 (.int .i64 0) 1 8 Try.under38 hjI hyI0 hyI1 hyI2 rfl (by decide) _ _ _ rfl (hwalk.alloc _) ⟨wr.heap.size, 0, none⟩ 1 1 [.int .i64 y] rfl rfl (cells_new _ _ _ _ (by simp [World.setCell])) (by intro x hx; simp at hx; subst hx; rfl) (by unfold maxLen; omega) (by omega) (by simp [World.setCell]; omega) ?_; intro v' w' hown' hgrow _)
                have R1 := HMs.out.app hown' hgrow
                have R2 : StB w' bx s (.slice (some ⟨ub, uo, none⟩) s.uses.length uc) := (StB.below HSs.out ((Below.refl _ _).alloc (Nat.le_refl _) _) (Array.getElem?_eq_some_iff.1 HSs.out).1).grown (hwalk.alloc _) (by decide) hgrow
                clear hown' hgrow hwalk
                go_wp2
                go_roundw
                case rel => exact ⟨j + 1, _, _, by go_num, hjl2, HI2, R1, R2, HD2⟩
                case measure => simpa [intOf] using hms
          · have HDn : Hid (Done (qs.map Prod.fst) start M' X' (k + 1)) := fun a ha hak z he => by
              rcases Nat.lt_or_ge a k with q | q
              · exact HD.out.1 a ha q z he
              · have hak2 : a = k := by omega
                subst hak2
                have hx2 := HD.out.2.2
                rw [List.getElem?_eq_getElem ha] at hx2
                injection hx2 with hx2
                rw [hx2] at he
                obtain ⟨s', h1, h2, h3⟩ := he
                rw [HGet.out] at h1
                injection h1 with h1
                subst h1
                obtain ⟨i, hi, e⟩ := List.getElem_of_mem h3
                exact HD.out.2.1 i z (by omega) (by rw [List.getElem?_eq_getElem hi, e])
            have hkX : k + 1 ≤ X'.length := by
              rcases Nat.lt_or_ge k X'.length with q | q
              · exact q
              · have := HD.out.2.2; rw [List.getElem?_eq_none q] at this; cases this
            have hXb2 := HI.out.bound
            go_wp2
            go_roundw
            case rel => exact ⟨k + 1, M', X', by go_num, hkX, HI, HDn, HMe⟩
            case measure => simp [intOf]; omega
    · have HE : Hid (¬ Hangs (qs.map Prod.fst) start) := HI.out.none (by rw [show X.length = k by omega]; exact HD.out)
      have hbel := HMe.out.bel
      go_wp2
      go_ret
      exact ⟨⟨false, rfl, by show _ ↔ _; simp [HE.out]⟩, hbel⟩
end Go.Proofs.Ytfbkjopidjojeab
