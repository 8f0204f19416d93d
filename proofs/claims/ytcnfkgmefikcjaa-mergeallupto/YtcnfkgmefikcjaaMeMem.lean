/-
  A merge in memory: its block, its sources' block; who is ahead.
-/
import Derived.Test.YtcnfkgmefikcjaaMeTree
import Derived.Test.YtcnfkgmefikcjaaBase2
import Derived.Deep.RegionHeldLaw
import Derived.Deep.CutBlock
namespace Go.Proofs.Ytcnfkgmefikcjaa.Me
open Go.ChangeShapes Go.WideShapes Go.ChangeAt Go.RowKit
open Go.Proofs.Ytcnfkgmefikcjaa.Base
set_option linter.unusedVariables false
theorem lt_row {w : World} {g : Nat} {cs : Array Value} {t : TypeId} (h : w.heap[g]? = some (.cells cs t)) : g < w.heap.size := by
  by_cases q : g < w.heap.size
  · exact q
  · rw [Array.getElem?_eq_none (by omega)] at h; cases h
theorem two_below (w : World) (a b : Obj) : Below w.heap.size w ((w.alloc a).alloc b) := ((Below.refl _ _).alloc (Nat.le_refl _) _).alloc (by simp) _
/-- What is merged. -/
structure Th where
  key : Int
  name : Int
def Th.val (t : Th) : Value := .agg #[.int .i64 t.key, .int .i64 t.name]
/-- A source, as the merge holds it. -/
structure Sc where
  ask : Value
  th : Th
  some : Bool
def fcmp : Value := .func (.func 12) #[] #[]
/-- The merge's block. -/
def MB (w : World) (gm : Nat) (sv : Value) (pl : Nat → Nat) (bg ov : Bool) (er : Int) : Prop :=
  ∃ cur : Array Value, w.heap[gm]? = some (.cells cur 55) ∧ cur.size = 69 ∧ cur[0]? = some fcmp ∧ cur[1]? = some sv ∧ (∀ j, j < 64 → cur[2 + j]? = some (.int .i64 (pl j : Int))) ∧ cur[66]? = some (.bool bg) ∧ cur[67]? = some (.bool ov) ∧ cur[68]? = some (.int .i64 er)
/-- The sources' block. -/
def SB (w : World) (gs n : Nat) (F : Nat → Sc) : Prop :=
  ∃ cur : Array Value, w.heap[gs]? = some (.cells cur 57) ∧ cur.size = n * 4 ∧ ∀ j, j < n → cur[j * 4]? = some (F j).ask ∧ cur[j * 4 + 1]? = some (.int .i64 (F j).th.key) ∧ cur[j * 4 + 2]? = some (.int .i64 (F j).th.name) ∧ cur[j * 4 + 3]? = some (.bool (F j).some)
theorem MB.lt {w : World} {gm : Nat} {sv : Value} {pl : Nat → Nat} {bg ov : Bool} {er : Int} (h : MB w gm sv pl bg ov er) : gm < w.heap.size := by obtain ⟨cur, h0, _⟩ := h; exact lt_row h0
theorem SB.lt {w : World} {gs n : Nat} {F : Nat → Sc} (h : SB w gs n F) : gs < w.heap.size := by obtain ⟨cur, h0, _⟩ := h; exact lt_row h0
theorem MB.same {w w' : World} {gm : Nat} {sv : Value} {pl : Nat → Nat} {bg ov : Bool} {er : Int} (h : MB w gm sv pl bg ov er) (e : w'.heap[gm]? = w.heap[gm]?) : MB w' gm sv pl bg ov er := by
  obtain ⟨cur, h0, hr⟩ := h
  exact ⟨cur, e.trans h0, hr⟩
theorem SB.same {w w' : World} {gs n : Nat} {F : Nat → Sc} (h : SB w gs n F) (e : w'.heap[gs]? = w.heap[gs]?) : SB w' gs n F := by
  obtain ⟨cur, h0, hr⟩ := h
  exact ⟨cur, e.trans h0, hr⟩
theorem MB.cells {w : World} {gm : Nat} {sv : Value} {pl : Nat → Nat} {bg ov : Bool} {er : Int} (h : MB w gm sv pl bg ov er) : w.cell? ⟨gm, 0, none⟩ = some fcmp ∧ w.cell? ⟨gm, 1, none⟩ = some sv ∧ w.cell? ⟨gm, 66, none⟩ = some (.bool bg) ∧ w.cell? ⟨gm, 67, none⟩ = some (.bool ov) ∧ w.cell? ⟨gm, 68, none⟩ = some (.int .i64 er) := by
  obtain ⟨cur, h0, h1, h2, h3, h4, h5, h6, h7⟩ := h
  refine ⟨?_, ?_, ?_, ?_, ?_⟩ <;> (rw [cell_of_row _ _ _ _ _ _ h0]; assumption)
theorem MB.place {w : World} {gm : Nat} {sv : Value} {pl : Nat → Nat} {bg ov : Bool} {er : Int} (h : MB w gm sv pl bg ov er) (j : Nat) (hj : j < 64) : w.cell? ⟨gm, 2 + j, none⟩ = some (.int .i64 (pl j : Int)) := by
  obtain ⟨cur, h0, h1, h2, h3, h4, h5, h6, h7⟩ := h
  rw [cell_of_row _ _ _ _ _ _ h0]
  exact h4 j hj
theorem MB.frozen {w : World} {gm : Nat} {sv : Value} {pl : Nat → Nat} {bg ov : Bool} {er : Int} (h : MB w gm sv pl bg ov er) (k : Nat) : w.frozen? ⟨gm, k, none⟩ = false := by
  obtain ⟨cur, h0, _⟩ := h
  exact frozen_of_row _ _ _ _ _ h0
theorem SB.cells {w : World} {gs n : Nat} {F : Nat → Sc} (h : SB w gs n F) (j : Nat) (hj : j < n) : w.cell? ⟨gs, j * 4, none⟩ = some (F j).ask ∧ w.cell? ⟨gs, j * 4 + 1, none⟩ = some (.int .i64 (F j).th.key) ∧ w.cell? ⟨gs, j * 4 + 2, none⟩ = some (.int .i64 (F j).th.name) ∧ w.cell? ⟨gs, j * 4 + 3, none⟩ = some (.bool (F j).some) := by
  obtain ⟨cur, h0, h1, h2⟩ := h
  obtain ⟨a, b, c, d⟩ := h2 j hj
  refine ⟨?_, ?_, ?_, ?_⟩ <;> (rw [cell_of_row _ _ _ _ _ _ h0]; assumption)
theorem SB.frozen {w : World} {gs n : Nat} {F : Nat → Sc} (h : SB w gs n F) (k : Nat) : w.frozen? ⟨gs, k, none⟩ = false := by
  obtain ⟨cur, h0, _⟩ := h
  exact frozen_of_row _ _ _ _ _ h0
/-- A place is written. -/
theorem MB.put {w : World} {gm : Nat} {sv : Value} {pl : Nat → Nat} {bg ov : Bool} {er : Int} (h : MB w gm sv pl bg ov er) (j v : Nat) (hj : j < 64) : MB (w.setCell ⟨gm, 2 + j, none⟩ (.int .i64 (v : Int))) gm sv (setN pl j v) bg ov er := by
  obtain ⟨cur, h0, h1, h2, h3, h4, h5, h6, h7⟩ := h
  refine ⟨cur.setIfInBounds (2 + j) (.int .i64 (v : Int)), heap_setCell_same _ _ _ _ _ _ h0, by simp [h1], ?_, ?_, fun k hk => ?_, ?_, ?_, ?_⟩
  · rw [Array.getElem?_setIfInBounds, if_neg (by omega)]; exact h2
  · rw [Array.getElem?_setIfInBounds, if_neg (by omega)]; exact h3
  · rw [Array.getElem?_setIfInBounds]
    unfold setN
    by_cases e : k = j
    · subst e; rw [if_pos rfl, if_pos rfl, if_pos (by omega)]
    · rw [if_neg (by omega), if_neg e]; exact h4 k hk
  · rw [Array.getElem?_setIfInBounds, if_neg (by omega)]; exact h5
  · rw [Array.getElem?_setIfInBounds, if_neg (by omega)]; exact h6
  · rw [Array.getElem?_setIfInBounds, if_neg (by omega)]; exact h7
/-- Who is ahead. -/
def ah (F : Nat → Sc) (a b : Nat) : Bool := if (F a).some = false ∨ (F b).some = false then (F a).some else decide ((F a).th.key < (F b).th.key) || (decide ((F a).th.key = (F b).th.key) && decide (a < b))
theorem ah_irr (F : Nat → Sc) (a : Nat) : ah F a a = false := by
  unfold ah
  cases h : (F a).some <;> simp
theorem ah_asym (F : Nat → Sc) (a b : Nat) (h : ah F a b = true) : ah F b a = false := by
  unfold ah at h ⊢
  cases h1 : (F a).some <;> cases h2 : (F b).some <;> simp [h1, h2] at h ⊢
  omega
theorem ah_tr (F : Nat → Sc) (a b c : Nat) (h1 : ah F b a = false) (h2 : ah F c b = false) : ah F c a = false := by
  unfold ah at h1 h2 ⊢
  cases q1 : (F a).some <;> cases q2 : (F b).some <;> cases q3 : (F c).some <;> simp [q1, q2, q3] at h1 h2 ⊢
  omega
def cmpT (a b : Th) : Int := if a.key < b.key then -1 else if b.key < a.key then 7 else 0
set_option maxHeartbeats 1000000 in
theorem compare_any (a b : Th) (w : World) : Calls Try.prog 12 #[a.val, b.val] w fun e w' => e = .returned (.int .i64 (cmpT a b)) ∧ Below w.heap.size w w' := by
  obtain ⟨ak, an⟩ := a
  obtain ⟨bk, bn⟩ := b
  unfold Th.val cmpT
  go_enter Try.func12, Try.ntmps12
  by_cases h1 : ak < bk
  · go_wp2_with fail
    go_ret
    exact ⟨by simp, two_below _ _ _⟩
  · by_cases h2 : bk < ak
    · go_wp2_with fail
      go_ret
      exact ⟨by simp, two_below _ _ _⟩
    · go_wp2_with fail
      go_ret
      exact ⟨by simp, two_below _ _ _⟩
theorem MB.below {w w' : World} {gm : Nat} {sv : Value} {pl : Nat → Nat} {bg ov : Bool} {er : Int} (h : MB w gm sv pl bg ov er) (hb : Below w.heap.size w w') : MB w' gm sv pl bg ov er := h.same (hb.block gm h.lt)
theorem SB.below {w w' : World} {gs n : Nat} {F : Nat → Sc} (h : SB w gs n F) (hb : Below w.heap.size w w') : SB w' gs n F := h.same (hb.block gs h.lt)
theorem cmp_ah (F : Nat → Sc) (a b : Nat) (h1 : (F a).some = true) (h2 : (F b).some = true) : ah F a b = (decide (cmpT (F a).th (F b).th < 0) || (decide (cmpT (F a).th (F b).th = 0) && decide (a < b))) := by
  unfold ah cmpT
  rw [h1, h2]
  by_cases q1 : (F a).th.key < (F b).th.key
  · simp [q1]
  · by_cases q2 : (F b).th.key < (F a).th.key
    · have q3 : ¬ (F a).th.key = (F b).th.key := by omega
      simp [q1, q2, q3]
    · have q3 : (F a).th.key = (F b).th.key := by omega
      simp [q3]
set_option maxHeartbeats 2000000 in
set_option maxRecDepth 100000 in
theorem isAhead_any (gm gs n : Nat) (pl : Nat → Nat) (bg ov : Bool) (er : Int) (F : Nat → Sc) (a b : Nat) (w : World) (hM : MB w gm (.slice (some ⟨gs, 0, none⟩) n n) pl bg ov er) (hS : SB w gs n F) (ha : a < n) (hb : b < n) (hn : n ≤ 64) :
    Calls Try.prog 23 #[.pointer (some ⟨gm, 0, none⟩), .int .i64 (a : Int), .int .i64 (b : Int)] w fun e w' => e = .returned (.bool (ah F a b)) ∧ Below w.heap.size w w' := by
  have m0 := hM.cells.1
  have m1 := hM.cells.2.1
  obtain ⟨a0, a1, a2, a3⟩ := hS.cells a ha
  obtain ⟨b0, b1, b2, b3⟩ := hS.cells b hb
  have hai : (a : Int) < (n : Int) := by omega
  have hbi : (b : Int) < (n : Int) := by omega
  have HC := hide (fun W => compare_any (F a).th (F b).th W)
  have HAH := hide (cmp_ah F a b)
  have HA1 : Hid ((F a).some = false → ah F a b = false) := fun h => by unfold ah; simp [h]
  have HA2 : Hid ((F a).some = true → (F b).some = false → ah F a b = true) := fun h k => by unfold ah; simp [h, k]
  have HM := hide hM
  have HS := hide hS
  clear hM hS a0 b0
  generalize hz : ah F a b = z at HAH HA1 HA2
  clear hz
  generalize cmpT (F a).th (F b).th = ct at HC HAH
  generalize hfa : (F a) = fa at *
  generalize hfb : (F b) = fb at *
  clear hfa hfb
  obtain ⟨fa0, ⟨ka, na⟩, sa⟩ := fa
  obtain ⟨fb0, ⟨kb, nb⟩, sb⟩ := fb
  unfold Th.val at HC
  unfold fcmp at m0
  simp only at a1 a2 a3 b1 b2 b3 HAH HA1 HA2 HC
  go_enter Try.func23, Try.ntmps23
  go_upto_region 1 with fail
  go_quiet (fail)
  have B1 : Hid (Below w.heap.size w (w.drewN nq)) := below_drewN' _ _ _
  obtain ⟨w1, hw1⟩ : ∃ w1, w.drewN nq = w1 := ⟨_, rfl⟩
  rw [hw1] at B1 ⊢
  have n0 := (B1.out.cell (p := ⟨gm, 0, none⟩) HM.out.lt).trans m0
  have c1 := (B1.out.cell (p := ⟨gs, a * 4 + 1, none⟩) HS.out.lt).trans a1
  have c2 := (B1.out.cell (p := ⟨gs, a * 4 + 2, none⟩) HS.out.lt).trans a2
  have c3 := (B1.out.cell (p := ⟨gs, a * 4 + 3, none⟩) HS.out.lt).trans a3
  have d1 := (B1.out.cell (p := ⟨gs, b * 4 + 1, none⟩) HS.out.lt).trans b1
  have d2 := (B1.out.cell (p := ⟨gs, b * 4 + 2, none⟩) HS.out.lt).trans b2
  have d3 := (B1.out.cell (p := ⟨gs, b * 4 + 3, none⟩) HS.out.lt).trans b3
  clear m0 m1 a1 a2 a3 b1 b2 b3 hw1
  have hgm := HM.out.lt
  have hgs := HS.out.lt
  have HLG := hide (And.intro hgm hgs)
  clear hgm hgs
  cases sa with
  | false =>
    have HZ := hide (HA1.out rfl)
    clear HA1 HA2 HAH
    go_wp2_with fail
    go_ret
    exact ⟨by rw [HZ.out]; rfl, B1.out⟩
  | true =>
    cases sb with
    | false =>
      have HZ := hide (HA2.out rfl rfl)
      clear HA1 HA2 HAH
      go_wp2_with fail
      go_ret
      exact ⟨by rw [HZ.out]; rfl, B1.out⟩
    | true =>
      have HZ := hide (HAH.out rfl rfl)
      clear HA1 HA2 HAH
      have B2 : Hid (Below w1.heap.size w1 w1.drew) := (Below.refl _ _).drew
      have HL1 : Hid (gm < w1.heap.size ∧ gs < w1.heap.size) := ⟨Nat.lt_of_lt_of_le HLG.out.1 B1.out.size, Nat.lt_of_lt_of_le HLG.out.2 B1.out.size⟩
      go_upto_region 4 with fail
      first | (go_region_held_law (fun V => V.cell? ⟨gm, 0, none⟩ = some (.func (.func 12) #[] #[]) ∧ (V.cell? ⟨gs, a * 4 + 1, none⟩ = some (.int .i64 ka) ∧ V.cell? ⟨gs, a * 4 + 2, none⟩ = some (.int .i64 na)) ∧ V.cell? ⟨gs, b * 4 + 1, none⟩ = some (.int .i64 kb) ∧ V.cell? ⟨gs, b * 4 + 2, none⟩ = some (.int .i64 nb)) (first | exact HS6.out | go_keep) (first
        | (go_at_call 12; refine (HC.out _).mono ?_; rintro e w6 ⟨rfl, hb6⟩
           have B6 := hide (below_trans B2.out hb6)
           clear hb6
           have HS6 : Hid (w6.cell? ⟨gm, 0, none⟩ = some (.func (.func 12) #[] #[]) ∧ (w6.cell? ⟨gs, a * 4 + 1, none⟩ = some (.int .i64 ka) ∧ w6.cell? ⟨gs, a * 4 + 2, none⟩ = some (.int .i64 na)) ∧ w6.cell? ⟨gs, b * 4 + 1, none⟩ = some (.int .i64 kb) ∧ w6.cell? ⟨gs, b * 4 + 2, none⟩ = some (.int .i64 nb)) := ⟨(B6.out.cell (p := ⟨gm, 0, none⟩) HL1.out.1).trans n0, ⟨(B6.out.cell (p := ⟨gs, a * 4 + 1, none⟩) HL1.out.2).trans c1, (B6.out.cell (p := ⟨gs, a * 4 + 2, none⟩) HL1.out.2).trans c2⟩, (B6.out.cell (p := ⟨gs, b * 4 + 1, none⟩) HL1.out.2).trans d1, (B6.out.cell (p := ⟨gs, b * 4 + 2, none⟩) HL1.out.2).trans d2⟩))) | fail
      all_goals
        have B7 := hide (below_trans B1.out B6.out)
        clear n0 c1 c2 c3 d1 d2 d3 HC HM HS B2 HL1 HLG
        by_cases h1 : ct < 0
        · go_wp2_with fail
          go_ret
          exact ⟨by rw [HZ.out]; simp [h1], B7.out⟩
        · by_cases h2 : ct = 0
          · subst h2
            by_cases h3 : (a : Int) < (b : Int)
            · go_wp2_with fail
              go_ret
              have h4 : a < b := by omega
              exact ⟨by rw [HZ.out]; simp [h4], B7.out⟩
            · go_wp2_with fail
              go_ret
              have h4 : ¬ a < b := by omega
              exact ⟨by rw [HZ.out]; simp [h4], B7.out⟩
          · go_wp2_with fail
            go_ret
            exact ⟨by rw [HZ.out]; simp [h1, h2], B7.out⟩
end Go.Proofs.Ytcnfkgmefikcjaa.Me
