/-
  The document's Check.
-/
import Derived.Test.YtbmbhcjocgbbpaaFaChk
import Derived.Test.YtbmbhcjocgbbpaaFaGood2
namespace Go.Proofs.Ytbmbhcjocgbbpaa.Fa
open Go.ChangeShapes Go.WideShapes Go.ChangeAt Go.RowKit
open Go.Proofs.Ytbmbhcjocgbbpaa.Base
set_option linter.unusedVariables false
theorem getD_map_plc (fs : List Flt) (i : Nat) (h : i < fs.length) : (fs.map plc)[i]? = some (plc (fs.getD i f0)) := by
  rw [List.getElem?_map, List.getElem?_eq_getElem h, List.getD_eq_getElem?_getD, List.getElem?_eq_getElem h]; rfl
/-- No two of the first i entries have one place. -/
def Ap (fs : List Flt) (i : Nat) : Prop := ∀ x y, x < y → y < i → plc (fs.getD y f0) ≠ plc (fs.getD x f0)
theorem nodup_of {fs : List Flt} (h : Ap fs fs.length) : (fs.map plc).Nodup := by
  rw [List.Nodup, List.pairwise_iff_getElem]
  intro i j hi hj hij e
  have hi' : i < fs.length := by simpa using hi
  have hj' : j < fs.length := by simpa using hj
  have h1 := getD_map_plc fs i hi'
  have h2 := getD_map_plc fs j hj'
  rw [List.getElem?_eq_getElem hi] at h1
  rw [List.getElem?_eq_getElem hj] at h2
  apply h i j hij hj'
  rw [← Option.some.inj h1, ← Option.some.inj h2, e]
theorem not_nodup {fs : List Flt} {i j : Nat} (hi : i < fs.length) (hj : j < i) (e : plc (fs.getD i f0) = plc (fs.getD j f0)) : ¬ (fs.map plc).Nodup := by
  intro h
  rw [List.Nodup, List.pairwise_iff_getElem] at h
  have hj' : j < fs.length := by omega
  have h1 := getD_map_plc fs i hi
  have h2 := getD_map_plc fs j hj'
  rw [List.getElem?_eq_getElem (by simpa using hi)] at h1
  rw [List.getElem?_eq_getElem (by simpa using hj')] at h2
  apply h j i (by simpa using hj') (by simpa using hi) hj
  rw [Option.some.inj h1, Option.some.inj h2, e]
theorem plc_cases (f g : Flt) : ((f.k == g.k) = false ∧ plc f ≠ plc g) ∨ ((f.k == g.k) = true ∧ (f.j == g.j) = false ∧ plc f ≠ plc g) ∨ ((f.k == g.k) = true ∧ (f.j == g.j) = true ∧ (f.t == g.t) = false ∧ plc f ≠ plc g) ∨ ((f.k == g.k) = true ∧ (f.j == g.j) = true ∧ (f.t == g.t) = true ∧ (f.a == g.a) = false ∧ plc f ≠ plc g) ∨ ((f.k == g.k) = true ∧ (f.j == g.j) = true ∧ (f.t == g.t) = true ∧ (f.a == g.a) = true ∧ plc f = plc g) := by
  by_cases h1 : f.k = g.k <;> by_cases h2 : f.j = g.j <;> by_cases h3 : f.t = g.t <;> by_cases h4 : f.a = g.a <;> simp [plc, h1, h2, h3, h4]
set_option maxHeartbeats 2000000 in
set_option maxRecDepth 100000 in
theorem refCheck_any (a : Option Addr) (n cap : Nat) (fs : List Flt) (w : World) (hr : RdL w a n fs) :
    Calls Try.prog 21 #[.slice a n cap] w fun e w' => e = .returned (.int .i64 (chk fs : Nat)) ∧ Below w.heap.size w w' := by
  have HL := hide hr.1
  have HR := hide hr
  clear hr
  by_cases hn : 256 < n
  · have hc : Hid (chk fs = 2) := by show _ = _; unfold chk; rw [if_pos (by rw [HL.out]; exact hn)]
    rw [hc.out]
    have hni : (256 : Int) < (n : Int) := by omega
    go_enter Try.func21, Try.ntmps21
    go_wp2_with fail
    go_ret
    exact ⟨rfl, b0 _⟩
  · have hni : (n : Int) ≤ 256 := by omega
    go_enter Try.func21, Try.ntmps21
    go_wp2_with fail
    go_loopw [3] (fun si wr => ∃ (i : Nat), i ≤ n ∧ .int .i64 (i : Int) = si ∧ Hid (Ap fs i) ∧ Hid ((fs.take i).all may = true) ∧ Hid (Below w.heap.size w wr)) (fun si _ => n - (intOf si).toNat)
    case atStart => exact ⟨0, by omega, rfl, fun x y h1 h2 => by omega, rfl, b0 _⟩
    case round =>
      obtain ⟨i, hi, rfl, HA, HM, HB⟩ := hrel
      rename World => V0
      by_cases hin : i < n
      · have hii : (i : Int) < (n : Int) := by omega
        obtain ⟨b1, o1, rfl, hl1, hc1⟩ := HR.out.2 (by omega)
        have HC1 := hide hc1
        clear hc1
        obtain ⟨f, hf⟩ : ∃ f, fs.getD i f0 = f := ⟨_, rfl⟩
        obtain ⟨p0, p1, p2, p3, p4, p5, p6, p7⟩ := (HC1.out i hin).same (w' := V0) (fun k => HB.out.cell (p := ⟨b1, k, none⟩) hl1)
        rw [hf] at p0 p1 p2 p3 p4 p5 p6 p7
        have HF := hide hf
        clear hf
        have hil : i < fs.length := by rw [HL.out]; exact hin
        go_wp2_with fail
        refine (good_any f _).mono ?_
        rintro e w1 ⟨rfl, hb1⟩
        have HB1 := hide (below_trans HB.out hb1)
        clear hb1 p0 p1 p2 p3 p4 p5 p6 p7
        by_cases hm : may f = true
        rotate_left
        · have HM2 : Hid (may f = false) := bool_ff hm
          rw [HM2.out]
          clear hm
          have hc2 : Hid (chk fs = 160) := by
            show _ = _
            unfold chk
            rw [if_neg (by rw [HL.out]; omega), if_neg (fun h => by rw [all_false hil (by rw [HF.out]; exact HM2.out)] at h; cases h.1)]
          go_wp2_with fail
          go_ret
          exact ⟨ret_int (by rw [hc2.out]; rfl), HB1.out⟩
        have HM2 := hide hm
        rw [HM2.out]
        clear hm
        go_wp2_with fail
        go_loopw [4] (fun sj wr => ∃ (j : Nat), j ≤ i ∧ .int .i64 (j : Int) = sj ∧ Hid (Below w1.heap.size w1 wr) ∧ Hid (∀ m, m < j → plc f ≠ plc (fs.getD m f0))) (fun sj _ => i - (intOf sj).toNat)
        case atStart => exact ⟨0, by omega, rfl, b0 _, fun m hm => by omega⟩
        case round =>
          obtain ⟨j, hj, rfl, HB2, HN⟩ := hrel
          have HBV := HB1
          by_cases hjn : j < i
          · have hji : (j : Int) < (i : Int) := by omega
            obtain ⟨g, hg⟩ : ∃ g, fs.getD j f0 = g := ⟨_, rfl⟩
            have HBW := below_trans HB1.out HB2.out
            obtain ⟨p0, p1, p2, p3, p4, p5, p6, p7⟩ := (HC1.out i hin).same (w' := wr) (fun k => HBW.cell (p := ⟨b1, k, none⟩) hl1)
            obtain ⟨q0, q1, q2, q3, q4, q5, q6, q7⟩ := (HC1.out j (by omega)).same (w' := wr) (fun k => HBW.cell (p := ⟨b1, k, none⟩) hl1)
            have hwl : b1 < wr.heap.size := Nat.lt_of_lt_of_le hl1 HBW.size
            rw [HF.out] at p0 p1 p2 p3 p4 p5 p6 p7
            rw [hg] at q0 q1 q2 q3 q4 q5 q6 q7
            have HG := hide hg
            have HBX := hide HBW
            clear hg HBW
            have hjn2 : j < n := by omega
            have hjn3 : (j : Int) < (n : Int) := by omega
            rcases plc_cases f g with ⟨h1, hne⟩ | ⟨h1, h2, hne⟩ | ⟨h1, h2, h3, hne⟩ | ⟨h1, h2, h3, h4, hne⟩ | ⟨h1, h2, h3, h4, heq⟩
            · have HNE := hide hne
              clear hne
              go_wp2_with fail
              go_roundw
              case rel => exact ⟨j + 1, by omega, by go_num, ba (ba HB2.out _) _, fun m hm => by
                by_cases e : m = j
                · subst e; rw [HG.out]; exact HNE.out
                · exact HN.out m (by omega)⟩
              case measure => simp [intOf]; omega
            · have HNE := hide hne
              clear hne
              go_wp2_with fail
              go_roundw
              case rel => exact ⟨j + 1, by omega, by go_num, ba (ba HB2.out _) _, fun m hm => by
                by_cases e : m = j
                · subst e; rw [HG.out]; exact HNE.out
                · exact HN.out m (by omega)⟩
              case measure => simp [intOf]; omega
            · have HNE := hide hne
              clear hne
              go_wp2_with fail
              go_roundw
              case rel => exact ⟨j + 1, by omega, by go_num, ba (ba HB2.out _) _, fun m hm => by
                by_cases e : m = j
                · subst e; rw [HG.out]; exact HNE.out
                · exact HN.out m (by omega)⟩
              case measure => simp [intOf]; omega
            · have HNE := hide hne
              clear hne
              go_wp2_with fail
              go_roundw
              case rel => exact ⟨j + 1, by omega, by go_num, ba (ba HB2.out _) _, fun m hm => by
                by_cases e : m = j
                · subst e; rw [HG.out]; exact HNE.out
                · exact HN.out m (by omega)⟩
              case measure => simp [intOf]; omega
            · have HEQ := hide heq
              clear heq
              have hc2 : Hid (chk fs = 160) := by
                show _ = _
                unfold chk
                rw [if_neg (by rw [HL.out]; omega), if_neg (fun h => not_nodup hil hjn (by rw [HF.out, HG.out]; exact HEQ.out) h.2)]
              go_wp2_with fail
              go_ret
              exact ⟨ret_int (by rw [hc2.out]; rfl), ba (ba HBX.out _) _⟩
          · obtain rfl : j = i := by omega
            go_wp2_with fail
            go_roundw
            case rel => exact ⟨j + 1, by omega, by go_num, fun x y h1 h2 => by
              by_cases e : y = j
              · subst e; rw [HF.out]; exact HN.out x h1
              · exact HA.out x y h1 (by omega), by show _ = _; rw [take_all fs j f hil HF.out, List.all_append, HM.out]; simp [HM2.out], below_trans HB1.out HB2.out⟩
            case measure => simp [intOf]; omega
      · obtain rfl : i = n := by omega
        have hc2 : Hid (chk fs = 0) := by
          show _ = _
          unfold chk
          have h1 := HA.out
          have h2 := HM.out
          rw [← HL.out] at h1 h2
          rw [List.take_of_length_le (Nat.le_refl _)] at h2
          rw [if_neg (by rw [HL.out]; omega), if_pos ⟨h2, nodup_of h1⟩]
        go_wp2_with fail
        go_ret
        exact ⟨ret_int (by rw [hc2.out]; rfl), HB.out⟩
end Go.Proofs.Ytbmbhcjocgbbpaa.Fa
