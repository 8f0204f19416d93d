/-
  Add.
-/
import Derived.Test.YthdblnfohbldcaaGreatBlRawJ
import Derived.Test.YthdblnfohbldcaaGreatBlModJ
import Derived.Test.YthdblnfohbldcaaGreatStCloneJ
namespace Go.Proofs.YthdblnfohbldcaaGreat.Bl
open Go.ChangeShapes Go.WideShapes Go.ChangeAt Go.RowKit
open Go.Proofs.YthdblnfohbldcaaGreat.Base Go.Proofs.YthdblnfohbldcaaGreat.Nums
set_option linter.unusedVariables false
/-- Whether the next entry is a restart; what its key has in common; the room that a restart takes. -/
def restB (n pl : Nat) (r : Int) : Bool := (n : Int) == (pl : Int) * r
def cmB (tb : Bool) (last key : ByteArray) : Nat := if tb then 0 else common (txt last) (txt key)
def roomB (tb : Bool) : Nat := if tb then 4 else 0
def plB (tb : Bool) (el : Nat) (ps : List Int) : List Int := if tb then ps ++ [(el : Int)] else ps
/-- What Add answers. -/
def addE (r m : Int) (el pl n : Nat) (last key value : ByteArray) : Int :=
  if 1024 < key.size ∨ 1024 < value.size then 2
  else if order (txt key) (txt last) < 0 then 61
  else if 0 < n ∧ m < ((sizeB el pl n + (entL (cmB (restB n pl r) last key) key value).length + roomB (restB n pl r) : Nat) : Int) then 62 else 0
/-- What stands behind it. -/
def AddP (q base : Nat) (r m : Int) (ev pv : Value) (es : List (BitVec 8)) (ps : List Int) (n : Nat) (last key value : ByteArray) (w w' : World) : Prop :=
  (addE r m es.length ps.length n last key value ≠ 0 → Below w.heap.size w w') ∧
  (addE r m es.length ps.length n last key value = 0 → ∃ ev' pv', BB w' q r m ev' pv' ((n : Int) + 1) key ∧ Own w' base ev' (es ++ entL (cmB (restB n ps.length r) last key) key value) ∧ OwnI w' base pv' (plB (restB n ps.length r) es.length ps) ∧ KeptF w w' (fun i => i = q ∨ ev.ownBlock = some i ∨ pv.ownBlock = some i))
theorem cmB_le (tb : Bool) (last key : ByteArray) : cmB tb last key ≤ key.size := by
  unfold cmB
  split
  · omega
  · exact (common_sizes last key).2
theorem cmB_le2 (tb : Bool) (last key : ByteArray) : cmB tb last key ≤ last.size := by
  unfold cmB
  split
  · omega
  · exact (common_sizes last key).1
theorem entL_len (c : Nat) (key value : ByteArray) (hc : c ≤ key.size) (hk : key.size ≤ 1024) (hv : value.size ≤ 1024) : (entL c key value).length ≤ 2075 := by
  unfold entL
  have h1 := put9 c (by omega)
  have h2 := put9 (key.size - c) (by omega)
  have h3 := put9 value.size (by omega)
  simp only [List.length_append, btx_len, ByteArray.size_extract]
  omega
set_option maxHeartbeats 4000000 in
set_option maxRecDepth 100000 in
theorem add_any (q base : Nat) (r m : Int) (ev pv : Value) (es : List (BitVec 8)) (ps : List Int) (n : Nat) (last key value : ByteArray) (w : World)
    (h : BB w q r m ev pv (n : Int) last) (he : Own w base ev es) (hp : OwnI w base pv ps) (hq : q < base) (hbase : base ≤ w.heap.size)
    (hr1 : 1 ≤ r) (hr2 : r ≤ 64) (hm1 : 0 ≤ m) (hm2 : m ≤ 1048576) (hla : last.size ≤ 1024) (hk : key.size ≤ 140737488355328) (hv : value.size ≤ 140737488355328) (hel : es.length ≤ 1048576) (hpl : ps.length ≤ 1048576) (hn : n ≤ 1048576) :
    Calls Tryz.prog 21 #[.pointer (some ⟨q, 0, none⟩), .string key, .string value] w fun e w' => e = .returned (.int .i64 (addE r m es.length ps.length n last key value)) ∧ AddP q base r m ev pv es ps n last key value w w' := by
  unfold AddP
  obtain ⟨ea, ec, rfl⟩ := he.shape
  obtain ⟨pa, pc, rfl⟩ := hp.shape
  have HN1 : Hid (∀ i, (Value.slice ea es.length ec).ownBlock = some i → (Value.slice pa ps.length pc).ownBlock ≠ some i) := ty_ne (own_ty he) (own_ty hp) ne_ty
  have HNQ : Hid ((∀ i, (Value.slice ea es.length ec).ownBlock = some i → base ≤ i) ∧ (∀ i, (Value.slice pa ps.length pc).ownBlock = some i → base ≤ i)) := ⟨fun i e => (blk he i e).1, fun i e => (hp.lt i e).1⟩
  have HBB := hide h
  have HE := hide he
  have HP := hide hp
  have HCM := hide (fun W => compare_any key last W (by omega) (by omega))
  have HCO := hide (fun W => common_any last key W (by omega) (by omega))
  have HCL := hide (fun W => St.clone_any key W (by omega))
  have HAT := hide (fun W (hW : Below w.heap.size w W) => bat_any q r m (.slice ea es.length ec) pa ps.length pc n last W (h.below hW) hpl hr1 hr2)
  have HSZ := hide (fun W (hW : BB W q r m (.slice ea es.length ec) (.slice pa ps.length pc) (n : Int) last) => bsize_any q r m ea pa es.length ec ps.length pc n last W hW (by omega) (by omega) (by omega))
  obtain ⟨od, hod⟩ : ∃ od, order (txt key) (txt last) = od := ⟨_, rfl⟩
  obtain ⟨tb, htb⟩ : ∃ tb, restB n ps.length r = tb := ⟨_, rfl⟩
  have htb2 : ((n : Int) == (ps.length : Int) * r) = tb := htb
  simp only [htb2] at HAT
  obtain ⟨E, hE⟩ : ∃ E, entL (cmB tb last key) key value = E := ⟨_, rfl⟩
  obtain ⟨rm, hrm⟩ : ∃ rm, roomB tb = rm := ⟨_, rfl⟩
  have HRT : Hid (roomB tb = rm) := hrm
  have HRM : Hid (rm ≤ 4) := by show _ ≤ _; rw [← hrm]; unfold roomB; split <;> omega
  have HEN : Hid (key.size ≤ 1024 → value.size ≤ 1024 → E.length ≤ 2075 ∧ ∀ W, Calls Tryz.prog 62 #[.int .i64 ((cmB tb last key : Nat) : Int), .string key, .string value] W fun e w' => ∃ v, e = .returned v ∧ Own w' W.heap.size v E ∧ Below W.heap.size W w') := fun h1 h2 => by
    rw [← hE]
    exact ⟨entL_len _ key value (cmB_le _ _ _) h1 h2, fun W => entry_any (cmB tb last key) key value W (cmB_le _ _ _) (by omega) (by omega)⟩
  obtain ⟨ad, had⟩ : ∃ ad, addE r m es.length ps.length n last key value = ad := ⟨_, rfl⟩
  have HAD : Hid (ad = if 1024 < key.size ∨ 1024 < value.size then 2 else if od < 0 then 61 else if 0 < n ∧ m < ((sizeB es.length ps.length n + E.length + rm : Nat) : Int) then 62 else 0) := by
    show _ = _
    rw [← had, ← hod, ← hrm, ← hE, ← htb]; rfl
  rw [had, htb, hE]
  rw [hod] at HCM
  obtain ⟨c0, c1, c2, c3, c4, c5⟩ := h.cells
  clear hod htb htb2 had h he hp hE hrm
  go_enter Tryz.func21, Tryz.ntmps21
  by_cases hk1 : 1024 < key.size
  · have HA : Hid (ad = 2) := HAD.out.trans (if_pos (.inl hk1))
    have hki : (1024 : Int) < (key.size : Int) := by omega
    go_wp2_with fail
    go_ret
    exact ⟨ret_int HA.out.symm, fun _ => Below.refl _ _, fun e => absurd (HA.out.symm.trans e) (by decide)⟩
  by_cases hv1 : 1024 < value.size
  · have HA : Hid (ad = 2) := HAD.out.trans (if_pos (.inr hv1))
    have hki : ¬ (1024 : Int) < (key.size : Int) := by omega
    have hvi : (1024 : Int) < (value.size : Int) := by omega
    go_wp2_with fail
    go_ret
    exact ⟨ret_int HA.out.symm, fun _ => Below.refl _ _, fun e => absurd (HA.out.symm.trans e) (by decide)⟩
  have HA1 : Hid (ad = if od < 0 then 61 else if 0 < n ∧ m < ((sizeB es.length ps.length n + E.length + rm : Nat) : Int) then 62 else 0) := HAD.out.trans (if_neg (by omega))
  have hki : ¬ (1024 : Int) < (key.size : Int) := by omega
  have hvi : ¬ (1024 : Int) < (value.size : Int) := by omega
  have HEL := hide (HEN.out (by omega) (by omega)).1
  have HEW := hide (HEN.out (by omega) (by omega)).2
  clear HEN
  clear HAD
  by_cases ho : od < 0
  · have HA : Hid (ad = 61) := HA1.out.trans (if_pos ho)
    go_wp2_with (go_at_call 59; refine (HCM.out _).mono ?_; rintro e w1 ⟨rfl, hb1⟩; have HB1 := hide hb1; clear hb1)
    go_ret
    exact ⟨ret_int HA.out.symm, fun _ => HB1.out, fun e => absurd (HA.out.symm.trans e) (by decide)⟩
  have HA2 : Hid (ad = if 0 < n ∧ m < ((sizeB es.length ps.length n + E.length + rm : Nat) : Int) then 62 else 0) := HA1.out.trans (if_neg ho)
  clear HA1
  go_upto_if 29 with (first
    | (go_at_call 59; refine (HCM.out _).mono ?_; rintro e w1 ⟨rfl, hb1⟩; have HB1 := hide hb1; clear hb1)
    | (go_at_call 60; refine (HAT.out _ HB1.out).mono ?_; rintro e w2 ⟨rfl, hb2⟩; have HB2 := hide (below_trans HB1.out hb2); clear hb2))
  have HF2 := hide (HBB.out.below HB2.out)
  obtain ⟨d0, d1, d2, d3, d4, d5⟩ := HF2.out.cells
  go_cut [7, 8] from 30 to 35 (fun s7 s8 wx => s7 = .int .i64 ((cmB tb last key : Nat) : Int) ∧ s8 = .int .i64 ((rm : Nat) : Int) ∧ Hid (Below w.heap.size w wx))
  case first =>
    cases tb with
    | true =>
      go_wp2_with fail
      go_meet
      case rel => exact ⟨rfl, by rw [← HRT.out]; rfl, HB2.out⟩
    | false =>
      go_wp2_with (go_at_call 61; refine (HCO.out _).mono ?_; rintro e w3 ⟨rfl, hb3⟩; have HB3 := hide (below_trans HB2.out hb3); clear hb3)
      go_meet
      case rel => exact ⟨rfl, by rw [← HRT.out]; rfl, HB3.out⟩
  case rest =>
    obtain ⟨rfl, rfl, HBC⟩ := hcut
    clear d0 d1 d2 d3 d4 d5 HF2 HB2 HCM HCO
    go_upto_region 11 with (go_at_call 62; refine (HEW.out _).mono ?_; rintro e w3 ⟨v3, rfl, ho3, hb3⟩; obtain ⟨xa, xc, hx3⟩ := ho3.shape; subst hx3; have HX3 := hide (ho3.mono HBC.out.size); have HB3 := hide (below_trans HBC.out hb3); have HS3 := hide hb3.size; clear ho3 hb3)
    have HF3 := hide (HBB.out.below HB3.out)
    obtain ⟨d0, d1, d2, d3, d4, d5⟩ := HF3.out.cells
    obtain ⟨S, hS⟩ : ∃ S, sizeB es.length ps.length n = S := ⟨_, rfl⟩
    have HSB : S ≤ 8388608 := by rw [← hS]; unfold sizeB; split <;> omega
    rw [hS] at HA2 HSZ
    have HSQ : Hid (∀ k, Calls Tryz.prog 22 #[.pointer (some ⟨q, 0, none⟩)] (w3.drewN k) fun e w'' => e = .returned (.int .i64 (S : Nat)) ∧ ∃ m, w'' = w3.drewN m) := fun k => Calls.quiet_of (HSZ.out _ (HF3.out.below (below_drewN' _ _ _)))
    have hrm4 := HRM.out
    have hEl := HEL.out
    clear hS HSZ HEW
    obtain ⟨fl, hfl⟩ : ∃ fl, decide (0 < n ∧ m < ((S + E.length + rm : Nat) : Int)) = fl := ⟨_, rfl⟩
    have HFL : Hid (decide (0 < n ∧ m < ((S + E.length + rm : Nat) : Int)) = fl) := hfl
    clear hfl
    go_cut [58] from 40 to 58 (fun s58 wx => s58 = .bool fl ∧ Hid (Below w3.heap.size w3 wx))
    case first =>
      by_cases hn0 : n = 0
      · subst hn0
        go_quiet (fail)
        go_wp2_with fail
        go_meet
        case rel => exact ⟨by rw [← HFL.out]; simp, below_drewN' _ _ _⟩
      · have hn1 : (0 : Int) < (n : Int) := by omega
        have hn2 : 0 < n := by omega
        go_quiet ((go_at_call 22; exact HSQ.out _))
        go_wp2_with fail
        go_meet
        case rel => exact ⟨by rw [← HFL.out]; exact congrArg Value.bool (decide_eq_decide.2 ⟨fun h => ⟨hn2, by omega⟩, fun h => by omega⟩), below_drewN' _ _ _⟩
    case rest =>
      obtain ⟨rfl, HBX⟩ := hcut
      have HBY := hide (below_trans HB3.out HBX.out)
      clear d0 d1 d2 d3 d4 d5
      cases fl with
      | true =>
        have HA : Hid (ad = 62) := HA2.out.trans (if_pos (of_decide_eq_true HFL.out))
        go_wp2_with fail
        go_ret
        exact ⟨ret_int HA.out.symm, fun _ => HBY.out, fun e => absurd (HA.out.symm.trans e) (by decide)⟩
      | false =>
        have HA : Hid (ad = 0) := HA2.out.trans (if_neg (of_decide_eq_false HFL.out))
        clear HA2 HSQ
        go_upto_if 60 with (go_at_call 60; refine (HAT.out _ HBY.out).mono ?_; rintro e w4 ⟨rfl, hb4⟩; have HB4 := hide (below_trans HBY.out hb4); have HX4 := hide (HX3.out.below HBX.out |>.below hb4); clear hb4)
        have HF4 := hide (HBB.out.below HB4.out)
        have HE4 := hide (HE.out.below HB4.out)
        have HP4 := hide (HP.out.below HB4.out)
        have HS4 := hide HB4.out.size
        obtain ⟨d0, d1, d2, d3, d4, d5⟩ := HF4.out.cells
        go_cut [] from 61 to 74 (fun wx => ∃ v a c, v = .slice a (plB tb es.length ps).length c ∧ Hid (BB wx q r m (.slice ea es.length ec) v (n : Int) last) ∧ Hid (Own wx base (.slice ea es.length ec) es) ∧ Hid (OwnI wx base v (plB tb es.length ps)) ∧ Hid (Own wx w.heap.size (.slice xa E.length xc) E) ∧ Hid (KeptF w wx (fun i => i = q ∨ (Value.slice ea es.length ec).ownBlock = some i ∨ (Value.slice pa ps.length pc).ownBlock = some i)))
        case first =>
          cases tb with
          | false =>
            go_wp2_with fail
            go_meet
            case rel => exact ⟨_, pa, pc, rfl, HF4.out, HE4.out, HP4.out, HX4.out, KeptF.of HB4.out⟩
          | true =>
            have HBA : Hid (Below w4.heap.size w4 (w4.alloc (.cells #[.int .i64 (es.length : Int)] 3)).drew) := ((Below.refl _ _).alloc (Nat.le_refl _) _).drew
            have HPA := hide (HP4.out.below HBA.out)
            have HCA : Hid ((w4.alloc (.cells #[.int .i64 (es.length : Int)] 3)).drew.cell? ((⟨w4.heap.size, 0, none⟩ : Addr).add 0) = some (.int .i64 (es.length : Int))) := cell_one_new w4 _ _ 0 _ rfl
            have HSA : Hid (base ≤ (w4.alloc (.cells #[.int .i64 (es.length : Int)] 3)).drew.heap.size) := by show _ ≤ _; have := HBA.out.size; have := HS4.out; omega
            go_wp2_with fail
            obtain ⟨_, _, da2, da3, _, _⟩ := (HF4.out.below HBA.out).cells
            go_region_law (first
              | (refine step_pushI rfl (.tmp 65) (.tmp 71) rfl base (.slice pa ps.length pc) ps (by simp [Act.eval]) HPA.out ⟨w4.heap.size, 0, none⟩ 1 (es.length : Int) (by simp [Act.eval]) HCA.out (by omega) HSA.out ?_
                 intro v5 w5 ho5 hg5
                 obtain ⟨a5, c5, e5⟩ := ho5.shape
                 subst e5
                 have HO5 := hide ho5
                 have HG5 := hide hg5
                 clear ho5 hg5
                 have HF5 : Hid (BB w5 q r m (.slice ea es.length ec) (.slice pa ps.length pc) (n : Int) last) := (HF4.out.below HBA.out).grown HG5.out (fun e => by have := HNQ.out.2 q e; omega)
                 have e3 := HF5.out.cells.2.2.2.1
                 have f5 := HF5.out.fz 3))
            all_goals
              go_wp2_with fail
              go_meet
              case rel =>
                have g6 : w5.grownBy (w5.setCell ⟨q, 3, none⟩ (.slice a5 (ps.length + 1) c5)) (some q) := grown_cell (World.grownBy.refl _ _) _ _
                have hl : (ps ++ [(es.length : Int)]).length = ps.length + 1 := by simp
                have hq2 := HNQ.out
                have ho5 := HO5.out
                rw [hl] at ho5
                refine ⟨.slice a5 (ps.length + 1) c5, a5, c5, ?_, HF5.out.set3 _, ?_, ?_, ?_, ?_⟩
                · show _ = Value.slice a5 (ps ++ [(es.length : Int)]).length c5
                  rw [hl]
                · exact Base.keep (Base.keep (HE4.out.below HBA.out) HG5.out (fun i j e1 e2 e3 => HN1.out i e1 (by rw [e2, e3]))) g6 (fun i j e1 e2 e3 => by have := hq2.1 i e1; have := Option.some.inj e2; omega)
                · exact ownI_keep ho5 g6 (fun i e e2 => by have := (ho5.lt i e).1; have := Option.some.inj e2; omega)
                · exact Base.keep (Base.keep (HX4.out.below HBA.out) HG5.out (fun i j e1 e2 e3 => by have h1 := (blk HX4.out i e1).1; have h2 := (HP.out.lt j e2).2; omega)) g6 (fun i j e1 e2 e3 => by have h1 := (blk HX4.out i e1).1; have := Option.some.inj e2; omega)
                · exact (((KeptF.of HB4.out).below HBA.out).grown HG5.out (fun i e => .inl (.inr (.inr e)))).grown g6 (fun i e => .inl (.inl (Option.some.inj e).symm))
        case rest =>
          obtain ⟨v, a, c, rfl, HF5, HE5, HP5, HX5, HK5⟩ := hcut
          clear d0 d1 d2 d3 d4 d5
          obtain ⟨d0, d1, d2, d3, d4, d5⟩ := HF5.out.cells
          have f2 := HF5.out.fz 2
          have HN5 : Hid (∀ i, (Value.slice ea es.length ec).ownBlock = some i → (Value.slice a (plB tb es.length ps).length c).ownBlock ≠ some i) := ty_ne (own_ty HE5.out) (own_ty HP5.out) ne_ty
          have HS5 := hide HK5.out.size
          have hnw : IntKind.i64.wrap ((n : Int) + 1) = (n : Int) + 1 := by rw [IntKind.wrap_i64]; omega
          go_wp2_with (first
            | (at_builtin; refine join _ rfl _ _ rfl base (.slice ea es.length ec) es rfl HE5.out xa E.length xc E rfl (Got.rd HX5.out (by omega)) (Got.nil HX5.out) (by omega) (by have := HS5.out; omega) ?_
               intro v6 w6 ho6 hg6
               obtain ⟨a6, n6, c6, e6⟩ : ∃ a n c, v6 = .slice a n c := (by obtain ⟨a, c, e⟩ := ho6.shape; exact ⟨a, _, c, e⟩)
               subst e6
               have HO6 := hide ho6
               have HG6 := hide hg6
               have HF6 : Hid (BB w6 q r m (.slice ea es.length ec) (.slice a (plB tb es.length ps).length c) (n : Int) last) := HF5.out.grown HG6.out (fun e => by have := HNQ.out.1 q e; omega)
               have e62 := HF6.out.cells.2.2.1
               have f62 := HF6.out.fz 2
               have HF7 := hide (HF6.out.set2 (.slice a6 n6 c6))
               have e74 := HF7.out.cells.2.2.2.2.1
               have f74 := HF7.out.fz 4
               have HF8 := hide (HF7.out.set4 ((n : Int) + 1))
               clear ho6 hg6)
            | (go_at_call 63; refine (HCL.out _).mono ?_; rintro e w9 ⟨rfl, hb9⟩; have HB9 := hide hb9; have HF9 := hide (HF8.out.below hb9); have e95 := HF9.out.cells.2.2.2.2.2; have f95 := HF9.out.fz 5; clear hb9))
          go_ret
          have g7 : w6.grownBy (w6.setCell ⟨q, 2, none⟩ (.slice a6 n6 c6)) (some q) := grown_cell (World.grownBy.refl _ _) _ _
          have g8 : (w6.setCell ⟨q, 2, none⟩ (.slice a6 n6 c6)).grownBy ((w6.setCell ⟨q, 2, none⟩ (.slice a6 n6 c6)).setCell ⟨q, 4, none⟩ (.int .i64 ((n : Int) + 1))) (some q) := grown_cell (World.grownBy.refl _ _) _ _
          have g10 : w9.grownBy (w9.setCell ⟨q, 5, none⟩ (.string key)) (some q) := grown_cell (World.grownBy.refl _ _) _ _
          refine ⟨ret_int HA.out.symm, fun e => absurd HA.out e, fun _ => ⟨.slice a6 n6 c6, .slice a (plB tb es.length ps).length c, HF9.out.set5 key, ?_, ?_, ?_⟩⟩
          · have nq : ∀ i j, (Value.slice a6 n6 c6).ownBlock = some i → some q = some j → i ≠ j := fun i j e1 e2 e3 => by have := (blk HO6.out i e1).1; have := Option.some.inj e2; omega
            exact Base.keep ((Base.keep (Base.keep HO6.out g7 nq) g8 nq).below HB9.out) g10 nq
          · have nq : ∀ i, (Value.slice a (plB tb es.length ps).length c).ownBlock = some i → some q ≠ some i := fun i e e2 => by have := (HP5.out.lt i e).1; have := Option.some.inj e2; omega
            exact ownI_keep ((ownI_keep (ownI_keep (ownI_keep HP5.out HG6.out (fun i e1 e2 => HN5.out i e2 e1)) g7 nq) g8 nq).below HB9.out) g10 nq
          · exact (((((HK5.out.grown HG6.out (fun i e => .inl (.inr (.inl e)))).grown g7 (fun i e => .inl (.inl (Option.some.inj e).symm))).grown g8 (fun i e => .inl (.inl (Option.some.inj e).symm))).below HB9.out).grown g10 (fun i e => .inl (.inl (Option.some.inj e).symm)))
end Go.Proofs.YthdblnfohbldcaaGreat.Bl
