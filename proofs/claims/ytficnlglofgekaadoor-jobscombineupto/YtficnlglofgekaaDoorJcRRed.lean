/-
  The document's Reduce.
-/
import Derived.Test.YtficnlglofgekaaDoorJcJoin
import Derived.Test.YtficnlglofgekaaDoorJcTexts
namespace Go.Proofs.YtficnlglofgekaaDoor.Jb
open Go.ChangeShapes Go.WideShapes Go.ChangeAt Go.RowKit
open Go.Lib hiding intOf
open Go.Proofs.YtficnlglofgekaaDoor.Base
open Go.Proofs.YtficnlglofgekaaDoor.Pa (OwnS RdS)
set_option linter.unusedVariables false
theorem numsL_one (ss : List ByteArray) (s : ByteArray) (v : Int) (h : num s.data.toList = some v) : riseL (numsL (ss ++ [s])) = insU (riseL (numsL ss)) v := by
  rw [numsL_snoc, h]
  exact riseL_snoc _ _
theorem numsL_zero (ss : List ByteArray) (s : ByteArray) (h : num s.data.toList = none) : numsL (ss ++ [s]) = numsL ss := by
  rw [numsL_snoc, h]; simp
theorem insU_len (l : List Int) (v : Int) : (insU l v).length ≤ l.length + 1 := by
  rw [insU_at]
  split
  · omega
  · simp only [List.length_append, List.length_take, List.length_drop, List.length_singleton]; omega
theorem rise_len : ∀ (xs l : List Int), (xs.foldl insU l).length ≤ l.length + xs.length
  | [], l => by simp
  | x :: xs, l => by
    rw [List.foldl_cons]
    have h1 := rise_len xs (insU l x)
    have h2 := insU_len l x
    rw [List.length_cons]; omega
theorem riseL_len (xs : List Int) : (riseL xs).length ≤ xs.length := by
  have h := rise_len xs []
  simp only [List.length_nil, Nat.zero_add] at h
  exact h
set_option maxHeartbeats 4000000 in
set_option maxRecDepth 100000 in
theorem rreduce1_any (a : Option Addr) (n c : Nat) (ss : List ByteArray) (w : World) (hr : RdS w a n ss) (hn : n ≤ 8796093022000) (hz : ∀ s ∈ ss, s.size ≤ 1099511627776) :
    Calls Tryd.prog 17 #[.int .i64 1, .slice a n c] w fun e w' => ∃ v, e = .returned v ∧ OwnS w' w.heap.size v (riseS ss) ∧ Below w.heap.size w w' := by
  have HR := hide hr
  have HZ := hide hz
  have HN := hide hr.1
  have HIN := hide (riseL_in (numsL_in ss))
  clear hr hz
  go_enter Tryd.func17, Tryd.ntmps17
  go_wp2_with fail
  go_loopw [5, 6, 7, 8, 9, 10] (fun s5 s6 s7 s8 s9 s10 wr => ∃ (i : Nat) (x y7 y8 y9 y10 : Value), i ≤ n ∧ x = s5 ∧ .int .i64 (i : Int) = s6 ∧ y7 = s7 ∧ y8 = s8 ∧ y9 = s9 ∧ y10 = s10 ∧ Hid (OwnJ wr w.heap.size x (riseL (numsL (ss.take i)))) ∧ Hid (Below w.heap.size w wr)) (fun _ s6 _ _ _ _ _ => n - (intOf s6).toNat)
  case atStart => exact ⟨0, _, _, _, _, _, by omega, rfl, rfl, rfl, rfl, rfl, rfl, ownj_none _ _, Below.refl _ _⟩
  case round =>
    obtain ⟨i, x, y7, y8, y9, y10, hi, rfl, rfl, rfl, rfl, rfl, rfl, HO, HB⟩ := hrel
    by_cases hin : i < n
    · have hii : (i : Int) < (n : Int) := by omega
      have hi0 : (0 : Int) ≤ (i : Int) := by omega
      have hls : i < ss.length := by rw [HN.out]; exact hin
      obtain ⟨b, off, rfl, hbl, hbc⟩ := HR.out.2.2.2 (by omega)
      have hcell := (HB.out.cell (p := ⟨b, off + i, none⟩) hbl).trans (hbc i hin)
      have HT := hide (takeS ss i hls)
      have HZZ := hide (HZ.out _ (Pa.getS_mem hls))
      generalize ss.getD i ⟨#[]⟩ = z at hcell HT HZZ
      have HM := hide (fun W => rnumber_any z W HZZ.out)
      have HL : Hid ((riseL (numsL (ss.take i))).length ≤ i) := by
        have h1 := riseL_len (numsL (ss.take i))
        have h2 := numsL_len (ss.take i)
        rw [List.length_take] at h2
        show _ ≤ _; omega
      clear hbc
      cases hn1 : num z.data.toList with
      | none =>
        rw [numV_none hn1] at HM
        have HE : Hid (riseL (numsL (ss.take (i + 1))) = riseL (numsL (ss.take i))) := by show _ = _; rw [HT.out, numsL_zero _ _ hn1]
        clear hn1
        go_wp2_with (go_at_call 28; refine (HM.out _).mono ?_; rintro e w1 ⟨rfl, hq⟩; obtain rfl := hq.symm)
        go_roundw
        case rel => exact ⟨i + 1, _, _, _, _, _, by omega, rfl, by go_num, rfl, rfl, rfl, rfl, by rw [HE.out]; exact HO.out, HB.out⟩
        case measure => (simp [intOf] <;> omega)
      | some v =>
        rw [numV_some hn1] at HM
        have HE : Hid (riseL (numsL (ss.take (i + 1))) = insU (riseL (numsL (ss.take i))) v) := by show _ = _; rw [HT.out, numsL_one _ _ v hn1]
        clear hn1
        generalize riseL (numsL (ss.take i)) = zs at HO HL HE
        obtain ⟨ax, cx, rfl⟩ := HO.out.shape
        have HIA := hide (insU_at zs v)
        have hpl := posU_le zs v
        have HPL := hide (fun k => posU_lt zs v k)
        have HPE := hide (posU_end zs v)
        generalize posU zs v = p at HIA hpl HPL HPE
        obtain ⟨m, hm⟩ : ∃ m, zs.length = m := ⟨_, rfl⟩
        rw [hm] at HO HL HIA hpl HPE ⊢
        have HMM := hide hm
        have hcx : m ≤ cx := by
          rcases HO.out.2 with ⟨q1, q2⟩ | ⟨_, _, _, q1, _, _, q2, _⟩
          · simp only [Value.slice.injEq] at q1; omega
          · simp only [Value.slice.injEq] at q1; rw [HMM.out] at q2; omega
        have HC := hide HO.out.cells.2
        have HRJ := hide HO.out.rdj
        have HNI : Hid (ax = none → m = 0 ∧ cx = 0) := fun e => by
          rcases HO.out.2 with ⟨q1, _⟩ | ⟨_, _, _, q1, _⟩
          · simp only [Value.slice.injEq] at q1; exact ⟨q1.2.1, q1.2.2⟩
          · simp only [Value.slice.injEq] at q1; rw [e] at q1; cases q1.1
        clear hm
        have hmb : m ≤ 8796093022000 := by have := HL.out; omega
        rename World => V0
        go_wp2_with (go_at_call 28; refine (HM.out _).mono ?_; rintro e w1 ⟨rfl, hq⟩; obtain rfl := hq.symm)
        go_loopw [9] (fun s9 wr => ∃ k : Nat, k ≤ p ∧ .int .i64 (k : Int) = s9 ∧ V0 = wr) (fun s9 _ => p - (intOf s9).toNat)
        case atStart => exact ⟨0, by omega, rfl, rfl⟩
        case round =>
          obtain ⟨k, hk, rfl, rfl⟩ := hrel
          have hk0 : (0 : Int) ≤ (k : Int) := by omega
          have hkb : k ≤ 8796093022000 := by omega
          have hkw : IntKind.i64.wrap ((k : Int) + 1) = (k : Int) + 1 := by rw [IntKind.wrap_i64]; omega
          by_cases hkp : k < p
          · have hkm : (k : Int) < (m : Int) := by omega
            obtain ⟨g, rfl, hgl, hc⟩ := HC.out (by omega)
            have hck := hc k (by omega)
            have hlt := HPL.out k hkp
            generalize zs.getD k 0 = zk at hck hlt
            clear hc
            go_wp2_with fail
            go_roundw
            case rel => exact ⟨k + 1, by omega, by go_num, by first | rfl | trivial⟩
            case measure => (simp [intOf] <;> omega)
          · have hkp2 : k = p := by omega
            subst hkp2
            by_cases hpm : k < m
            · have hkm : (k : Int) < (m : Int) := by omega
              obtain ⟨g, rfl, hgl, hc⟩ := HC.out (by omega)
              have hck := hc k (by omega)
              have hlt := HPE.out hpm
              obtain ⟨zk, hzk⟩ : ∃ zk, zs.getD k 0 = zk := ⟨_, rfl⟩
              rw [hzk] at hck hlt
              clear hc
              by_cases hev : zk = v
              · have hev2 : (zk == v) = true := beq_iff_eq.2 hev
                have HE2 : Hid (insU zs v = zs) := by show _ = _; rw [HIA.out, if_pos ⟨hpm, by rw [hzk]; exact hev⟩]
                clear hev
                go_wp2_with fail
                go_roundw
                case rel => exact ⟨i + 1, _, _, _, _, _, by omega, rfl, by go_num, rfl, rfl, rfl, rfl, by rw [HE.out, HE2.out]; exact HO.out, HB.out⟩
                case measure => (simp [intOf] <;> omega)
              · have hev2 : (zk == v) = false := beq_eq_false_iff_ne.2 hev
                have HEV : Hid (¬ (k < m ∧ zs.getD k 0 = v)) := fun h => hev (by rw [← hzk]; exact h.2)
                clear hev hzk
                have hst := slice_to (some ⟨g, 0, none⟩) m cx k (by omega)
                have hsf := slice_from (some ⟨g, 0, none⟩) m cx k hpl hcx
                have HNL : Hid (laE (some ⟨g, 0, none⟩) cx k = none → m - k = 0 ∧ cx - k = 0) := fun e => by
                  unfold laE at e
                  split at e
                  · have := HNI.out e; omega
                  · cases e
                have HNT : Hid ((some (⟨g, 0, none⟩ : Addr)) = none → k = 0 ∧ cx = 0) := fun e => by have := HNI.out e; exact ⟨by omega, this.2⟩
                have HTK : Hid ((zs.take k).length = k) := by show _ = _; rw [List.length_take, HMM.out]; omega
                go_wp2_with (first
                  | (at_builtin; refine joinJ V0 rfl (.tmp 60) (.tmp 63) rfl V0.heap.size (.slice none 0 0) [] rfl (ownj_none _ _) (some ⟨g, 0, none⟩) k cx (zs.take k) rfl (HRJ.out.to k hpl) HNT.out (by have := HL.out; simp; omega) (Nat.le_refl _) ?_; intro v2 w2 ho2 hg2; rw [List.nil_append] at ho2; have HO2 := hide ho2; have HB2 := hide ((Below.refl V0.heap.size V0).grown hg2 (Nat.le_refl _) (fun k e => by cases e)); clear ho2 hg2; obtain ⟨wa, hwa⟩ : ∃ wa, w2.alloc (.cells #[.int .i64 v] 2) = wa := ⟨_, rfl⟩; have HBA : Hid (Below w2.heap.size w2 wa) := (by rw [← hwa]; exact (Below.refl _ _).alloc (Nat.le_refl _) _); have HCA : Hid (wa.cell? ((⟨w2.heap.size, 0, none⟩ : Addr).add 0) = some (.int .i64 v)) := (by rw [← hwa]; show _ = _; simp [World.cell?_alloc_mark, Addr.add]))
                  | (at_builtin; refine pushJ wa rfl (.tmp 65) (.tmp 67) rfl V0.heap.size v2 (zs.take k) rfl (HO2.out.below HBA.out) ⟨w2.heap.size, 0, none⟩ 1 v rfl HCA.out (by have := HL.out; have := HTK.out; omega) (by have := HB2.out.size; have := HBA.out.size; omega) ?_; intro v3 w3 ho3 hg3; have HO3 := hide ho3; have HB3 := hide ((below_trans HB2.out HBA.out).grown hg3 (below_trans HB2.out HBA.out).size (fun k e => (HO2.out.blk k e).1)); clear ho3 hg3)
                  | (at_builtin; refine joinJ w3 rfl (.tmp 69) (.tmp 72) rfl V0.heap.size v3 (zs.take k ++ [v]) rfl HO3.out (laE (some ⟨g, 0, none⟩) cx k) (m - k) (cx - k) (zs.drop k) rfl ((HRJ.out.from k hpl hcx).below HB3.out) HNL.out (by have := HL.out; have := HTK.out; simp only [List.length_append, List.length_singleton]; omega) HB3.out.size ?_; intro v4 w4 ho4 hg4; have HO4 := hide ho4; have HB4 := hide (HB3.out.grown hg4 HB3.out.size (fun k e => (HO3.out.blk k e).1)); clear ho4 hg4))
                go_roundw
                case rel => exact ⟨i + 1, _, _, _, _, _, by omega, rfl, by go_num, rfl, rfl, rfl, rfl, by rw [HE.out, HIA.out, if_neg HEV.out]; exact HO4.out.mono HB.out.size, HB.out.trans (HB4.out.mono HB.out.size)⟩
                case measure => (simp [intOf] <;> omega)
            · have hkm : ¬ (k : Int) < (m : Int) := by omega
              have hst := slice_to ax m cx k (by omega)
              have hsf := slice_from ax m cx k hpl hcx
              have HNL : Hid (laE ax cx k = none → m - k = 0 ∧ cx - k = 0) := fun e => by
                unfold laE at e
                split at e
                · have := HNI.out e; omega
                · cases hax : ax with
                  | none => have := HNI.out hax; omega
                  | some q => rw [hax] at e; cases e
              have HNT : Hid (ax = none → k = 0 ∧ cx = 0) := fun e => by have := HNI.out e; exact ⟨by omega, this.2⟩
              have HTK : Hid ((zs.take k).length = k) := by show _ = _; rw [List.length_take, HMM.out]; omega
              go_wp2_with (first
                | (at_builtin; refine joinJ V0 rfl (.tmp 60) (.tmp 63) rfl V0.heap.size (.slice none 0 0) [] rfl (ownj_none _ _) ax k cx (zs.take k) rfl (HRJ.out.to k hpl) HNT.out (by have := HL.out; simp; omega) (Nat.le_refl _) ?_; intro v2 w2 ho2 hg2; rw [List.nil_append] at ho2; have HO2 := hide ho2; have HB2 := hide ((Below.refl V0.heap.size V0).grown hg2 (Nat.le_refl _) (fun k e => by cases e)); clear ho2 hg2; obtain ⟨wa, hwa⟩ : ∃ wa, w2.alloc (.cells #[.int .i64 v] 2) = wa := ⟨_, rfl⟩; have HBA : Hid (Below w2.heap.size w2 wa) := (by rw [← hwa]; exact (Below.refl _ _).alloc (Nat.le_refl _) _); have HCA : Hid (wa.cell? ((⟨w2.heap.size, 0, none⟩ : Addr).add 0) = some (.int .i64 v)) := (by rw [← hwa]; show _ = _; simp [World.cell?_alloc_mark, Addr.add]))
                | (at_builtin; refine pushJ wa rfl (.tmp 65) (.tmp 67) rfl V0.heap.size v2 (zs.take k) rfl (HO2.out.below HBA.out) ⟨w2.heap.size, 0, none⟩ 1 v rfl HCA.out (by have := HL.out; have := HTK.out; omega) (by have := HB2.out.size; have := HBA.out.size; omega) ?_; intro v3 w3 ho3 hg3; have HO3 := hide ho3; have HB3 := hide ((below_trans HB2.out HBA.out).grown hg3 (below_trans HB2.out HBA.out).size (fun k e => (HO2.out.blk k e).1)); clear ho3 hg3)
                | (at_builtin; refine joinJ w3 rfl (.tmp 69) (.tmp 72) rfl V0.heap.size v3 (zs.take k ++ [v]) rfl HO3.out (laE ax cx k) (m - k) (cx - k) (zs.drop k) rfl ((HRJ.out.from k hpl hcx).below HB3.out) HNL.out (by have := HL.out; have := HTK.out; simp only [List.length_append, List.length_singleton]; omega) HB3.out.size ?_; intro v4 w4 ho4 hg4; have HO4 := hide ho4; have HB4 := hide (HB3.out.grown hg4 HB3.out.size (fun k e => (HO3.out.blk k e).1)); clear ho4 hg4))
              go_roundw
              case rel => exact ⟨i + 1, _, _, _, _, _, by omega, rfl, by go_num, rfl, rfl, rfl, rfl, by rw [HE.out, HIA.out, if_neg (fun h => by omega)]; exact HO4.out.mono HB.out.size, HB.out.trans (HB4.out.mono HB.out.size)⟩
              case measure => (simp [intOf] <;> omega)
    · have hii : ¬ (i : Int) < (n : Int) := by omega
      have hie : i = n := by omega
      subst hie
      have HE : Hid (ss.take i = ss) := by show _ = _; rw [List.take_of_length_le (by rw [HN.out]; exact Nat.le_refl _)]
      rw [HE.out] at HO
      have HTT : Hid (riseS ss = (riseL (numsL ss)).map dec) := rfl
      have hyl : (riseL (numsL ss)).length ≤ 8796093022000 := by
        have h1 := riseL_len (numsL ss)
        have h2 := numsL_len ss
        have h3 := HN.out
        omega
      generalize riseL (numsL ss) = ys at HO HIN hyl HTT
      obtain ⟨ax, cx, rfl⟩ := HO.out.shape
      obtain ⟨m, hm⟩ : ∃ m, ys.length = m := ⟨_, rfl⟩
      rw [hm] at HO hyl
      simp only [hm]
      have HMM := hide hm
      have HC := hide HO.out.cells.2
      rename World => V0
      clear hm HE
      go_wp2_with fail
      go_loopw [11, 12] (fun s11 s12 wr => ∃ (r : Nat) (x : Value), r ≤ m ∧ x = s11 ∧ .int .i64 (r : Int) = s12 ∧ Hid (OwnS wr V0.heap.size x ((ys.take r).map dec)) ∧ Hid (Below V0.heap.size V0 wr)) (fun _ s12 _ => m - (intOf s12).toNat)
      case atStart => exact ⟨0, _, by omega, rfl, rfl, Pa.owns_none _ _, Below.refl _ _⟩
      case round =>
        obtain ⟨r, x, hr, rfl, rfl, HX, HBX⟩ := hrel
        by_cases hrm : r < m
        · have hrr : (r : Int) < (m : Int) := by omega
          have hr0 : (0 : Int) ≤ (r : Int) := by omega
          have hrb : r ≤ 8796093022000 := by omega
          have hrw : IntKind.i64.wrap ((r : Int) + 1) = (r : Int) + 1 := by rw [IntKind.wrap_i64]; omega
          have hly : r < ys.length := by rw [HMM.out]; exact hrm
          obtain ⟨g, rfl, hgl, hc⟩ := HC.out (by omega)
          have hcell := (HBX.out.cell (p := ⟨g, r, none⟩) hgl).trans (hc r hrm)
          have HT := hide (takeI ys r hly)
          have HZ2 := hide (HIN.out _ (getI_mem hly))
          generalize ys.getD r 0 = z at hcell HT HZ2
          have HE : Hid ((ys.take (r + 1)).map dec = (ys.take r).map dec ++ [dec z]) := by show _ = _; rw [HT.out, List.map_append]; rfl
          have HLN : Hid (((ys.take r).map dec).length ≤ r) := by show _ ≤ _; rw [List.length_map, List.length_take]; omega
          have HDC := hide (fun W => decimal_any z HZ2.out W)
          generalize dec z = D at HDC HE
          clear hc
          go_wp2_with (first
            | (go_at_call 25; refine (HDC.out _).mono ?_; rintro e w4 ⟨rfl, hq⟩; obtain rfl := hq.symm; obtain ⟨wa, hwa⟩ : ∃ wa, wr.alloc (.cells #[.string D] 9) = wa := ⟨_, rfl⟩; have HBA : Hid (Below wr.heap.size wr wa) := (by rw [← hwa]; exact (Below.refl _ _).alloc (Nat.le_refl _) _); have HCA : Hid (wa.cell? ((⟨wr.heap.size, 0, none⟩ : Addr).add 0) = some (.string D)) := (by rw [← hwa]; show _ = _; simp [World.cell?_alloc_mark, Addr.add]))
            | (at_builtin; refine Pa.pushS wa rfl _ _ rfl V0.heap.size x ((ys.take r).map dec) rfl (HX.out.below HBA.out) ⟨wr.heap.size, 0, none⟩ 1 D rfl HCA.out (by have := HLN.out; omega) (by have := HBX.out.size; have := HBA.out.size; omega) ?_; intro v5 w5 ho5 hg5; have HO5 := hide ho5; have HB5 := hide ((below_trans HBX.out HBA.out).grown hg5 (below_trans HBX.out HBA.out).size (fun k e => (HX.out.blk k e).1)); clear ho5 hg5))
          go_roundw
          case rel => exact ⟨r + 1, _, by omega, rfl, by go_num, by rw [HE.out]; exact HO5.out, HB5.out⟩
          case measure => (simp [intOf] <;> omega)
        · have hrr : ¬ (r : Int) < (m : Int) := by omega
          have hre : r = m := by omega
          subst hre
          have HE2 : Hid (ys.take r = ys) := by show _ = _; rw [List.take_of_length_le (by rw [HMM.out]; exact Nat.le_refl _)]
          go_wp2_with fail
          go_ret
          have h := HX.out
          rw [HE2.out] at h
          rw [HTT.out]
          exact ⟨_, rfl, Pa.OwnS.mono h HB.out.size, HB.out.trans (HBX.out.mono HB.out.size)⟩
end Go.Proofs.YtficnlglofgekaaDoor.Jb
