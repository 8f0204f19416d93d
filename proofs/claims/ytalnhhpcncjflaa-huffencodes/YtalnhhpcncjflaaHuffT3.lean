/-
  The document's paired.
-/
import Derived.Test.YtalnhhpcncjflaaHuffT1
import Derived.Test.YtalnhhpcncjflaaHuffQ2
namespace Go.Proofs.Ytalnhhpcncjflaa.Pm
open Go.ChangeShapes Go.WideShapes Go.ChangeAt Go.RowKit
open Go.Proofs.Ytalnhhpcncjflaa.Base
set_option linter.unusedVariables false
theorem pair_step {rs : List Pk} {p : Nat} (h : p + 1 < rs.length) : paired (rs.drop p) = both (rs.getD p (0, [])) (rs.getD (p + 1) (0, [])) :: paired (rs.drop (p + 2)) := by
  have e1 : rs.getD p (0, []) = rs[p] := by rw [List.getD_eq_getElem?_getD, List.getElem?_eq_getElem (by omega)]; rfl
  have e2 : rs.getD (p + 1) (0, []) = rs[p + 1] := by rw [List.getD_eq_getElem?_getD, List.getElem?_eq_getElem h]; rfl
  rw [List.drop_eq_getElem_cons (by omega), List.drop_eq_getElem_cons h, e1, e2]
  rfl
theorem pair_end {rs : List Pk} {p : Nat} (h : ¬ p + 1 < rs.length) : paired (rs.drop p) = [] := by
  by_cases hp : p < rs.length
  · rw [List.drop_eq_getElem_cons hp, List.drop_eq_nil_of_le (by omega)]; rfl
  · rw [List.drop_eq_nil_of_le (by omega)]; rfl
set_option maxHeartbeats 2000000 in
set_option maxRecDepth 100000 in
theorem refPaired_any (a : Option Addr) (la ca : Nat) (rs : List Pk) (w : World) (hr : RdR w a la rs) (hn : la ≤ 2000) (hf : ∀ i, i + 1 < la → (rs.getD i (0, [])).1 + (rs.getD (i + 1) (0, [])).1 ≤ 4611686018427387904 ∧ ∀ s, (rs.getD i (0, [])).2.getD s 0 + (rs.getD (i + 1) (0, [])).2.getD s 0 ≤ 255) :
    Calls Try.prog 36 #[.slice a la ca] w fun e w' => ∃ v, e = .returned v ∧ OwnR w' w.heap.size v (paired rs) ∧ Below w.heap.size w w' := by
  have HA := hide hr
  obtain ⟨d, hu, hd⟩ := uR
  have HU := hide hu
  obtain ⟨Z, HZ, HI, hz⟩ := zeroR
  clear hr hu
  obtain ⟨g, hg⟩ : ∃ g, w.heap.size = g := ⟨_, rfl⟩
  have HG : Hid (w.heap.size = g) := hg
  have HS0 : Hid (OwnR w g (.slice none 0 0) []) := ownP_none _ _ _ _
  have HB0 : Hid (Below g w w) := Below.refl _ _
  rw [hg]
  clear hg
  go_enter Try.func36, Try.ntmps36
  go_wp2_with fail
  have HZL : Hid (Z.length = 257) := by show _ = _; rw [HZ.out]; exact pcells_len _ (List.length_replicate ..)
  have hzn : Z ≠ [] := by rw [HZ.out]; simp [pcells]
  have HTOT : Hid ((paired rs).length ≤ la) := by
    show _ ≤ _
    rw [← HA.out.1]
    have : ∀ (n : Nat) (r : List Pk), r.length ≤ n → (paired r).length ≤ r.length := by
      intro n
      induction n with
      | zero => intro r h; have : r = [] := List.length_eq_zero_iff.1 (by omega); subst this; simp [paired]
      | succ n ih =>
        intro r h
        match r with
        | [] => simp [paired]
        | [x] => simp [paired]
        | x :: y :: r => have := ih r (by simp at h; omega); simp only [paired, List.length_cons]; omega
    exact this _ _ (Nat.le_refl _)
  go_loopw [3, 4] (fun l i wr => ∃ (p : Nat) (X : List Pk), p ≤ la + 1 ∧ i = .int .i64 (p : Int) ∧ Hid (OwnR wr g l X) ∧ Hid (paired rs = X ++ paired (rs.drop p)) ∧ Hid (Below g w wr)) (fun _ i _ => la + 2 - (intOf i).toNat)
  case atStart => exact ⟨0, [], Nat.zero_le _, rfl, HS0, rfl, HB0⟩
  case round =>
    clear HS0 HB0
    obtain ⟨p, X, hpa, rfl, HO, HM, HB⟩ := hrel
    have HXL : Hid (X.length ≤ 2000) := by
      show _ ≤ _
      have h1 := HTOT.out
      rw [HM.out, List.length_append] at h1
      omega
    have HBw : Hid (Below w.heap.size w wr) := by rw [HG.out]; exact HB.out
    have hsz : g ≤ wr.heap.size := by rw [← HG.out]; exact HB.out.size
    by_cases hlt : p + 1 < la
    · have hpi : (p : Int) + 1 < (la : Int) := by omega
      have hpj : (p : Int) < (la : Int) := by omega
      have hla : (la : Int) ≤ 2000 := by omega
      have hp0 : (0 : Int) ≤ (p : Int) + 1 := by omega
      have hp1 : ¬ (p : Int) + 1 < 0 := by omega
      have hpw : IntKind.i64.wrap ((p : Int) + 1) = (p : Int) + 1 := by rw [IntKind.wrap_i64]; omega
      have hpt : ((p : Int) + 1).toNat = p + 1 := by omega
      obtain ⟨b1, o1, rfl, hb1, hc1⟩ := HA.out.2.2 (by omega)
      rw [pair_step (by rw [HA.out.1]; exact hlt)] at HM
      obtain ⟨hf1, hf2⟩ := hf p hlt
      have hb1w : b1 < wr.heap.size := Nat.lt_of_lt_of_le hb1 HBw.out.size
      have HX : Hid (wr.rangeAt b1 (o1 + p * 257) (pcells .i64 (rs.getD p (0, [])))) := range_below (range_one hc1 HA.out.2.1 p (by rw [HA.out.1]; omega)) HBw.out hb1
      have HY : Hid (wr.rangeAt b1 (o1 + (p + 1) * 257) (pcells .i64 (rs.getD (p + 1) (0, [])))) := range_below (range_one hc1 HA.out.2.1 (p + 1) (by rw [HA.out.1]; omega)) HBw.out hb1
      have HLX : Hid ((rs.getD p (0, [])).2.length = 256) := wide_get HA.out.2.1 p (by rw [HA.out.1]; omega)
      have HLY : Hid ((rs.getD (p + 1) (0, [])).2.length = 256) := wide_get HA.out.2.1 (p + 1) (by rw [HA.out.1]; omega)
      generalize rs.getD p (0, []) = x at HM hf1 hf2 HX HLX
      generalize rs.getD (p + 1) (0, []) = y at HM hf1 hf2 HY HLY
      have HT := hide hf2
      have c1 := HX.out 0 _ (pcells_w _ x)
      have c2 := HY.out 0 _ (pcells_w _ y)
      rw [Nat.add_zero] at c1 c2
      obtain ⟨W1, hW1⟩ : ∃ W1, x.1 = W1 := ⟨_, rfl⟩
      obtain ⟨W2, hW2⟩ : ∃ W2, y.1 = W2 := ⟨_, rfl⟩
      rw [hW1] at c1 hf1
      rw [hW2] at c2 hf1
      obtain ⟨S, hS⟩ : ∃ S : Nat, W1 + W2 = S := ⟨_, rfl⟩
      have hSi : IntKind.i64.wrap ((W1 : Int) + (W2 : Int)) = (S : Int) := by rw [IntKind.wrap_i64]; omega
      obtain ⟨E, hE⟩ : ∃ E, pcells .i64 (S, zpack.2) = E := ⟨_, rfl⟩
      have hset : Z.set 0 (.int .i64 (S : Int)) = E := by rw [← hE, HZ.out]; rfl
      have HS0 : Hid ((S, zpack.2) = sumsTo x y 0) := sumsTo_zero x y S (by rw [hW1, hW2, hS])
      have HEL : Hid (E.length = 257) := by show _ = _; rw [← hE]; exact pcells_len _ (List.length_replicate ..)
      have HE1 : Hid (∀ v ∈ E, v.oneCell' = true) := by rw [← hE]; exact pcells_one _ _
      have n1 := World.new_ne wr _ c1
      have n2 := World.new_ne wr _ c2
      have HTH : Hid ((wr.alloc (.cells Z.toArray 68)).drew.there wr.heap.size 0 257) := (World.there_drew _ _ _ _).2 (there_new wr Z _ HZL.out)
      have hst := storeC _ _ _ E 257 HEL.out HTH.out HE1.out
      have HBA : Hid (Below g w ((wr.alloc (.cells Z.toArray 68)).drew)) := (HB.out.alloc hsz _).drew
      have HB5 : Hid (Below g w (((wr.alloc (.cells Z.toArray 68)).drew).setCells wr.heap.size 0 E)) := below_setCells E HBA.out (by rw [← HG.out]; exact HBA.out.size) hsz
      have HP5 : Hid (PBlk 68 .i64 (((wr.alloc (.cells Z.toArray 68)).drew).setCells wr.heap.size 0 E) wr.heap.size (sumsTo x y 0)) := by
        show PBlk _ _ _ _ _
        have e : E = pcells .i64 (sumsTo x y 0) := by rw [← HS0.out, hE]
        rw [e]
        exact pblk_set (cs := Z) (heap_alloc_new wr (.cells Z.toArray 68)) (by rw [HZL.out, ← e, HEL.out])
      have HGR : Hid (wr.grownBy (((wr.alloc (.cells Z.toArray 68)).drew).setCells wr.heap.size 0 E) none) := by
        have h1 := grown_setCells E 0 ((wr.alloc (.cells Z.toArray 68)).drew) (w0 := wr) (b := wr.heap.size) (by
          have h0 := World.grownBy_alloc wr (.cells Z.toArray 68) (some wr.heap.size)
          exact ⟨h0.os, h0.tape, h0.output, h0.size, h0.block⟩)
        exact ⟨h1.os, h1.tape, h1.output, h1.size, fun i hi _ => h1.block i hi (fun e => by have := Option.some.inj e; omega)⟩
      have HO5 : Hid (OwnR (((wr.alloc (.cells Z.toArray 68)).drew).setCells wr.heap.size 0 E) g u3 X) := HO.out.keep HGR.out (fun i _ => by simp)
      have HX5 : Hid ((((wr.alloc (.cells Z.toArray 68)).drew).setCells wr.heap.size 0 E).rangeAt b1 (o1 + p * 257) (pcells .i64 x)) := range_grown HX.out HGR.out (by simp)
      have HY5 : Hid ((((wr.alloc (.cells Z.toArray 68)).drew).setCells wr.heap.size 0 E).rangeAt b1 (o1 + (p + 1) * 257) (pcells .i64 y)) := range_grown HY.out HGR.out (by simp)
      have hs5 := HGR.out.size
      obtain ⟨w5, hw5⟩ : ∃ w5, ((wr.alloc (.cells Z.toArray 68)).drew).setCells wr.heap.size 0 E = w5 := ⟨_, rfl⟩
      rw [hw5] at hst HB5 HP5 HO5 HX5 HY5 hs5
      have k1 := HX5.out 0 _ (pcells_w _ x)
      have k2 := HY5.out 0 _ (pcells_w _ y)
      rw [Nat.add_zero, hW1] at k1
      rw [Nat.add_zero, hW2] at k2
      have HOW := hide HO.out
      clear hE hS hW1 hW2 hf2 hw5 HBA HTH HGR HX HY hc1 HO HB
      go_wp2_with fail
      go_region_held (fun V => V.cell? ⟨b1, o1 + p * 257, none⟩ = some (.int .i64 (W1 : Int)) ∧ V.cell? ⟨b1, o1 + (p + 1) * 257, none⟩ = some (.int .i64 (W2 : Int))) (first | exact ⟨k1, k2⟩ | go_keep) (fail)
      clear hst k1 k2 c1 c2 n1 n2 hset hSi
      have HOB : Hid (∀ i, u3.ownBlock = some i → i < wr.heap.size) := fun i e => (HOW.out.2.lt i e).2
      obtain ⟨gx, hgx⟩ : ∃ gx, wr.heap.size = gx := ⟨_, rfl⟩
      rw [hgx] at HP5 HOB hb1w hsz ⊢
      have HG5 : Hid (w5.grownBy w5 (some gx)) := World.grownBy.refl _ _
      clear hgx HS0 HEL HE1
      go_wp2_with fail
      go_loopw [6] (fun i wz => ∃ k : Nat, k ≤ 256 ∧ i = .int .i64 (k : Int) ∧ Hid (PBlk 68 .i64 wz gx (sumsTo x y k)) ∧ Hid (w5.grownBy wz (some gx))) (fun i _ => 256 - (intOf i).toNat)
      case atStart => exact ⟨0, by omega, rfl, HP5, HG5⟩
      case round =>
        clear HP5 HG5
        obtain ⟨k, hk, rfl, HP, HGZ⟩ := hrel
        by_cases hkt : k < 256
        · have RX := range_grown HX5.out HGZ.out (fun e => by have := Option.some.inj e; omega)
          have RY := range_grown HY5.out HGZ.out (fun e => by have := Option.some.inj e; omega)
          have c1 := RX (1 + k) _ (pcells_t .i64 x k (by rw [HLX.out]; exact hkt))
          have c2 := RY (1 + k) _ (pcells_t .i64 y k (by rw [HLY.out]; exact hkt))
          have hs := HT.out k
          obtain ⟨A, hA⟩ : ∃ A, x.2.getD k 0 = A := ⟨_, rfl⟩
          obtain ⟨B, hB⟩ : ∃ B, y.2.getD k 0 = B := ⟨_, rfl⟩
          obtain ⟨C, hC⟩ : ∃ C, A + B = C := ⟨_, rfl⟩
          have HN := hide (sumsTo_set x y HLX.out HLY.out k hkt C (by rw [hA, hB, hC]))
          rw [hA] at c1 hs
          rw [hB] at c2 hs
          have hw8 : IntKind.i64.wrap ((A : Int) + (B : Int)) = (C : Int) := by rw [IntKind.wrap_i64]; omega
          have hw9 : (A : Int) + (B : Int) = (C : Int) := by omega
          have hC5 : (C : Int) ≤ 255 := by omega
          have HC6 : Hid (wrap64 (C : Int) = (C : Int)) := by show _ = _; unfold wrap64; omega
          rw [← Nat.add_assoc] at c1 c2
          have f3 := HP.out.frozen (1 + k)
          have c3 := HP.out.t k (by rw [sumsTo_len x y HLX.out HLY.out k hk]; exact hkt)
          generalize (sumsTo x y k).2.getD k 0 = D at c3
          have hki : (k : Int) < 256 := by omega
          have HS := hide (HP.out.setT k C)
          rw [HN.out] at HS
          have m1 : gx ≠ b1 := by omega
          clear hA hB hC hs RX RY
          go_wp2_with fail
          go_region_held (fun V => V.cell? ⟨b1, o1 + p * 257 + 1 + k, none⟩ = some (.int .i64 (A : Int)) ∧ V.cell? ⟨b1, o1 + (p + 1) * 257 + 1 + k, none⟩ = some (.int .i64 (B : Int))) (go_keep) (fail)
          go_wp2_with fail
          go_roundw
          case rel => exact ⟨k + 1, by omega, by go_num, HS.out, by have h0 := grown_cell HGZ.out (1 + k) (.int .i64 (C : Int)); exact ⟨h0.os, h0.tape, h0.output, h0.size, h0.block⟩⟩
          case measure => simp [intOf]; omega
        · obtain rfl : k = 256 := by omega
          have HPB : Hid (PBlk 68 .i64 wr gx (both x y)) := by rw [← sumsTo_all x y HLX.out HLY.out]; exact HP.out
          have HRA := hide HPB.out.range
          have HBL : Hid ((both x y).2.length = 256) := both_len x y HLX.out HLY.out
          have HLN : Hid ((pcells .i64 (both x y)).length = 257) := pcells_len _ HBL.out
          have I1 : Hid ((Try.prog.info? 68).map (·.size) = some (pcells .i64 (both x y)).length) := by show _ = _; rw [HLN.out]; exact sizeR
          have HO7 : Hid (OwnR wr g u3 X) := HO5.out.keep HGZ.out (fun i e h => by have := HOB.out i e; have := Option.some.inj h; omega)
          have HB7 : Hid (Below g w wr) := HB5.out.grown HGZ.out (by rw [← HG.out]; exact HB5.out.size) (fun i e => by cases e; exact hsz)
          have hs7 : g ≤ wr.heap.size := by rw [← HG.out]; exact HB7.out.size
          have HM2 : Hid (paired rs = (X ++ [both x y]) ++ paired (rs.drop (p + 2))) := by show _ = _; rw [HM.out, List.append_assoc]; rfl
          obtain ⟨V, hV⟩ : ∃ V, pcells .i64 (both x y) = V := ⟨_, rfl⟩
          have HV := hide hV
          rw [hV] at HRA HLN I1
          have hki : ¬ (256 : Int) < 256 := by omega
          clear hV HPB HP HGZ
          go_wp2_with (first
            | (refine wpList_load_mid rfl 68 (.tmp 5) rfl gx 0 rfl V _ HRA.out HU.out hd I1.out ?_)
            | (refine wpList_buildR rfl (.tmp 51) rfl V HLN.out rfl ?_)
            | (refine joinR _ rfl (.tmp 50) (.tmp 52) rfl g u3 X rfl (HO7.out.below ((Below.refl _ _).alloc (Nat.le_refl _) _)) (some ⟨wr.heap.size, 0, none⟩) 1 1 [both x y] rfl (rdr_new wr (both x y) HBL.out V HV.out) (fun h => by cases h) (by have := HXL.out; omega) (Nat.le_trans hs7 (by simp)) ?_
               intro v9 w9 ho9 hg9))
          have HO9 := hide ho9
          have HB9 : Hid (Below g w w9) := (HB7.out.alloc hs7 _).grown hg9 (Nat.le_trans hs7 (by simp)) (fun i e => (HO7.out.2.lt i e).1)
          clear ho9 hg9
          go_wp2_with fail
          go_roundw
          case rel => exact ⟨p + 2, X ++ [both x y], by omega, by go_num, HO9, HM2, HB9⟩
          case measure => simp [intOf]; omega
    · have hpi : ¬ (p : Int) + 1 < (la : Int) := by omega
      rw [pair_end (by rw [HA.out.1]; exact hlt), List.append_nil] at HM
      have HOF : Hid (OwnR wr g u3 (paired rs)) := by rw [HM.out]; exact HO.out
      have hla : (la : Int) ≤ 2000 := by omega
      have hp2 : (p : Int) ≤ 2001 := by omega
      go_wp2_with fail
      go_ret
      exact ⟨_, rfl, HOF.out, HB.out⟩
end Go.Proofs.Ytalnhhpcncjflaa.Pm
