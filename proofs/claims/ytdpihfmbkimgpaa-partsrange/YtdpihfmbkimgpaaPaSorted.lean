/-
  The document's sorted: each text is laid ahead of the first one that is above it.
-/
import Derived.Test.YtdpihfmbkimgpaaPaOrd
namespace Go.Proofs.Ytdpihfmbkimgpaa.Pa
open Go.ChangeShapes Go.WideShapes Go.ChangeAt Go.RowKit
open Go.Proofs.Ytdpihfmbkimgpaa.Base Go.Proofs.Ytdpihfmbkimgpaa.Nums
set_option linter.unusedVariables false
theorem refCompareB (s t : ByteArray) (w : World) (hs : s.size ≤ 9223372036854775807) (ht : t.size ≤ 9223372036854775807) :
    Calls Try.prog 40 #[.string s, .string t] w fun e w' => e = .returned (.int .i64 (cmpT s t)) ∧ Below w.heap.size w w' := refCompare_any s t w hs ht
/-- The texts with a gap at the place j, those behind it moved on by one. -/
def gap (T : List ByteArray) (j : Nat) (y : ByteArray) : List ByteArray := T.take j ++ y :: T.drop j
theorem gap_len (T : List ByteArray) (j : Nat) (y : ByteArray) (h : j ≤ T.length) : (gap T j y).length = T.length + 1 := by
  unfold gap; rw [List.length_append, List.length_take, List.length_cons, List.length_drop]; omega
theorem gap_end (T : List ByteArray) (y : ByteArray) : gap T T.length y = T ++ [y] := by
  unfold gap; rw [List.take_length, List.drop_length]
theorem gap_set (T : List ByteArray) (j : Nat) (y z : ByteArray) (h : j ≤ T.length) : (gap T j y).set j z = gap T j z := by
  unfold gap
  have hl : (T.take j).length = j := by rw [List.length_take]; omega
  rw [List.set_append_right _ _ (by omega), hl, Nat.sub_self, List.set_cons_zero]
theorem gap_prev (T : List ByteArray) (j : Nat) (h : j < T.length) : gap T (j + 1) (T.getD j ⟨#[]⟩) = gap T j (T.getD j ⟨#[]⟩) := by
  unfold gap
  rw [take_snoc T j h, List.append_assoc]
  congr 1
  rw [List.drop_eq_getElem_cons h, List.getD_eq_getElem?_getD, List.getElem?_eq_getElem h]
  rfl
theorem gap_get (T : List ByteArray) (j i : Nat) (y : ByteArray) (h : i < j) (hj : j ≤ T.length) : (gap T j y).getD i ⟨#[]⟩ = T.getD i ⟨#[]⟩ := by
  unfold gap
  rw [List.getD_eq_getElem?_getD, List.getElem?_append_left (by rw [List.length_take]; omega), List.getElem?_take, if_pos h, List.getD_eq_getElem?_getD]
theorem gap_perm (T : List ByteArray) (j : Nat) (s : ByteArray) : (gap T j s).Perm (T ++ [s]) := by
  unfold gap
  refine (List.perm_middle).trans ?_
  rw [List.take_append_drop]
  exact (List.perm_append_singleton s T).symm
theorem gap_sorted (T : List ByteArray) (j : Nat) (s : ByteArray) (hT : T.Pairwise fun x y => cmpT x y ≤ 0) (hj : j ≤ T.length) (h1 : 0 < j → cmpT (T.getD (j - 1) ⟨#[]⟩) s ≤ 0) (h2 : ∀ i, j ≤ i → i < T.length → 0 < cmpT (T.getD i ⟨#[]⟩) s) : (gap T j s).Pairwise fun x y => cmpT x y ≤ 0 := by
  unfold gap
  have hsplit : (T.take j ++ T.drop j).Pairwise fun x y => cmpT x y ≤ 0 := by rw [List.take_append_drop]; exact hT
  rw [List.pairwise_append] at hsplit ⊢
  obtain ⟨ha, hb, hab⟩ := hsplit
  have hs2 : ∀ y ∈ T.drop j, cmpT s y ≤ 0 := by
    intro y hy
    obtain ⟨i, hi, rfl⟩ := List.getElem_of_mem hy
    rw [List.getElem_drop]
    rw [List.length_drop] at hi
    have := h2 (j + i) (by omega) (by omega)
    rw [List.getD_eq_getElem?_getD, List.getElem?_eq_getElem (by omega)] at this
    have e : (some T[j + i]).getD (⟨#[]⟩ : ByteArray) = T[j + i] := rfl
    rw [e] at this
    have := cmpT_swap T[j + i] s
    omega
  have hs1 : ∀ x ∈ T.take j, cmpT x s ≤ 0 := by
    intro x hx
    obtain ⟨i, hi, rfl⟩ := List.getElem_of_mem hx
    rw [List.getElem_take]
    rw [List.length_take] at hi
    have h3 := h1 (by omega)
    rw [List.getD_eq_getElem?_getD, List.getElem?_eq_getElem (by omega)] at h3
    have e : (some (T[j - 1]'(by omega))).getD (⟨#[]⟩ : ByteArray) = T[j - 1]'(by omega) := rfl
    rw [e] at h3
    by_cases hij : i = j - 1
    · subst hij; exact h3
    · exact cmpT_trans (List.pairwise_iff_getElem.1 hT i (j - 1) (by omega) (by omega) (by omega)) h3
  refine ⟨ha, List.pairwise_cons.2 ⟨hs2, hb⟩, ?_⟩
  intro x hx y hy
  rcases List.mem_cons.1 hy with rfl | h
  · exact hs1 x hx
  · exact hab x hx y h
set_option maxHeartbeats 2000000 in
set_option maxRecDepth 100000 in
theorem sorted_any (a : Option Addr) (len cap : Nat) (ss : List ByteArray) (w : World) (hr : RdS w a len ss) (hl : len ≤ 65536) :
    Calls Try.prog 35 #[.slice a len cap] w fun e w' => ∃ v, e = .returned v ∧ OwnS w' w.heap.size v (srt ss) ∧ Below w.heap.size w w' := by
  have H0 := hide hr
  have HSL := hide hr.1
  clear hr
  go_enter Try.func35, Try.ntmps35
  go_wp2_with fail
  go_loopw [3, 4] (fun v i wr => ∃ (k : Nat) (T : List ByteArray), k ≤ len ∧ i = .int .i64 (k : Int) ∧ Hid (T.Perm (ss.take k)) ∧ Hid (T.Pairwise fun x y => cmpT x y ≤ 0) ∧ Hid (OwnS wr w.heap.size v T) ∧ Hid (Below w.heap.size w wr)) (fun v i _ => len - (intOf i).toNat)
  case atStart => exact ⟨0, [], Nat.zero_le _, rfl, List.Perm.refl _, List.Pairwise.nil, owns_none _ _, Below.refl _ _⟩
  case round =>
    rename World => V0
    obtain ⟨k, T, hk, rfl, HP, HS, HO, HB⟩ := hrel
    obtain ⟨a1, c1, rfl⟩ := HO.out.shape
    by_cases hlt : k < len
    · have hki : (k : Int) < (len : Int) := by omega
      obtain ⟨b2, o2, rfl, hb2l, hc2⟩ := (H0.out.below HB.out).2.2.2 (by omega)
      have kc := hc2 k hlt
      have HKL : Hid (b2 < V0.heap.size) := hb2l
      have HKO : Hid (b2 < w.heap.size) := by
        obtain ⟨b9, o9, e9, h9, _⟩ := H0.out.2.2.2 (by omega)
        cases e9; exact h9
      have HSZ := hide (H0.out.2.2.1 _ (getS_mem (i := k) (by rw [HSL.out]; exact hlt)))
      have HTK := hide (take_snoc ss k (by rw [HSL.out]; exact hlt))
      generalize ss.getD k ⟨#[]⟩ = s at kc HSZ HTK
      have KC := hide kc
      clear hc2
      have hN0 : T.length = k := by rw [HP.out.length_eq, List.length_take, HSL.out]; omega
      have HTZ : Hid (∀ t ∈ T, t.size ≤ 9223372036854775807) := fun t ht => H0.out.2.2.1 t (List.mem_of_mem_take (HP.out.mem_iff.1 ht))
      have HNL := hide hN0
      rw [hN0] at HO ⊢
      clear hN0
      go_wp2_with fail
      have KC0 : Hid (w.cell? ⟨b2, o2 + k, none⟩ = some (.string s)) := hide ((HB.out.cell (p := ⟨b2, o2 + k, none⟩) HKO.out).symm.trans KC.out)
      go_loopw [5] (fun i wr => ∃ p : Nat, p ≤ k ∧ i = .int .i64 (p : Int) ∧ Hid (∀ i, p ≤ i → i < T.length → 0 < cmpT (T.getD i ⟨#[]⟩) s) ∧ Hid (Below V0.heap.size V0 wr)) (fun i _ => (intOf i).toNat)
      case atStart => exact ⟨k, Nat.le_refl _, rfl, fun i h1 h2 => absurd h2 (by rw [HNL.out]; omega), Below.refl _ _⟩
      case round =>
        obtain ⟨p, hp, rfl, HA, HBW⟩ := hrel
        cases p with
        | zero =>
          have HFS := hide (gap_sorted T 0 s HS.out (Nat.zero_le _) (fun h => absurd h (by omega)) HA.out)
          go_wp2_with fail
          go_quiet (fail)
          have HBW0 := hide (below_trans HBW.out (below_drewN' wr.heap.size wr nq))
          have hW0 : ∃ W0, W0 = wr.drewN nq := ⟨_, rfl⟩
          obtain ⟨W0, hW0⟩ := hW0
          rw [← hW0] at HBW0 ⊢
          clear hW0 HBW
          have HBW := hide HBW0.out
          have HOW := hide (HO.out.below HBW.out)
          have HB1 := hide (below_trans HB.out HBW.out)
          obtain ⟨W1, hW1⟩ : ∃ W1, W0 = W1 := ⟨_, rfl⟩
          rw [hW1] at HOW HB1 ⊢
          clear hW1 HBW0 HBW
          go_wp2_with (at_builtin; refine pushS _ rfl _ _ rfl w.heap.size _ T rfl (HOW.out.below ((Below.refl _ _).alloc (Nat.le_refl _) _)) ⟨W1.heap.size, 0, none⟩ 1 ⟨#[]⟩ rfl ?_ (by rw [HNL.out]; omega) (by have := HB1.out.size; simp; omega) ?_
                       · simp [Addr.add]
                       intro v5 w5 ho5 hg5
                       obtain ⟨a5, c5, hv5⟩ := ho5.shape
                       have HB5 := hide ((HB1.out.alloc HB1.out.size _).grown hg5 (by have := HB1.out.size; simp; omega) (fun i e => (HOW.out.blk i e).1))
                       obtain ⟨g5, hg5'⟩ : ∃ g, a5 = some ⟨g, 0, none⟩ := by
                         rcases ho5.2 with ⟨_, h2⟩ | ⟨g, _, _, h1, _⟩
                         · rw [List.length_append, List.length_singleton] at h2; omega
                         · rw [hv5] at h1; simp only [Value.slice.injEq] at h1; exact ⟨g, h1.1⟩
                       rw [List.length_append, List.length_singleton, HNL.out, hg5'] at hv5
                       subst hv5
                       rw [← gap_end, HNL.out] at ho5
                       have HG5 := hide (World.ownsRow.lt ho5 g5 rfl).1
                       have HO5 := hide ho5
                       clear ho5 hg5 hg5')
          go_loopw [6] (fun i wr => ∃ (j : Nat) (y : ByteArray), 0 ≤ j ∧ j ≤ k ∧ i = .int .i64 (j : Int) ∧ Hid (OwnS wr w.heap.size (.slice (some ⟨g5, 0, none⟩) (k + 1) c5) (gap T j y)) ∧ Hid (Below w.heap.size w wr)) (fun i _ => (intOf i).toNat)
          case atStart => exact ⟨k, ⟨#[]⟩, by omega, Nat.le_refl _, by go_num, HO5, HB5⟩
          case round =>
            obtain ⟨j, y, hpj, hjk, rfl, HOj, HBj⟩ := hrel
            by_cases hjl : 0 < j
            · obtain ⟨j', rfl⟩ : ∃ j', j = j' + 1 := ⟨j - 1, by omega⟩
              have cj := HOj.out.cell j' (by omega)
              have cj1 := HOj.out.cell (j' + 1) (by omega)
              have fj := HOj.out.frozen (j' + 1)
              rw [gap_get T (j' + 1) j' y (by omega) (by rw [HNL.out]; omega)] at cj
              have HSt := hide (HOj.out.store (j' + 1) (T.getD j' ⟨#[]⟩))
              have HGS := hide ((gap_set T (j' + 1) y (T.getD j' ⟨#[]⟩) (by rw [HNL.out]; omega)).trans (gap_prev T j' (by rw [HNL.out]; omega)))
              generalize T.getD j' ⟨#[]⟩ = z at cj HSt HGS
              generalize (gap T (j' + 1) y).getD (j' + 1) ⟨#[]⟩ = z2 at cj1
              have i1 : (0 : Int) < (j' : Int) + 1 := by omega
              have i2 : (j' : Int) + 1 < (k : Int) + 1 := by omega
              have i3 : (j' : Int) < (k : Int) + 1 := by omega
              have i6 : (j' : Int) + 1 - 1 = (j' : Int) := by omega
              have i7 : ((j' : Int) + 1).toNat = j' + 1 := by omega
              go_wp2_with fail
              go_roundw
              case rel =>
                refine ⟨j', z, by omega, by omega, by go_num, ?_, HBj.out.setCell HG5.out _⟩
                have h := HSt.out.1
                rw [HGS.out] at h
                exact h
              case measure => (simp [intOf] <;> omega)
            · have hjp : j = 0 := by omega
              subst hjp
              have cj1 := HOj.out.cell 0 (by omega)
              have fj := HOj.out.frozen 0
              have kcj := (HBj.out.cell (p := ⟨b2, o2 + k, none⟩) HKO.out).trans KC0.out
              have HSt := hide (HOj.out.store 0 s)
              have HGS := hide (gap_set T 0 y s (by rw [HNL.out]; omega))
              generalize (gap T 0 y).getD 0 ⟨#[]⟩ = z2 at cj1
              have i1 : ¬ (0 : Int) < (0 : Int) := by omega
              go_wp2_with fail
              go_roundw
              case rel =>
                refine ⟨k + 1, gap T 0 s, by omega, by go_num, ?_, HFS, ?_, HBj.out.setCell HG5.out _⟩
                · show List.Perm _ _
                  rw [HTK.out]
                  exact (gap_perm T _ s).trans (HP.out.append_right [s])
                · have h := HSt.out.1
                  rw [HGS.out] at h
                  exact h
              case measure => (simp [intOf] <;> omega)
        | succ p =>
          have hp1 : p < k := by omega
          obtain ⟨g1, rfl⟩ : ∃ g, a1 = some ⟨g, 0, none⟩ := by
            rcases HO.out.2 with ⟨_, h2⟩ | ⟨g, _, _, h1, _⟩
            · rw [HNL.out] at h2; omega
            · simp only [Value.slice.injEq] at h1; exact ⟨g, h1.1⟩
          have ct0 := HO.out.cell p (by omega)
          have HG1 := hide HO.out.lt'
          have ct : wr.cell? ⟨g1, p, none⟩ = some (.string (T.getD p ⟨#[]⟩)) := (HBW.out.cell (p := ⟨g1, p, none⟩) HG1.out.2).trans ct0
          have ks : wr.cell? ⟨b2, o2 + k, none⟩ = some (.string s) := (HBW.out.cell (p := ⟨b2, o2 + k, none⟩) HKL.out).trans KC.out
          have HTT := hide (HTZ.out _ (getS_mem (ss := T) (i := p) (by rw [HNL.out]; exact hp1)))
          have HTE : Hid (∀ x, T.getD p ⟨#[]⟩ = x → 0 < cmpT x s → ∀ i, p ≤ i → i < T.length → 0 < cmpT (T.getD i ⟨#[]⟩) s) := fun x hx h i h1 h2 => by
            by_cases e : i = p
            · rw [e, hx]; exact h
            · exact HA.out i (by omega) h2
          have HTF : Hid (∀ x, T.getD p ⟨#[]⟩ = x → cmpT x s ≤ 0 → (gap T (p + 1) s).Pairwise fun x y => cmpT x y ≤ 0) := fun x hx h => gap_sorted T (p + 1) s HS.out (by rw [HNL.out]; omega) (fun _ => by rw [Nat.add_sub_cancel, hx]; exact h) HA.out
          have CT0 := hide ct0
          generalize hx : T.getD p ⟨#[]⟩ = x at ct HTT CT0
          have HX := hide hx
          clear hx ct0 kc
          have i1 : (p : Int) < (k : Int) := by omega
          have i2 : (p : Int) + 1 - 1 = (p : Int) := by omega
          have i3 : (0 : Int) < (p : Int) + 1 := by omega
          have hd : decide ((0 : Int) < (p : Int) + 1) = true := decide_eq_true i3
          have i5 : IntKind.i64.wrap (p : Int) = (p : Int) := by first | (show wrap64 _ = _; unfold wrap64; omega) | (simp [IntKind.wrap, IntKind.bits, IntKind.signed]; omega)
          go_wp2_with fail
          go_region_held (fun V => V.cell? ⟨g1, p, none⟩ = some (.string x) ∧ V.cell? ⟨b2, o2 + k, none⟩ = some (.string s)) (first | go_keep | exact E8.out) (first
            | (go_at_call 40; refine (refCompareB x s _ HTT.out HSZ.out).mono ?_; rintro e w6 ⟨rfl, hb6⟩; have HB6 := hide (below_trans HBW.out (below_trans ((Below.refl wr.heap.size wr).drew) hb6)); have E8 := hide (And.intro ((HB6.out.cell (p := ⟨g1, p, none⟩) HG1.out.2).trans CT0.out) ((HB6.out.cell (p := ⟨b2, o2 + k, none⟩) HKL.out).trans KC.out)); clear hb6))
          by_cases hc : 0 < cmpT x s
          · have HNA := hide (HTE.out x HX.out hc)
            have hcd : decide (0 < cmpT x s) = true := decide_eq_true hc
            clear ct ks
            go_wp2_with fail
            go_roundw
            case rel => exact ⟨p, by omega, by go_num, HNA, HB6⟩
            case measure => (simp [intOf] <;> omega)
          · have HFS := hide (HTF.out x HX.out (by omega))
            have hcd : decide (0 < cmpT x s) = false := decide_eq_false hc
            clear ct ks
            have HOW := hide (HO.out.below HB6.out)
            have HB1 := hide (below_trans HB.out HB6.out)
            obtain ⟨W1, hW1⟩ : ∃ W1, w6 = W1 := ⟨_, rfl⟩
            rw [hW1] at HOW HB1 ⊢
            clear hW1 HB6 E8 HBW
            go_wp2_with (at_builtin; refine pushS _ rfl _ _ rfl w.heap.size _ T rfl (HOW.out.below ((Below.refl _ _).alloc (Nat.le_refl _) _)) ⟨W1.heap.size, 0, none⟩ 1 ⟨#[]⟩ rfl ?_ (by rw [HNL.out]; omega) (by have := HB1.out.size; simp; omega) ?_
                         · simp [Addr.add]
                         intro v5 w5 ho5 hg5
                         obtain ⟨a5, c5, hv5⟩ := ho5.shape
                         have HB5 := hide ((HB1.out.alloc HB1.out.size _).grown hg5 (by have := HB1.out.size; simp; omega) (fun i e => (HOW.out.blk i e).1))
                         obtain ⟨g5, hg5'⟩ : ∃ g, a5 = some ⟨g, 0, none⟩ := by
                           rcases ho5.2 with ⟨_, h2⟩ | ⟨g, _, _, h1, _⟩
                           · rw [List.length_append, List.length_singleton] at h2; omega
                           · rw [hv5] at h1; simp only [Value.slice.injEq] at h1; exact ⟨g, h1.1⟩
                         rw [List.length_append, List.length_singleton, HNL.out, hg5'] at hv5
                         subst hv5
                         rw [← gap_end, HNL.out] at ho5
                         have HG5 := hide (World.ownsRow.lt ho5 g5 rfl).1
                         have HO5 := hide ho5
                         clear ho5 hg5 hg5')
            go_loopw [6] (fun i wr => ∃ (j : Nat) (y : ByteArray), (p + 1) ≤ j ∧ j ≤ k ∧ i = .int .i64 (j : Int) ∧ Hid (OwnS wr w.heap.size (.slice (some ⟨g5, 0, none⟩) (k + 1) c5) (gap T j y)) ∧ Hid (Below w.heap.size w wr)) (fun i _ => (intOf i).toNat)
            case atStart => exact ⟨k, ⟨#[]⟩, by omega, Nat.le_refl _, by go_num, HO5, HB5⟩
            case round =>
              obtain ⟨j, y, hpj, hjk, rfl, HOj, HBj⟩ := hrel
              by_cases hjl : (p + 1) < j
              · obtain ⟨j', rfl⟩ : ∃ j', j = j' + 1 := ⟨j - 1, by omega⟩
                have cj := HOj.out.cell j' (by omega)
                have cj1 := HOj.out.cell (j' + 1) (by omega)
                have fj := HOj.out.frozen (j' + 1)
                rw [gap_get T (j' + 1) j' y (by omega) (by rw [HNL.out]; omega)] at cj
                have HSt := hide (HOj.out.store (j' + 1) (T.getD j' ⟨#[]⟩))
                have HGS := hide ((gap_set T (j' + 1) y (T.getD j' ⟨#[]⟩) (by rw [HNL.out]; omega)).trans (gap_prev T j' (by rw [HNL.out]; omega)))
                generalize T.getD j' ⟨#[]⟩ = z at cj HSt HGS
                generalize (gap T (j' + 1) y).getD (j' + 1) ⟨#[]⟩ = z2 at cj1
                have i1 : ((p + 1) : Int) < (j' : Int) + 1 := by omega
                have i2 : (j' : Int) + 1 < (k : Int) + 1 := by omega
                have i3 : (j' : Int) < (k : Int) + 1 := by omega
                have i6 : (j' : Int) + 1 - 1 = (j' : Int) := by omega
                have i7 : ((j' : Int) + 1).toNat = j' + 1 := by omega
                go_wp2_with fail
                go_roundw
                case rel =>
                  refine ⟨j', z, by omega, by omega, by go_num, ?_, HBj.out.setCell HG5.out _⟩
                  have h := HSt.out.1
                  rw [HGS.out] at h
                  exact h
                case measure => (simp [intOf] <;> omega)
              · have hjp : j = (p + 1) := by omega
                subst hjp
                have cj1 := HOj.out.cell (p + 1) (by omega)
                have fj := HOj.out.frozen (p + 1)
                have kcj := (HBj.out.cell (p := ⟨b2, o2 + k, none⟩) HKO.out).trans KC0.out
                have HSt := hide (HOj.out.store (p + 1) s)
                have HGS := hide (gap_set T (p + 1) y s (by rw [HNL.out]; omega))
                generalize (gap T (p + 1) y).getD (p + 1) ⟨#[]⟩ = z2 at cj1
                have i1 : ¬ ((p + 1) : Int) < ((p + 1) : Int) := by omega
                go_wp2_with fail
                go_roundw
                case rel =>
                  refine ⟨k + 1, gap T (p + 1) s, by omega, by go_num, ?_, HFS, ?_, HBj.out.setCell HG5.out _⟩
                  · show List.Perm _ _
                    rw [HTK.out]
                    exact (gap_perm T _ s).trans (HP.out.append_right [s])
                  · have h := HSt.out.1
                    rw [HGS.out] at h
                    exact h
                case measure => (simp [intOf] <;> omega)
    · have hkl : k = len := by omega
      subst hkl
      have hki : ¬ (k : Int) < (k : Int) := by omega
      go_wp2_with fail
      go_ret
      refine ⟨_, rfl, ?_, HB.out⟩
      have h1 := HP.out
      rw [List.take_of_length_le (by rw [HSL.out]; exact Nat.le_refl _)] at h1
      rw [srt_unique h1 HS.out]
      exact HO.out
end Go.Proofs.Ytdpihfmbkimgpaa.Pa
