/-
  The statements' helpers: records numbered, a record's place, two records that rise.
-/
import Derived.Test.YtjhmnimbncfhoaaDoorSoShelf
import Derived.Test.YtjhmnimbncfhoaaDoorSoPlace
import Derived.Test.YtjhmnimbncfhoaaDoorSoMerged
import Derived.Test.YtjhmnimbncfhoaaDoorSoMerge
namespace Go.Proofs.YtjhmnimbncfhoaaDoor.So
open Go.ChangeShapes Go.WideShapes Go.ChangeAt Go.RowKit
open Go.Proofs.YtjhmnimbncfhoaaDoor.Base Go.Proofs.YtjhmnimbncfhoaaDoor.Nums
set_option linter.unusedVariables false
theorem RB.value {w : World} {g : Nat} {r : Rec} (h : RB w g r) (v : ByteArray) : RB (w.setCell ⟨g, 2, none⟩ (.string v)) g ⟨r.p, r.k, v⟩ := by
  unfold RB; rw [heap_setCell_same _ _ _ _ _ _ h]; rfl
set_option maxRecDepth 100000 in
theorem place_any (p : Int) (k : ByteArray) (u n : Nat) (hu : u < n) (hn : n ≤ 1000000000000000000) (w : World) :
    Calls Tryd.prog 6 #[Rec.val ⟨p, k, plc u⟩, .int .i64 (n : Int)] w fun e w' => e = .returned (.int .i64 (u : Int)) ∧ Below w.heap.size w w' := by
  have HAT := hide (fun W => atoi_any (plc u) (u : Int) (plc_size u (by omega)) (plc_atoi u) W)
  have hu0 : ¬ (u : Int) < 0 := by omega
  have hun : ¬ (n : Int) ≤ (u : Int) := by omega
  generalize plc u = s at HAT ⊢
  unfold Rec.val
  obtain ⟨w1, hw1⟩ : ∃ w1, w.alloc (.cells #[.int .i64 p, .string k, .string s] 27) = w1 := ⟨_, rfl⟩
  have HB1 : Hid (Below w.heap.size w w1) := by rw [← hw1]; exact (Below.refl _ _).alloc (Nat.le_refl _) _
  obtain ⟨g, hg⟩ : ∃ g, w.heap.size = g := ⟨_, rfl⟩
  have HR1 : Hid (RB w1 g ⟨p, k, s⟩) := by rw [← hw1, ← hg]; exact heap_alloc_new _ _
  obtain ⟨p0, p1, p2⟩ := HR1.out.cells
  simp only at p0 p1 p2
  go_enter Tryd.func6, Tryd.ntmps6
  go_wp2_with fail
  refine (HAT.out _).mono ?_
  rintro e w2 ⟨rfl, hb2⟩
  have HW2 := hide (below_trans HB1.out hb2)
  clear hb2
  go_wp2_with fail
  go_ret
  exact ⟨rfl, HW2.out⟩
set_option maxHeartbeats 2000000 in
set_option maxRecDepth 100000 in
theorem rises_any (a b : Rec) (i j n : Nat) (ha : a.v = plc i) (hb : b.v = plc j) (hi : i < n) (hj : j < n) (hn : n ≤ 1000000000000000000) (h : Rz a b) (w : World) :
    Calls Tryd.prog 7 #[a.val, b.val, .int .i64 (n : Int)] w fun e w' => e = .returned (.bool true) ∧ Below w.heap.size w w' := by
  obtain ⟨ap, ak, av⟩ := a
  obtain ⟨bp, bk, bv⟩ := b
  simp only at ha hb
  subst ha hb
  have HPA := hide (fun W => place_any ap ak i n hi hn W)
  have HPB := hide (fun W => place_any bp bk j n hj hn W)
  have HRZ : Hid ((ap ≠ bp ∧ ap < bp) ∨ (ap = bp ∧ order (txt ak) (txt bk) < 0) ∨ (ap = bp ∧ order (txt ak) (txt bk) = 0 ∧ i < j)) := by
    unfold Rz cmpR at h
    simp only at h
    by_cases e : ap = bp
    · rw [if_pos e] at h
      rcases h with q | ⟨q1, i', j', q2, q3, q4⟩
      · exact .inr (.inl ⟨e, q⟩)
      · have h1 := plc_inj q2
        have h2 := plc_inj q3
        subst h1 h2
        exact .inr (.inr ⟨e, q1, q4⟩)
    · rw [if_neg e] at h
      left
      refine ⟨e, ?_⟩
      rcases h with q | ⟨q1, _⟩
      · have := (sgn_le ap bp).1 (by omega); omega
      · exfalso
        unfold sgn at q1
        split at q1
        · omega
        · split at q1 <;> omega
  clear h
  generalize plc i = av at HPA ⊢
  generalize plc j = bv at HPB ⊢
  unfold Rec.val at HPA HPB ⊢
  simp only at HPA HPB ⊢
  obtain ⟨g, hg⟩ : ∃ g, w.heap.size = g := ⟨_, rfl⟩
  obtain ⟨W, hW⟩ : ∃ W, (w.alloc (.cells #[.int .i64 ap, .string ak, .string av] 27)).alloc (.cells #[.int .i64 bp, .string bk, .string bv] 27) = W := ⟨_, rfl⟩
  have HA : Hid (Below w.heap.size w W) := by rw [← hW]; exact (((Below.refl w.heap.size w).alloc (Nat.le_refl _) _).alloc (by simp) _)
  have HB1 : Hid (RB W g ⟨ap, ak, av⟩) := by
    show _ = _
    rw [← hW, heap_alloc_old _ _ (by simp; omega), ← hg]; exact heap_alloc_new _ _
  have HB2 : Hid (RB W (g + 1) ⟨bp, bk, bv⟩) := by
    show _ = _
    rw [← hW, ← hg]
    have h := heap_alloc_new (w.alloc (.cells #[.int .i64 ap, .string ak, .string av] 27)) (.cells #[.int .i64 bp, .string bk, .string bv] 27)
    rw [show (w.alloc (.cells #[.int .i64 ap, .string ak, .string av] 27)).heap.size = w.heap.size + 1 by simp] at h
    exact h
  have HS : Hid (∀ V, Below W.heap.size W V → (V.cell? ⟨g, 0, none⟩ = some (.int .i64 ap) ∧ V.cell? ⟨g, 1, none⟩ = some (.string ak) ∧ V.cell? ⟨g, 2, none⟩ = some (.string av)) ∧ V.cell? ⟨g + 1, 0, none⟩ = some (.int .i64 bp) ∧ V.cell? ⟨g + 1, 1, none⟩ = some (.string bk) ∧ V.cell? ⟨g + 1, 2, none⟩ = some (.string bv)) := fun V hV => ⟨(HB1.out.below hV).cells, (HB2.out.below hV).cells⟩
  obtain ⟨⟨p0, p1, p2⟩, q0, q1, q2⟩ := HS.out W (Below.refl _ _)
  have B0 : Hid (Below W.heap.size W W.drew) := (Below.refl _ _).drew
  rcases HRZ.out with ⟨h1, h2⟩ | ⟨h1, h2⟩ | ⟨h1, h2, h3⟩
  · have hne : (ap != bp) = true := by simpa using h1
    clear HS HPA HPB
    go_enter Tryd.func7, Tryd.ntmps7
    go_wp2_with fail
    go_ret
    exact ⟨ret_bool (by simp), (by first | exact HA.out | (rw [← hg]; exact HA.out))⟩
  · subst h1
    have hl : Op.bytesLess ak.toList bk.toList = true := by rw [less_txt]; simpa using h2
    have hpp : (ap != ap) = false := by simp
    clear HS HPA HPB
    go_enter Tryd.func7, Tryd.ntmps7
    go_wp2_with fail
    go_quiet (fail)
    go_wp2_with fail
    go_ret
    exact ⟨rfl, below_trans HA.out (below_drewN' _ _ _)⟩
  · subst h1
    have hl : Op.bytesLess ak.toList bk.toList = false := by rw [less_txt, h2]; rfl
    have he : (ak.toList == bk.toList) = true := by rw [same_txt, h2]; rfl
    have hpp : (ap != ap) = false := by simp
    have hij : (i : Int) < (j : Int) := by omega
    clear h2 h3
    go_enter Tryd.func7, Tryd.ntmps7
    go_wp2_with fail
    clear hW
    first | (go_region_held_law (fun V => (V.cell? ⟨g, 0, none⟩ = some (.int .i64 ap) ∧ V.cell? ⟨g, 1, none⟩ = some (.string ak) ∧ V.cell? ⟨g, 2, none⟩ = some (.string av)) ∧ V.cell? ⟨g + 1, 0, none⟩ = some (.int .i64 ap) ∧ V.cell? ⟨g + 1, 1, none⟩ = some (.string bk) ∧ V.cell? ⟨g + 1, 2, none⟩ = some (.string bv)) (first | exact HS.out _ B2.out | exact HS.out _ B1.out | exact HS.out _ B0.out | go_keep) (first
      | (go_at_call 6; refine (HPA.out _).mono ?_; rintro e w1 ⟨rfl, hb1⟩; have B1 := hide (below_trans B0.out hb1); clear hb1 HPA)
      | (go_at_call 6; refine (HPB.out _).mono ?_; rintro e w2 ⟨rfl, hb2⟩; have B2 := hide (below_trans B1.out hb2); clear hb2 HPB))) | fail
    all_goals
      go_wp2_with fail
      go_ret
      exact ⟨rfl, below_trans HA.out B2.out⟩
set_option maxHeartbeats 4000000 in
set_option maxRecDepth 100000 in
theorem numbered_any (a : Option Addr) (n cap : Nat) (rs : List Rec) (w : World) (hr : RdR w a n rs) (hl : n * 40 ≤ 140737488355328) (ht : Lib.TabIs Tryd.prog w "internal/strconv.uint64pow10" .u64 Lib.pow10Tab) :
    Calls Tryd.prog 4 #[.slice a n cap] w fun e w' => ∃ v, e = .returned v ∧ OwnR w' w.heap.size v (numL 0 rs) ∧ Below w.heap.size w w' := by
  have HR := hide hr
  have HRL := hide hr.1
  have HT := hide ht
  clear hr ht
  go_enter Tryd.func4, Tryd.ntmps4
  go_wp2_with fail
  go_loopw [3, 4] (fun s3 s4 wr => ∃ (v : Value) (i : Nat), v = s3 ∧ .int .i64 (i : Int) = s4 ∧ i ≤ n ∧ Hid (OwnR wr w.heap.size v (numL 0 (rs.take i))) ∧ Hid (Below w.heap.size w wr)) (fun _ s4 _ => n - (intOf s4).toNat)
  case atStart => exact ⟨_, 0, rfl, rfl, by omega, own_nil _ _, Below.refl _ _⟩
  case round =>
    obtain ⟨v, i, rfl, rfl, hi, HO, HW⟩ := hrel
    by_cases hin : i < n
    · have hii : (i : Int) < (n : Int) := by omega
      obtain ⟨b2, o2, rfl, hl2, hc2⟩ := HR.out.2 (by omega)
      obtain ⟨e0, e1, e2⟩ := hc2 i hin
      have p0 := (HW.out.cell (p := ⟨b2, o2 + i * 3, none⟩) hl2).trans e0
      have p1 := (HW.out.cell (p := ⟨b2, o2 + i * 3 + 1, none⟩) hl2).trans e1
      have p2 := (HW.out.cell (p := ⟨b2, o2 + i * 3 + 2, none⟩) hl2).trans e2
      have HNX : Hid (numL 0 (rs.take (i + 1)) = numL 0 (rs.take i) ++ [numR (rs.getD i rec0) i]) := by
        have e : rs.take (i + 1) = rs.take i ++ [rs.getD i rec0] := by
          rw [List.take_succ_eq_append_getElem (by rw [HRL.out]; exact hin), List.getD_eq_getElem?_getD, List.getElem?_eq_getElem (by rw [HRL.out]; exact hin)]; rfl
        show _ = _
        rw [e, numL_snoc, List.length_take, Nat.zero_add, show min i rs.length = i by rw [HRL.out]; omega]
      clear e0 e1 e2 hc2
      generalize rs.getD i rec0 = x at p0 p1 p2 HNX
      obtain ⟨g3, hg3⟩ : ∃ g, wr.heap.size = g := ⟨_, rfl⟩
      obtain ⟨w3, hw3⟩ : ∃ w3, wr.alloc (.cells #[.int .i64 x.p, .string x.k, .string x.v] 27) = w3 := ⟨_, rfl⟩
      have HB3 : Hid (Below wr.heap.size wr w3) := by rw [← hw3]; exact (Below.refl _ _).alloc (Nat.le_refl _) _
      have HR3 : Hid (RB w3 g3 x) := by rw [← hw3, ← hg3]; exact heap_alloc_new _ _
      have HIT := hide (itoa_any (i : Int) (by omega) (by omega) w3 (tab_below HT.out (below_trans HW.out HB3.out)))
      rw [itoa_nat] at HIT
      have HPL : Hid ((⟨(Lib.decDigits i).toArray⟩ : ByteArray) = plc i) := rfl
      generalize (⟨(Lib.decDigits i).toArray⟩ : ByteArray) = s at HIT HPL
      go_wp2_with fail
      refine HIT.out.mono ?_
      rintro e w4 ⟨rfl, hb4⟩
      have HC4 := hide (below_trans HB3.out hb4)
      have HR4 := hide (HR3.out.below hb4)
      clear hb4
      obtain ⟨q0, q1, q2⟩ := HR4.out.cells
      have f2 := HR4.out.frozen 2
      obtain ⟨w5, hw5⟩ : ∃ w5, w4.setCell ⟨g3, 2, none⟩ (.string s) = w5 := ⟨_, rfl⟩
      have HR5 : Hid (RB w5 g3 ⟨x.p, x.k, s⟩) := by rw [← hw5]; exact HR4.out.value s
      have HC5 : Hid (Below wr.heap.size wr w5) := by rw [← hw5]; exact HC4.out.setCell (by show wr.heap.size ≤ g3; omega) _
      obtain ⟨r0, r1, r2⟩ := HR5.out.cells
      simp only at r0 r1 r2
      obtain ⟨g6, hg6⟩ : ∃ g, w5.heap.size = g := ⟨_, rfl⟩
      obtain ⟨w6, hw6⟩ : ∃ w6, w5.alloc (.cells #[.int .i64 x.p, .string x.k, .string s] 27) = w6 := ⟨_, rfl⟩
      have HB6 : Hid (Below w5.heap.size w5 w6) := by rw [← hw6]; exact (Below.refl _ _).alloc (Nat.le_refl _) _
      have HR6 : Hid (RB w6 g6 ⟨x.p, x.k, s⟩) := by rw [← hw6, ← hg6]; exact heap_alloc_new _ _
      have HC6 := hide (below_trans HC5.out HB6.out)
      have HO6 := hide (HO.out.below HC6.out)
      have HW6 := hide (below_trans HW.out HC6.out)
      have HTL : Hid ((numL 0 (rs.take i)).length = i) := by show _ = _; rw [length_numL, List.length_take, HRL.out]; omega
      go_wp2_with (at_builtin; refine joinR _ rfl _ _ rfl w.heap.size v (numL 0 (rs.take i)) rfl HO6.out (some ⟨g6, 0, none⟩) 1 1 [⟨x.p, x.k, s⟩] rfl (rdr_one HR6.out) (fun e => nomatch e) (by have := HTL.out; omega) HW6.out.size ?_; intro v7 w7 ho7 hg7; have HO7 := hide ho7; have HW7 := hide (HW6.out.grown hg7 HW6.out.size (fun j e => (HO6.out.blk j e).1)); clear ho7 hg7)
      go_roundw
      case rel => exact ⟨_, i + 1, rfl, by go_num, by omega, (by rw [HNX.out]; unfold numR; rw [← HPL.out]; exact HO7.out), HW7⟩
      case measure => simp [intOf]; omega
    · obtain rfl : i = n := by omega
      go_wp2_with fail
      go_ret
      exact ⟨_, rfl, (by have h := HO.out; rw [List.take_of_length_le (by rw [HRL.out]; exact Nat.le_refl _)] at h; exact h), HW.out⟩
end Go.Proofs.YtjhmnimbncfhoaaDoor.So
