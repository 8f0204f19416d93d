/-
  What the program tells of Decode.
-/
import Derived.Test.YthdblnfohbldcaaGreatLzC4J
import Derived.WalkLawsBesides
namespace Go.Proofs.YthdblnfohbldcaaGreat.Lz
open Go.ChangeShapes Go.WideShapes Go.ChangeAt Go.RowKit
open Go.Proofs.YthdblnfohbldcaaGreat.Base Go.Proofs.YthdblnfohbldcaaGreat.Nums
set_option linter.unusedVariables false
/-- A box of one cell. -/
def Box (w : World) (g : Nat) (v : Value) (t : TypeId) : Prop := w.heap[g]? = some (.cells #[v] t)
theorem Box.c0 {w : World} {g : Nat} {v : Value} {t : TypeId} (h : Box w g v t) : w.cell? ⟨g, 0, none⟩ = some v := by rw [cell_of_row _ _ _ _ _ _ h]; rfl
theorem Box.fr {w : World} {g : Nat} {v : Value} {t : TypeId} (h : Box w g v t) : w.frozen? ⟨g, 0, none⟩ = false := frozen_of_row _ _ _ _ _ h
theorem Box.lt {w : World} {g : Nat} {v : Value} {t : TypeId} (h : Box w g v t) : g < w.heap.size := block_lt_of_cell h.c0
theorem Box.put {w : World} {g : Nat} {v u : Value} {t : TypeId} (h : Box w g v t) : Box (w.setCell ⟨g, 0, none⟩ u) g u t := heap_setCell_same _ _ _ _ _ _ h
theorem Box.below {w w' : World} {g : Nat} {v : Value} {t : TypeId} (h : Box w g v t) (hb : Below w.heap.size w w') : Box w' g v t := by
  unfold Box; rw [hb.block g h.lt]; exact h
theorem Box.grown {w w' : World} {g : Nat} {v : Value} {t : TypeId} {r : Option Nat} (h : Box w g v t) (hg : w.grownBy w' r) (hr : r ≠ some g) : Box w' g v t := by
  unfold Box; rw [hg.block g h.lt (fun x => hr x.symm)]; exact h
theorem rd_box {w : World} {a x : Option Addr} {len p y z : Nat} {bs : List (BitVec 8)} {T : TypeId} (hr : Rd w a len bs) (hb : Box w p (.slice x y z) T) (u : Value) : Rd (w.setCell ⟨p, 0, none⟩ u) a len bs := by
  by_cases hl : len = 0
  · subst hl
    have : bs = [] := List.length_eq_zero_iff.1 hr.1
    subst this; exact rd_zero _ _
  · obtain ⟨b, off, rfl, hlt, hc⟩ := hr.2.2 (by omega)
    refine hr.grown (grown_cell (World.grownBy.refl _ _) 0 u) (fun ad e e2 => ?_)
    cases e
    have e3 : p = b := Option.some.inj e2
    subst e3
    have h0 := hc 0 (by omega)
    rw [cell_of_row _ _ _ _ _ _ hb] at h0
    rcases off with _ | off <;> simp at h0
theorem eql_nil (a : Option Addr) (n c : Nat) (W : World) : (binOp .eql 24 (.slice a n c) (.slice none 0 0)).run Tryz.prog W = .ok (.bool a.isNone) W := by
  simp only [binOp]
  simp [run_equal_slice_nil W 24 5 a n c Tryz.underlying24]
set_option maxHeartbeats 2000000 in
set_option maxRecDepth 100000 in
theorem decode1_any (p q n base : Nat) (v : Value) (xs : List (BitVec 8)) (t : Tok) (la : Option Addr) (lc : Nat) (w : World) (hp : Box w p v 24) (hq : Box w q (.int .i64 (n : Int)) 3) (ho : Own w base v xs) (hpb : p < base) (hqb : q < base) (hpq : p ≠ q) (hbase : base ≤ w.heap.size)
    (hr : Rd w la t.lit.length t.lit) (hz : la = none → t.lit.length = 0 ∧ lc = 0) (hn : n ≤ 65536) (hok : Ok t xs.length n) :
    Calls Tryz.prog 42 #[.agg #[.slice la t.lit.length lc, .int .i64 t.dist, .int .i64 t.len], .pointer (some ⟨p, 0, none⟩), .pointer (some ⟨q, 0, none⟩)] w fun e w' => e = .returned (.tuple #[]) ∧ ∃ v', Box w' p v' 24 ∧ Own w' base v' (grow xs t) ∧ Kept2 w w' (some p) v.ownBlock := by
  have hlen : 0 ≤ t.len := by rcases hok with ⟨⟨_, hb⟩, _⟩ | ⟨_, hb, _⟩ <;> omega
  have hdist : 0 < t.len → 1 ≤ t.dist ∧ t.dist ≤ (xs.length : Int) + (t.lit.length : Int) := by rcases hok with ⟨⟨_, hb⟩, _⟩ | ⟨_, hb, _⟩ <;> omega
  have hbnd : xs.length + t.lit.length + t.len.toNat ≤ 65536 := by rcases hok with ⟨⟨_, hb⟩, _⟩ | ⟨_, hb, _⟩ <;> omega
  obtain ⟨i0, hi, hz0, hz1, hz2⟩ := info_parts info8
  have hni : (n : Int) ≤ 65536 := by omega
  have HD := hide hdist
  have HBN := hide hbnd
  have HLN := hide hlen
  have HP := hide hp
  have HQ := hide hq
  have HO := hide ho
  have HR := hide hr
  have c1 := hp.c0
  have c2 := hq.c0
  have hplt := hp.lt
  have hqlt := hq.lt
  obtain ⟨va, vn, vc, rfl, HVN⟩ := own_named ho
  have HV := hide (fun i e => (blk ho i e))
  have HBW : Hid (Below w.heap.size w (w.alloc (.cells #[.slice la t.lit.length lc, .int .i64 t.dist, .int .i64 t.len] 74))) := (Below.refl _ _).alloc (Nat.le_refl _) _
  clear hp hq ho hr hok hlen hdist hbnd hn
  cases va with
  | some ad =>
    obtain ⟨ab, ao, sp⟩ := ad
    have hnil : ∀ W, (binOp .eql 24 (.slice (some ⟨ab, ao, sp⟩) vn vc) (.slice none 0 0)).run Tryz.prog W = .ok (.bool false) W := fun W => eql_nil _ _ _ W
    go_enter Tryz.func42, Tryz.ntmps42
    go_wp2_with fail
    refine (grow_any base _ xs la t.lit.length lc t _ (HO.out.below HBW.out) (HR.out.below HBW.out) hz HLN.out HD.out (by have := HBN.out; omega) (by have := HBW.out.size; omega)).mono ?_
    rintro e w1 ⟨v1, rfl, hext⟩
    have HE := hide (Ext.start HBW.out hext)
    have hbx := (HP.out).grown HE.out.2.1 (fun e => by have := (HV.out _ e).1; omega)
    have HBX := hide hbx
    have k1 := hbx.c0
    have f1 := hbx.fr
    clear hext hbx
    obtain ⟨v1a, v1n, v1c, rfl, HV1N⟩ := own_named HE.out.1
    go_wp2_with fail
    go_end0
    refine ⟨rfl, _, HBX.out.put, ?_, ?_⟩
    · have hv1 := fun i e => HE.out.2.2 i e
      exact Base.keep HE.out.1 (grown_cell (World.grownBy.refl _ _) 0 _) (fun i j e1 e2 e => by
        cases e2
        have := (blk HE.out.1 i e1).1
        omega)
    · have h1 : Kept2 w w1 (some p) (Value.slice (some ⟨ab, ao, sp⟩) vn vc).ownBlock := ⟨HE.out.2.1.os, HE.out.2.1.tape, HE.out.2.1.output, HE.out.2.1.size, fun i hi _ h2 => HE.out.2.1.block i hi h2⟩
      exact h1.grown (grown_cell (World.grownBy.refl _ _) 0 _) (fun i e => .inl (by cases e; rfl))
  | none =>
    obtain ⟨rfl, rfl⟩ := Got.nil HO.out rfl
    have hxs : xs = [] := List.length_eq_zero_iff.1 HVN.out.symm
    subst hxs
    have hnil : ∀ W, (binOp .eql 24 (.slice none 0 0) (.slice none 0 0)).run Tryz.prog W = .ok (.bool true) W := fun W => eql_nil _ _ _ W
    go_enter Tryz.func42, Tryz.ntmps42
    go_wp2_with (at_make; refine wpList_make_own _ rfl _ _ 24 rfl (w.heap.size + 1) 5 i0 (.int .u8 0) 1 Tryz.underlying24 hi hz0 hz1 .i64 .i64 _ n rfl rfl rfl (by rw [hz2]; omega) (by unfold maxLen; omega) (by simp) ?_
                 intro w1 hown1 hgrow1
                 have HO1 : Hid (Own w1 (w.heap.size + 1) (.slice (some ⟨(w.alloc (.cells #[.slice la t.lit.length lc, .int .i64 t.dist, .int .i64 t.len] 74)).heap.size, 0, none⟩) 0 n) []) := hown1
                 have HB1 : Hid (Below w.heap.size w w1) := HBW.out.grown hgrow1 HBW.out.size (by intro k h; cases h)
                 have HT1 : Hid (TRow w1 w.heap.size (.slice la t.lit.length lc) t.dist t.len) := (TRow.new w (.slice la t.lit.length lc) t.dist t.len).grown hgrow1 (by simp)
                 have HP1 := hide (HP.out.below HB1.out)
                 have k1 := HP1.out.c0
                 have f1 := HP1.out.fr
                 have k2 := HT1.out.c0
                 have k3 := HT1.out.c1
                 have k4 := HT1.out.c2
                 have hs1 : w.heap.size + 1 ≤ w1.heap.size := by have := HT1.out.lt; omega
                 have hpne : p ≠ w.heap.size := by omega
                 clear hown1 hgrow1)
    have HZ : Hid ((w.alloc (.cells #[.slice la t.lit.length lc, .int .i64 t.dist, .int .i64 t.len] 74)).heap.size = w.heap.size + 1) := by show _ = _; simp
    have HO2 : Hid (Own (w1.setCell ⟨p, 0, none⟩ (.slice (some ⟨w.heap.size + 1, 0, none⟩) 0 n)) base (.slice (some ⟨w.heap.size + 1, 0, none⟩) 0 n) []) := by
      have h1 := HO1.out
      rw [HZ.out] at h1
      exact (h1.mono (by omega)).other (grown_cell (World.grownBy.refl _ _) 0 _) (by omega)
    have HK2 : Hid (Kept2 w (w1.setCell ⟨p, 0, none⟩ (.slice (some ⟨w.heap.size + 1, 0, none⟩) 0 n)) (some p) none) := by
      have h1 : Kept2 w w1 (some p) none := ⟨HB1.out.os, HB1.out.tape, HB1.out.output, HB1.out.size, fun i hi _ _ => HB1.out.block i hi⟩
      exact h1.grown (grown_cell (World.grownBy.refl _ _) 0 _) (fun i e => .inl (by cases e; rfl))
    have HR2 := hide (rd_box (HR.out.below HB1.out) HP1.out (.slice (some ⟨w.heap.size + 1, 0, none⟩) 0 n))
    have HP2 := hide (HP1.out.put (u := .slice (some ⟨w.heap.size + 1, 0, none⟩) 0 n))
    have hs2 : (w1.setCell ⟨p, 0, none⟩ (.slice (some ⟨w.heap.size + 1, 0, none⟩) 0 n)).heap.size = w1.heap.size := by simp [World.setCell]
    have HS2 := hide hs2
    clear hs2
    refine (grow_any base _ [] la t.lit.length lc t _ HO2.out HR2.out hz HLN.out HD.out (by have := HBN.out; omega) (by have := HS2.out; omega)).mono ?_
    rintro e w3 ⟨v3, rfl, hext⟩
    have HE := hide hext
    have hbx := (HP2.out).grown hext.2.1 (fun e => by have e2 : w.heap.size + 1 = p := Option.some.inj e; omega)
    have HBX := hide hbx
    have k1 := hbx.c0
    have f1 := hbx.fr
    clear hext hbx
    obtain ⟨v1a, v1n, v1c, rfl, HV1N⟩ := own_named HE.out.1
    go_wp2_with fail
    go_end0
    refine ⟨rfl, _, HBX.out.put, ?_, ?_⟩
    · exact Base.keep HE.out.1 (grown_cell (World.grownBy.refl _ _) 0 _) (fun i j e1 e2 e => by
        cases e2
        have := (blk HE.out.1 i e1).1
        omega)
    · have h1 : Kept2 w w3 (some p) none := HK2.out.grown HE.out.2.1 (fun i e => .inr (.inr (by have e2 : w.heap.size + 1 = i := Option.some.inj e; omega)))
      exact h1.grown (grown_cell (World.grownBy.refl _ _) 0 _) (fun i e => .inl (by cases e; rfl))
/-- What 'Decode' has made when the tokens ts have been handed on. -/
def DecI (w : World) (p q n base : Nat) (ts : List Tok) (w' : World) : Prop :=
  Box w' q (.int .i64 (n : Int)) 3 ∧ (∃ v, Box w' p v 24 ∧ Own w' base v (expand [] ts)) ∧ Below w.heap.size w w' ∧ base ≤ w'.heap.size
theorem dec_taker (w : World) (p q n base : Nat) (hn : n ≤ 65536) (hpb : p < base) (hqb : q < base) (hpq : p ≠ q) (hpw : w.heap.size ≤ p) (hw : w.heap.size ≤ base) : Taker 42 #[.pointer (some ⟨p, 0, none⟩), .pointer (some ⟨q, 0, none⟩)] n (DecI w p q n base) := by
  have keep : ∀ ts w0 w1, DecI w p q n base ts w0 → Below w0.heap.size w0 w1 → DecI w p q n base ts w1 := by
    intro ts w0 w1 ⟨h1, ⟨v, h2, h3⟩, h4, h5⟩ hb
    exact ⟨h1.below hb, ⟨v, h2.below hb, h3.below hb⟩, below_trans h4 hb, Nat.le_trans h5 hb.size⟩
  refine ⟨keep, fun ts t la lc w0 w1 hI hb hr hz hlc hlc2 hok hlt => ?_⟩
  obtain ⟨h1, ⟨v, h2, h3⟩, h4, h5⟩ := hI
  have hs := hb.size
  refine (decode1_any p q n base v (expand [] ts) t la lc w1 (h2.below hb) (h1.below hb) (h3.below hb) hpb hqb hpq (by omega) hr hz hn hok).mono ?_
  rintro e w2 ⟨rfl, v', hb2, ho2, hk⟩
  have hvb : ∀ i, v.ownBlock = some i → base ≤ i ∧ i < w0.heap.size := fun i e => blk h3 i e
  refine ⟨rfl, ⟨?_, ⟨v', hb2, by rw [expand_snoc]; exact ho2⟩, ?_, by have := hk.size; omega⟩, hk.size, fun g hg1 hg2 => hk.block g hg2 (fun e => by have := Option.some.inj e; omega) (fun e => by have := hvb g e.symm; omega)⟩
  · have := h1.below hb
    unfold Box at this ⊢
    rw [hk.block q (by omega) (fun e => hpq (Option.some.inj e).symm) (fun e => by have := hvb q e.symm; omega)]; exact this
  · exact Kept2.below (below_trans h4 hb) hk (fun i e => by cases e; exact hpw) (fun i e => by have := hvb i e; omega)
/-- The program's Decode, of any bytes and any length. -/
def decoded (bs : List (BitVec 8)) (n : Int) : List (BitVec 8) × Nat := if n < 0 ∨ 65536 < n then ([], 3) else if (read bs 0 n.toNat).2 = 0 then (expand [] (read bs 0 n.toNat).1, 0) else ([], (read bs 0 n.toNat).2)
set_option maxHeartbeats 2000000 in
set_option maxRecDepth 100000 in
theorem decode_any (a : Option Addr) (len cap : Nat) (bs : List (BitVec 8)) (n : Int) (w : World) (hr : Rd w a len bs) (hcap : len ≤ cap) (hm : cap ≤ 9223372036854775807) :
    Calls Tryz.prog 12 #[.slice a len cap, .int .i64 n] w fun e w' => ∃ v, e = .returned (.tuple #[v, .int .i64 ((decoded bs n).2 : Nat)]) ∧ Own w' w.heap.size v (decoded bs n).1 ∧ Below w.heap.size w w' := by
  have HR := hide hr
  clear hr
  have HF := hide (fun args w => enter_of Tryz.func42 (by kernel_rfl) (c := _) rfl args w)
  have HB : Hid (Below w.heap.size w ((w.alloc (.cells #[.int .i64 n] 3)).alloc (.cells #[.slice none 0 0] 24))) := ((Below.refl _ _).alloc (Nat.le_refl _) _).alloc (by simp) _
  by_cases hn : n < 0 ∨ 65536 < n
  · have HD : Hid (decoded bs n = ([], 3)) := by show _ = _; unfold decoded; rw [if_pos hn]
    go_enter Tryz.func12, Tryz.ntmps12
    go_wp2_with fail
    refine (read_arg _ _ a len cap n _ hn).mono ?_
    rintro e w1 ⟨rfl, rfl⟩
    go_wp2_with fail
    go_ret2
    rw [HD.out]
    exact ⟨_, rfl, own_none _ _, HB.out⟩
  · obtain ⟨m, rfl⟩ := Int.eq_ofNat_of_zero_le (by omega : 0 ≤ n)
    have hm2 : m ≤ 65536 := by omega
    have H3 : Hid (Box ((w.alloc (.cells #[.int .i64 (m : Int)] 3)).alloc (.cells #[.slice none 0 0] 24)) w.heap.size (.int .i64 (m : Int)) 3) := by
      have h : Box (w.alloc (.cells #[.int .i64 (m : Int)] 3)) w.heap.size (.int .i64 (m : Int)) 3 := heap_alloc_new _ _
      exact h.below ((Below.refl _ _).alloc (Nat.le_refl _) _)
    have H5 : Hid (Box ((w.alloc (.cells #[.int .i64 (m : Int)] 3)).alloc (.cells #[.slice none 0 0] 24)) (w.heap.size + 1) (.slice none 0 0) 24) := heap_alloc2_new _ _ _
    have HZ : Hid (((w.alloc (.cells #[.int .i64 (m : Int)] 3)).alloc (.cells #[.slice none 0 0] 24)).heap.size = w.heap.size + 2) := by show _ = _; simp
    have HI : Hid (DecI w (w.heap.size + 1) w.heap.size m (w.heap.size + 2) [] ((w.alloc (.cells #[.int .i64 (m : Int)] 3)).alloc (.cells #[.slice none 0 0] 24))) :=
      ⟨H3.out, ⟨_, H5.out, own_none _ _⟩, HB.out, by rw [HZ.out]; exact Nat.le_refl _⟩
    have HRE := hide (read_two 42 (.pointer (some ⟨w.heap.size + 1, 0, none⟩)) (.pointer (some ⟨w.heap.size, 0, none⟩)) a len cap bs m (DecI w (w.heap.size + 1) w.heap.size m (w.heap.size + 2)) _ hcap hm hm2 HF.out
      (dec_taker w (w.heap.size + 1) w.heap.size m (w.heap.size + 2) hm2 (by omega) (by omega) (by omega) (by omega) (by omega)) HI.out (fun ts w' h => HR.out.below h.2.2.1))
    have HD : Hid (decoded bs (m : Int) = if (read bs 0 m).2 = 0 then (expand [] (read bs 0 m).1, 0) else ([], (read bs 0 m).2)) := by
      show _ = _; unfold decoded; rw [if_neg hn, Int.toNat_natCast]
    generalize read bs 0 m = G at HRE HD
    obtain ⟨gt, ge⟩ := G
    simp only at HRE HD
    clear hn H3 H5 HI
    go_enter Tryz.func12, Tryz.ntmps12
    go_wp2_with fail
    refine HRE.out.mono ?_
    rintro e w1 ⟨rfl, hI⟩
    obtain ⟨_, ⟨v, hbx, hown⟩, hbl, _⟩ := hI
    have HO := hide hown
    have HBL := hide hbl
    have k1 := hbx.c0
    clear hown hbl hbx HRE
    by_cases he : ge = 0
    · subst he
      rw [if_pos rfl] at HD
      go_wp2_with fail
      go_ret2
      rw [HD.out]
      exact ⟨_, rfl, HO.out.mono (by omega), HBL.out⟩
    · have hb : ((ge : Int) != 0) = true := by rw [bne_iff_ne]; omega
      rw [if_neg he] at HD
      go_wp2_with fail
      go_ret2
      rw [HD.out]
      exact ⟨_, rfl, own_none _ _, HBL.out⟩
end Go.Proofs.YthdblnfohbldcaaGreat.Lz
