/-
  The document's new cursor; zero ones; steps that are handed in.
-/
import Derived.Test.YtcchknpgkcmneaaNcT8
import Derived.Test.YtcchknpgkcmneaaNumsMem
namespace Go.Proofs.Ytcchknpgkcmneaa.Curs
open Go.ChangeShapes Go.WideShapes Go.ChangeAt Go.RowKit
open Go.Proofs.Ytcchknpgkcmneaa.Base Go.Proofs.Ytcchknpgkcmneaa.Nums
set_option linter.unusedVariables false
theorem own_sl {w : World} {base n c : Nat} {a : Option Addr} {bs : List (BitVec 8)} (h : Own w base (.slice a n c) bs) : Sl a n c ∧ ∀ ad, a = some ad → base ≤ ad.block ∧ ad.block < w.heap.size := by
  refine ⟨⟨(Got.cap h).1, h.room, fun e => Got.nil h e, fun ad e => ?_⟩, fun ad e => blk h ad.block (by rw [e]; rfl)⟩
  rcases h.2 with ⟨e1, _⟩ | ⟨g, cap, cur, e1, _⟩
  · simp only [Value.slice.injEq] at e1; rw [e1.1] at e; cases e
  · simp only [Value.slice.injEq] at e1; rw [e1.1] at e; cases e; rfl
set_option maxHeartbeats 1000000 in
set_option maxRecDepth 100000 in
theorem rnew_any (a : Option Addr) (n c : Nat) (L : List (BitVec 8)) (w : World) (hr : Rd w a n L) (hm : n ≤ 1048576) (hz : a = none → n = 0 ∧ c = 0) :
    Calls Try.prog 10 #[.slice a n c] w fun e w' => ∃ g, e = .returned (.pointer (some ⟨g, 0, none⟩)) ∧ w.heap.size ≤ g ∧ g < w'.heap.size ∧ ReA w' g w'.heap.size L 0 ∧ (∀ a n c p f er wa, Row5 w' g (.slice (some a) n c) p f er wa → w.heap.size ≤ a.block) ∧ Below w.heap.size w w' := by
  have HR := hide hr
  have HZ := hide hz
  obtain ⟨g, hg⟩ : ∃ g, w.heap.size = g := ⟨_, rfl⟩
  obtain ⟨w1, hw1⟩ : ∃ w1, w.alloc (.cells #[.slice none 0 0, .int .i64 0, .bool false, .int .i64 0, .int .i64 0] 36) = w1 := ⟨_, rfl⟩
  have HB1 : Hid (Below w.heap.size w w1) := by rw [← hw1]; exact (Below.refl _ _).alloc (Nat.le_refl _) _
  have HR5 : Hid (Row5 w1 g (.slice none 0 0) 0 false 0 0) := by rw [← hw1, ← hg]; exact heap_alloc_new _ _
  have HRD := hide (HR.out.below HB1.out)
  have HG := hide hg
  have d0 := HR5.out.c0
  have f0 := HR5.out.fr 0
  clear hr hz
  go_enter Try.func10, Try.ntmps10
  go_wp2_with (at_builtin; refine join _ rfl _ _ rfl w1.heap.size (.slice none 0 0) [] rfl (own_none _ _) a n c L rfl HRD.out HZ.out (by simp; omega) (Nat.le_refl _) ?_
               intro v2 w2 ho2 hg2
               rw [List.nil_append] at ho2
               obtain ⟨va, vn, vc, rfl, HVN⟩ := Lz.own_named ho2
               have HO2 := hide ho2
               have HB2 : Hid (Below w1.heap.size w1 w2) := (Below.refl _ _).grown hg2 (Nat.le_refl _) (fun i e => by cases e)
               have HR6 := hide (HR5.out.below HB2.out)
               have e0 := HR6.out.c0
               have e1 := HR6.out.fr 0
               clear ho2 hg2)
  go_ret
  have hgl := HR6.out.lt
  have hg1 := HR5.out.lt
  have hgr : w2.grownBy (w2.setCell ⟨g, 0, none⟩ (.slice va vn vc)) (some g) := grown_cell (World.grownBy.refl _ _) 0 _
  have hox := Base.keep HO2.out hgr (fun i j e1 e2 e3 => by have h1 := (blk HO2.out i e1).1; have h2 := Option.some.inj e2; omega)
  have hsl := own_sl hox
  have hvn : vn = L.length := HVN.out
  refine ⟨g, rfl, by rw [HG.out]; exact Nat.le_refl _, by simp [World.setCell]; exact hgl, ⟨va, vn, vc, L, heap_setCell_same _ _ _ _ _ _ HR6.out, Got.rd hox (by have := HR.out.1; omega), hsl.1, Nat.zero_le _, rfl, fun ad e => ⟨by have := (hsl.2 ad e).1; omega, (hsl.2 ad e).2, Nat.le_refl _⟩⟩, ?_, ?_⟩
  · intro a n c p f er wa hrow
    have h1 : Row5 (w2.setCell ⟨g, 0, none⟩ (.slice va vn vc)) g (.slice va vn vc) 0 false 0 0 := heap_setCell_same _ _ _ _ _ _ HR6.out
    have h2 := h1.c0.symm.trans hrow.c0
    simp only [Option.some.injEq, Value.slice.injEq] at h2
    have h3 := (hsl.2 a h2.1).1
    have h4 := HB1.out.size
    omega
  exact (below_trans HB1.out HB2.out).setCell (show w.heap.size ≤ g by rw [HG.out]; exact Nat.le_refl _) _
/-- The steps that are handed in. -/
def RdP (w : World) (a : Option Addr) (n : Nat) (ps : List (Int × Int)) : Prop := ps.length = n ∧ (0 < n → ∃ b off, a = some ⟨b, off, none⟩ ∧ b < w.heap.size ∧ ∀ i, i < n → w.cell? ⟨b, off + i * 2, none⟩ = some (.int .i64 (ps.getD i (0, 0)).1) ∧ w.cell? ⟨b, off + i * 2 + 1, none⟩ = some (.int .i64 (ps.getD i (0, 0)).2))
theorem RdP.same {w w' : World} {a : Option Addr} {n : Nat} {ps : List (Int × Int)} (h : RdP w a n ps) (hb : Below w.heap.size w w') : RdP w' a n ps := by
  refine ⟨h.1, fun hn => ?_⟩
  obtain ⟨b, off, rfl, hlt, hc⟩ := h.2 hn
  refine ⟨b, off, rfl, Nat.lt_of_lt_of_le hlt hb.size, fun i hi => ⟨?_, ?_⟩⟩
  · rw [hb.cell (p := ⟨b, off + i * 2, none⟩) hlt]; exact (hc i hi).1
  · rw [hb.cell (p := ⟨b, off + i * 2 + 1, none⟩) hlt]; exact (hc i hi).2
set_option maxHeartbeats 1000000 in
set_option maxRecDepth 100000 in
theorem newD_any (a : Option Addr) (n c : Nat) (L : List (BitVec 8)) (w : World) (hr : Rd w a n L) (hn : n ≤ c) (hm : n ≤ 140737488355328) (hz : a = none → n = 0 ∧ c = 0) :
    Calls Try.prog 8 #[.slice a n c] w fun e w' => ∃ g, e = .returned (.pointer (some ⟨g, 0, none⟩)) ∧ w.heap.size ≤ g ∧ g < w'.heap.size ∧ CurD w' g w'.heap.size L 0 ∧ (∀ a n c p e, Row w' g (.slice (some a) n c) p e → w.heap.size ≤ a.block) ∧ Below w.heap.size w w' := by
  have R := hide hr
  have HL := hide hr.1
  clear hr
  obtain ⟨i0, hi, hz0, hz1, hz2⟩ := info_parts info8
  go_enter Try.func8, Try.ntmps8
  go_wp2_with (at_make; refine wpList_make_full _ rfl _ _ 22 rfl w.heap.size 5 i0 (.int .u8 0) 1 Try.underlying22 hi hz0 hz1 .i64 .i64 _ _ n rfl rfl (by omega) (by omega) (by rw [hz2]; omega) (by unfold maxLen; omega) (Nat.le_refl _) ?_
               intro w1 hown hgrow
               have HB1 : Hid (Below w.heap.size w w1) := (Below.refl _ _).grown hgrow (Nat.le_refl _) (by intro k h; cases h)
               have HO1 : Hid (Own w1 w.heap.size (.slice (some ⟨w.heap.size, 0, none⟩) n n) (List.replicate n (BitVec.ofNat 8 0))) := by
                 show Own _ _ _ _
                 unfold Own
                 rw [List.length_replicate, ← vals_replicate]
                 exact hown
               obtain ⟨w2, hcopy, HO2, HB2, _⟩ := copy_from (sLen := n) (cap := c) HO1.out (R.out.below HB1.out) (Nat.le_refl _) HB1.out (by unfold maxLen; omega)
               clear hown hgrow)
  go_ret
  have hlt := HO2.out.lt'
  refine ⟨w2.heap.size, rfl, HB2.out.size, by simp, ⟨⟨w.heap.size, 0, none⟩, n, ?_, ?_, by rw [HL.out]; omega, by omega, rfl, ?_, ?_, Nat.le_refl _, ?_⟩, ?_, HB2.out.alloc HB2.out.size _⟩
  · rw [HL.out]; exact heap_alloc_new _ _
  · rw [HL.out]
    exact (HO2.out.below ((Below.refl _ _).alloc (Nat.le_refl _) _)).rd (by rw [HL.out]; exact hm)
  · show w.heap.size ≠ w2.heap.size; omega
  · show w.heap.size < _; simp; omega
  · rw [HL.out]; omega
  · intro a n' c' p e hrow
    have h1 : Row (w2.alloc (.cells #[.slice (some ⟨w.heap.size, 0, none⟩) n n, .int .i64 0, .int .i64 0] 32)) w2.heap.size (.slice (some ⟨w.heap.size, 0, none⟩) n n) 0 0 := heap_alloc_new _ _
    have h2 := h1.c0.symm.trans hrow.c0
    simp only [Option.some.injEq, Value.slice.injEq] at h2
    rw [← h2.1]; exact Nat.le_refl _
theorem Cz.keepG {w w' : World} {g D i : Nat} {s : St} (h : Cz w g D s) (hg : w.grownBy w' (some i)) (hne : i ≠ g) (hd : ∀ a n c p e, Row w g (.slice (some a) n c) p e → a.block ≠ i) : Cz w' g D s := by
  have hr : (some i : Option Nat) ≠ some g := fun e => hne (Option.some.inj e)
  rcases h with ⟨he, a, c, q1, q2, q3, q4, q5, q6, q7, q8, q9⟩ | ⟨he, hL, hp, h⟩ | ⟨he, hL, h⟩
  · exact .inl ⟨he, a, c, q1.grown hg hr, q2.grown hg (fun ad e e2 => by cases e; exact hd _ _ _ _ _ q1 (Option.some.inj e2).symm), q3, q4, q5, q6, q7, Nat.le_trans q8 hg.size, q9⟩
  · exact .inr (.inl ⟨he, hL, hp, h.grown hg hr⟩)
  · exact .inr (.inr ⟨he, hL, h.grown hg hr⟩)
theorem Rz.keepG {w w' : World} {g D i : Nat} {s : St} (h : Rz w g D s) (hg : w.grownBy w' (some i)) (hne : i ≠ g) (hd : ∀ a n c p f er wa, Row5 w g (.slice (some a) n c) p f er wa → a.block ≠ i) : Rz w' g D s := by
  have hr : (some i : Option Nat) ≠ some g := fun e => hne (Option.some.inj e)
  rcases h with ⟨he, a, n, c, bs, q1, q2, q3, q4, q5, q6⟩ | ⟨he, hL, a, n, c, at', q1, q2⟩
  · exact .inl ⟨he, a, n, c, bs, q1.grown hg hr, q2.grown hg (fun ad e e2 => by subst e; exact hd _ _ _ _ _ _ _ q1 (Option.some.inj e2).symm), q3, q4, q5, fun ad e => ⟨(q6 ad e).1, (q6 ad e).2.1, Nat.le_trans (q6 ad e).2.2 hg.size⟩⟩
  · exact .inr ⟨he, hL, a, n, c, at', q1.grown hg hr, q2⟩
theorem Cz.wide {w : World} {g D D' : Nat} {s : St} (h : Cz w g D s) (h1 : D ≤ D') (h2 : D' ≤ w.heap.size) : Cz w g D' s := by
  rcases h with ⟨he, a, c, q1, q2, q3, q4, q5, q6, q7, q8, q9⟩ | h
  · exact .inl ⟨he, a, c, q1, q2, q3, q4, q5, q6, by omega, h2, q9⟩
  · exact .inr h
theorem Rz.wide {w : World} {g D D' : Nat} {s : St} (h : Rz w g D s) (h1 : D ≤ D') (h2 : D' ≤ w.heap.size) : Rz w g D' s := by
  rcases h with ⟨he, a, n, c, bs, q1, q2, q3, q4, q5, q6⟩ | h
  · exact .inl ⟨he, a, n, c, bs, q1, q2, q3, q4, q5, fun ad e => ⟨(q6 ad e).1, by have := (q6 ad e).2.1; omega, h2⟩⟩
  · exact .inr h
theorem rd_kb {w w' : World} {base p q : Nat} {a : Option Addr} {n : Nat} {bs : List (BitVec 8)} (h : Rd w a n bs) (hk : KB base w w' p q) (ha : ∀ ad, a = some ad → ad.block < base) (hp : NoB w p) (hq : NoB w q) : Rd w' a n bs := by
  obtain ⟨h1, h2, h3⟩ := h
  refine ⟨h1, h2, fun hn => ?_⟩
  obtain ⟨b, off, rfl, hb, hc⟩ := h3 hn
  have n1 : b ≠ p := fun e => by subst e; exact hp _ _ (hc 0 hn)
  have n2 : b ≠ q := fun e => by subst e; exact hq _ _ (hc 0 hn)
  refine ⟨b, off, rfl, Nat.lt_of_lt_of_le hb hk.size, fun j hj => ?_⟩
  rw [World.cell?_of_block (a := ⟨b, off + j, none⟩) (hk.block b (ha _ rfl) n1 n2)]; exact hc j hj
theorem Cz.kb {w w' : World} {base p q g D : Nat} {s : St} (h : Cz w g D s) (hk : KB base w w' p q) (hp : NoB w p) (hq : NoB w q) (h1 : g < base) (h2 : D ≤ base) (h3 : g ≠ p) (h4 : g ≠ q) : Cz w' g D s := by
  have hr : ∀ {v : Value} {p e : Int}, Row w g v p e → Row w' g v p e := fun {v p e} r => by unfold Row; rw [hk.block g h1 h3 h4]; exact r
  rcases h with ⟨he, a, c, q1, q2, q3, q4, q5, q6, q7, q8, q9⟩ | ⟨he, hL, hp, h⟩ | ⟨he, hL, h⟩
  · exact .inl ⟨he, a, c, hr q1, rd_kb q2 hk (fun ad e => by cases e; omega) hp hq, q3, q4, q5, q6, q7, Nat.le_trans q8 hk.size, q9⟩
  · exact .inr (.inl ⟨he, hL, hp, hr h⟩)
  · exact .inr (.inr ⟨he, hL, hr h⟩)
theorem Rz.kb {w w' : World} {base p q g D : Nat} {s : St} (h : Rz w g D s) (hk : KB base w w' p q) (hp : NoB w p) (hq : NoB w q) (h1 : g < base) (h2 : D ≤ base) (h3 : g ≠ p) (h4 : g ≠ q) : Rz w' g D s := by
  have hr : ∀ {v : Value} {p er wa : Int} {f : Bool}, Row5 w g v p f er wa → Row5 w' g v p f er wa := fun {v p er wa f} r => by unfold Row5; rw [hk.block g h1 h3 h4]; exact r
  rcases h with ⟨he, a, n, c, bs, q1, q2, q3, q4, q5, q6⟩ | ⟨he, hL, a, n, c, at', q1, q2⟩
  · exact .inl ⟨he, a, n, c, bs, hr q1, rd_kb q2 hk (fun ad e => by have := (q6 ad e).2.1; omega) hp hq, q3, q4, q5, fun ad e => ⟨(q6 ad e).1, (q6 ad e).2.1, Nat.le_trans (q6 ad e).2.2 hk.size⟩⟩
  · exact .inr ⟨he, hL, a, n, c, at', hr q1, q2⟩
theorem KB.whole {w0 w w' : World} {base p q : Nat} (hb : Below w0.heap.size w0 w) (hk : KB base w w' p q) (h1 : w0.heap.size ≤ p) (h2 : w0.heap.size ≤ q) (h3 : w0.heap.size ≤ base) : Below w0.heap.size w0 w' :=
  ⟨hk.os.trans hb.os, hk.tape.trans hb.tape, hk.output.trans hb.output, Nat.le_trans hb.size hk.size, fun i hi => (hk.block i (by omega) (by omega) (by omega)).trans (hb.block i hi)⟩
theorem tk_new {w w' : World} {gt : Nat} (hg : w.heap.size = gt) (hw : w.alloc (.cells #[.slice none 0 0, .slice none 0 0, .slice none 0 0] 42) = w') : TK w' gt gt (.slice none 0 0) (.slice none 0 0) (.slice none 0 0) [] := by
  refine ⟨by rw [← hw, ← hg]; exact heap_alloc_new _ _, Nat.le_refl _, rowV_none _ _ _, rowV_none _ _ _, rowV_none _ _ _, fun i e => (by cases e), fun i e => (by cases e), fun i e => (by cases e), fun n e he => (by simp at he), fun n n' j j' e e' he => (by simp at he)⟩
theorem zero_cz {w : World} {g D : Nat} (h : w.heap[g]? = some (.cells #[.slice none 0 0, .int .i64 0, .int .i64 0] 32)) : Cz w g D ([], 0, 0) := .inr (.inl ⟨rfl, rfl, rfl, h⟩)
theorem zero_rz {w : World} {g D : Nat} (h : w.heap[g]? = some (.cells #[.slice none 0 0, .int .i64 0, .bool false, .int .i64 0, .int .i64 0] 36)) : Rz w g D ([], 0, 0) :=
  .inl ⟨rfl, none, 0, 0, [], h, rd_nil _, ⟨by omega, by omega, fun _ => ⟨rfl, rfl⟩, fun ad e => by cases e⟩, Nat.le_refl _, rfl, fun ad e => by cases e⟩
end Go.Proofs.Ytcchknpgkcmneaa.Curs
