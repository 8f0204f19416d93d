/-
  The program's cursor: what reading by a closure does to it.
-/
import Derived.Test.YthdblnfohbldcaaGreatBlModJ
import Derived.Conc.MuLone
import Derived.Laws.IdiomCopy
import Derived.Laws.IdiomStrings
namespace Go.Proofs.YthdblnfohbldcaaGreat.Curs
open Go.ChangeShapes Go.WideShapes Go.ChangeAt Go.RowKit
open Go.Proofs.YthdblnfohbldcaaGreat.Base Go.Proofs.YthdblnfohbldcaaGreat.Nums
set_option linter.unusedVariables false
/-- The cursor's three cells. -/
def Row (w : World) (g : Nat) (v : Value) (at' err : Int) : Prop := w.heap[g]? = some (.cells #[v, .int .i64 at', .int .i64 err] 179)
theorem Row.c0 {w : World} {g : Nat} {v : Value} {p e : Int} (h : Row w g v p e) : w.cell? ⟨g, 0, none⟩ = some v := by rw [cell_of_row _ _ _ _ _ _ h]; rfl
theorem Row.c1 {w : World} {g : Nat} {v : Value} {p e : Int} (h : Row w g v p e) : w.cell? ⟨g, 1, none⟩ = some (.int .i64 p) := by rw [cell_of_row _ _ _ _ _ _ h]; rfl
theorem Row.c2 {w : World} {g : Nat} {v : Value} {p e : Int} (h : Row w g v p e) : w.cell? ⟨g, 2, none⟩ = some (.int .i64 e) := by rw [cell_of_row _ _ _ _ _ _ h]; rfl
theorem Row.fr {w : World} {g : Nat} {v : Value} {p e : Int} (h : Row w g v p e) (k : Nat) : w.frozen? ⟨g, k, none⟩ = false := frozen_of_row _ _ _ _ _ h
theorem Row.lt {w : World} {g : Nat} {v : Value} {p e : Int} (h : Row w g v p e) : g < w.heap.size := block_lt_of_cell h.c0
theorem Row.put01 {w : World} {g : Nat} {v u : Value} {p e q : Int} (h : Row w g v p e) : Row ((w.setCell ⟨g, 0, none⟩ u).setCell ⟨g, 1, none⟩ (.int .i64 q)) g u q e :=
  heap_setCell_same _ _ _ _ _ _ (heap_setCell_same _ _ _ _ _ _ h)
theorem Row.put20 {w : World} {g : Nat} {v u : Value} {p e q : Int} (h : Row w g v p e) : Row ((w.setCell ⟨g, 2, none⟩ (.int .i64 q)).setCell ⟨g, 0, none⟩ u) g u p q :=
  heap_setCell_same _ _ _ _ _ _ (heap_setCell_same _ _ _ _ _ _ h)
theorem Row.grown {w w' : World} {g : Nat} {v : Value} {p e : Int} {r : Option Nat} (h : Row w g v p e) (hg : w.grownBy w' r) (hr : r ≠ some g) : Row w' g v p e := by
  unfold Row; rw [hg.block g h.lt (fun x => hr x.symm)]; exact h
theorem read_nil (f : Nat) (x y : Value) (w : World) : Calls Tryz.prog 129 #[.pointer none, .func (.func f) #[] #[x, y]] w fun e w' => e = .returned (.tuple #[]) ∧ w' = w := by
  go_enter Tryz.func129, Tryz.ntmps129
  go_wp2
  refine bodyPost_ret (results_none rfl _ _ _) rfl ?_
  exact ⟨rfl, rfl⟩
set_option maxRecDepth 100000 in
theorem read_dead (f g : Nat) (x y v : Value) (p er : Int) (w : World) (h : Row w g v p er) (he : er ≠ 0) : Calls Tryz.prog 129 #[.pointer (some ⟨g, 0, none⟩), .func (.func f) #[] #[x, y]] w fun e w' => e = .returned (.tuple #[]) ∧ w' = w := by
  have c2 := h.c2
  have hb : (er != 0) = true := by rw [bne_iff_ne]; exact he
  clear h he
  go_enter Tryz.func129, Tryz.ntmps129
  go_wp2
  refine bodyPost_ret (results_none rfl _ _ _) rfl ?_
  exact ⟨rfl, rfl⟩
set_option maxRecDepth 100000 in
theorem fail_any (g : Nat) (v : Value) (p er : Int) (w : World) (h : Row w g v p 0) (he : er ≠ 0) : Calls Tryz.prog 104 #[.pointer (some ⟨g, 0, none⟩), .int .i64 er] w fun e w' => e = .returned (.tuple #[]) ∧ Row w' g (.slice none 0 0) p er ∧ w.grownBy w' (some g) := by
  have c0 := h.c0
  have c2 := h.c2
  have f0 := h.fr 0
  have f2 := h.fr 2
  have H := hide h
  have hb : (er == 0) = false := by rw [beq_eq_false_iff_ne]; exact he
  clear h he
  go_enter Tryz.func104, Tryz.ntmps104
  go_wp2
  go_end0
  exact ⟨rfl, H.out.put20, grown_cell (grown_cell (World.grownBy.refl _ _) 2 _) 0 _⟩
set_option maxRecDepth 100000 in
theorem read_take (f g n c t : Nat) (a : Addr) (x y : Value) (p : Int) (w : World) (Φ : World → Prop) (hf : ∀ args w, (callFunc f args).run Tryz.prog w = .ok (.enter f args) w) (h : Row w g (.slice (some a) n c) p 0) (ht : t ≤ n) (hn : n ≤ c) (hc : c ≤ 9223372036854775807) (hp : 0 ≤ p ∧ p + n ≤ 9223372036854775807) (hs : a.spot = none)
    (hcall : Calls Tryz.prog f #[.slice (some a) n c, x, y] w fun e w1 => e = .returned (.tuple #[.int .i64 (t : Int), .int .i64 0]) ∧ Φ w1) (hrow : ∀ w1, Φ w1 → Row w1 g (.slice (some a) n c) p 0) :
    Calls Tryz.prog 129 #[.pointer (some ⟨g, 0, none⟩), .func (.func f) #[] #[x, y]] w fun e w' => e = .returned (.tuple #[]) ∧ ∃ w1 a', Φ w1 ∧ Row w' g (.slice (some a') (n - t) (c - t)) (p + t) 0 ∧ w1.grownBy w' (some g) ∧ a'.spot = none ∧ a'.block = a.block ∧ (t < n → a' = ⟨a.block, a.off + t, none⟩) := by
  have c0 := h.c0
  have c2 := h.c2
  have HC := hide hcall
  have HR := hide hrow
  clear h hcall hrow
  obtain ⟨b, off, sp⟩ := a
  simp only at hs
  subst hs
  go_enter Tryz.func129, Tryz.ntmps129
  go_wp2_with fail
  refine HC.out.mono ?_
  rintro e w1 ⟨rfl, hφ⟩
  have r1 := HR.out w1 hφ
  have d0 := r1.c0
  have d1 := r1.c1
  have f0 := r1.fr 0
  have f1 := r1.fr 1
  have HR1 := hide r1
  have HΦ := hide hφ
  have hti : (t : Int) ≤ (n : Int) := by omega
  have htc : (t : Int) ≤ (c : Int) := by omega
  clear r1 hφ
  by_cases hct : c = t
  · subst hct
    have hnt : n = c := by omega
    go_wp2_with fail
    go_end0
    refine ⟨rfl, w1, ⟨b, off, none⟩, HΦ.out, ?_, grown_cell (grown_cell (World.grownBy.refl _ _) 0 _) 1 _, rfl, rfl, fun h => by omega⟩
    rw [show n - c = 0 by omega, Nat.sub_self]
    exact HR1.out.put01 (u := .slice (some ⟨b, off, none⟩) 0 0) (q := p + (c : Int))
  · go_wp2_with fail
    go_end0
    exact ⟨rfl, w1, ⟨b, off + t, none⟩, HΦ.out, HR1.out.put01, grown_cell (grown_cell (World.grownBy.refl _ _) 0 _) 1 _, rfl, rfl, fun _ => rfl⟩
set_option maxRecDepth 100000 in
theorem read_fails (f g : Nat) (v : Value) (t er : Int) (x y : Value) (p : Int) (w : World) (Φ : World → Prop) (hf : ∀ args w, (callFunc f args).run Tryz.prog w = .ok (.enter f args) w) (h : Row w g v p 0) (he : er ≠ 0)
    (hcall : Calls Tryz.prog f #[v, x, y] w fun e w1 => e = .returned (.tuple #[.int .i64 t, .int .i64 er]) ∧ Φ w1) (hrow : ∀ w1, Φ w1 → Row w1 g v p 0) (a : Option Addr) (n c : Nat) (hv : v = .slice a n c) :
    Calls Tryz.prog 129 #[.pointer (some ⟨g, 0, none⟩), .func (.func f) #[] #[x, y]] w fun e w' => e = .returned (.tuple #[]) ∧ ∃ w1, Φ w1 ∧ Row w' g (.slice none 0 0) p er ∧ w1.grownBy w' (some g) := by
  subst hv
  have c0 := h.c0
  have c2 := h.c2
  have HC := hide hcall
  have HR := hide hrow
  have hb : (er != 0) = true := by rw [bne_iff_ne]; exact he
  have HE := hide he
  clear h hcall hrow he
  go_enter Tryz.func129, Tryz.ntmps129
  go_wp2_with fail
  refine HC.out.mono ?_
  rintro e w1 ⟨rfl, hφ⟩
  have HΦ := hide hφ
  have HR1 := hide (HR.out w1 hφ)
  clear hφ
  go_wp2_with fail
  refine (fail_any g _ p er w1 HR1.out HE.out).mono ?_
  rintro e w2 ⟨rfl, hr, hg⟩
  have HR2 := hide hr
  have HG2 := hide hg
  clear hr hg
  go_wp2_with fail
  refine bodyPost_ret (results_none rfl _ _ _) rfl ?_
  exact ⟨rfl, w1, HΦ.out, HR2.out, HG2.out⟩
/-- The number at the head, with a bound: the value, how many bytes, the error. -/
def atMost (L : List (BitVec 8)) (most : Int) : Nat × Nat × Nat := if (get L).2.2 ≠ 0 then (0, 0, (get L).2.2) else if most < ((get L).1 : Int) then (0, 0, 23) else get L
theorem get_err (L : List (BitVec 8)) : (get L).2.2 = 0 ∨ (get L).2.2 = 20 ∨ (get L).2.2 = 21 := by
  rcases get_cases L with ⟨u, m, g1, _⟩ | ⟨g1, _⟩ | ⟨g1, _⟩ <;> rw [g1] <;> simp
theorem get_fst (L : List (BitVec 8)) : (get L).1 ≤ 9223372036854775807 := by
  rcases get_cases L with ⟨u, m, g1, _, _, _, _, h⟩ | ⟨g1, _⟩ | ⟨g1, _⟩ <;> rw [g1]
  · show u ≤ _; omega
  · simp
  · simp
theorem get_len (L : List (BitVec 8)) : (get L).2.1 ≤ L.length := by
  rcases get_cases L with ⟨u, m, g1, _, _, h, _⟩ | ⟨g1, _⟩ | ⟨g1, _⟩ <;> rw [g1]
  · exact h
  · simp
  · simp
set_option maxRecDepth 100000 in
theorem atMost_any (a : Option Addr) (n c : Nat) (L : List (BitVec 8)) (most : Int) (w : World) (hr : Rd w a n L) (hn : n ≤ c) (hc : c ≤ 9223372036854775807) :
    Calls Tryz.prog 141 #[.slice a n c, .int .i64 most] w fun e w' => e = .returned (.tuple #[.int .i64 ((atMost L most).1 : Nat), .int .i64 ((atMost L most).2.1 : Nat), .int .i64 ((atMost L most).2.2 : Nat)]) ∧ Below w.heap.size w w' := by
  have R := hide hr
  have h1 := get_fst L
  clear hr
  have HD : Hid (atMost L most = if (get L).2.2 ≠ 0 then (0, 0, (get L).2.2) else if most < ((get L).1 : Int) then (0, 0, 23) else get L) := rfl
  go_enter Tryz.func141, Tryz.ntmps141
  go_wp2_with fail
  refine (get_any _ _ _ _ _ R.out hn hc).mono ?_
  rintro e w1 ⟨rfl, hb⟩
  have HB := hide hb
  clear hb
  generalize get L = G at HD h1
  obtain ⟨gv, gn, ge⟩ := G
  simp only at h1 HD ⊢
  by_cases he : ge = 0
  · subst he
    by_cases hm : most < (gv : Int)
    · have HE : Hid (atMost L most = (0, 0, 23)) := by
        have := HD.out; rw [if_neg (by simp), if_pos hm] at this; exact this
      go_wp2_with fail
      go_ret3
      exact ⟨ret3 HE.out rfl rfl rfl, HB.out⟩
    · have HE : Hid (atMost L most = (gv, gn, 0)) := by
        have := HD.out; rw [if_neg (by simp), if_neg hm] at this; exact this
      go_wp2_with fail
      go_ret3
      exact ⟨ret3 HE.out rfl rfl rfl, HB.out⟩
  · have HE : Hid (atMost L most = (0, 0, ge)) := by
      have := HD.out; rw [if_pos he] at this; exact this
    have hb : ((ge : Int) != 0) = true := by rw [bne_iff_ne]; omega
    go_wp2_with fail
    go_ret3
    exact ⟨ret3 HE.out rfl rfl rfl, HB.out⟩
/-- A box of one cell. -/
def Box (w : World) (g : Nat) (v : Value) (t : TypeId) : Prop := w.heap[g]? = some (.cells #[v] t)
theorem Box.c0 {w : World} {g : Nat} {v : Value} {t : TypeId} (h : Box w g v t) : w.cell? ⟨g, 0, none⟩ = some v := by rw [cell_of_row _ _ _ _ _ _ h]; rfl
theorem Box.fr {w : World} {g : Nat} {v : Value} {t : TypeId} (h : Box w g v t) : w.frozen? ⟨g, 0, none⟩ = false := frozen_of_row _ _ _ _ _ h
theorem Box.lt {w : World} {g : Nat} {v : Value} {t : TypeId} (h : Box w g v t) : g < w.heap.size := block_lt_of_cell h.c0
theorem Box.put {w : World} {g : Nat} {v u : Value} {t : TypeId} (h : Box w g v t) : Box (w.setCell ⟨g, 0, none⟩ u) g u t := heap_setCell_same _ _ _ _ _ _ h
theorem Box.below {w w' : World} {g : Nat} {v : Value} {t : TypeId} (h : Box w g v t) (hb : Below w.heap.size w w') : Box w' g v t := by
  unfold Box; rw [hb.block g h.lt]; exact h
set_option maxRecDepth 100000 in
theorem num1_any (a : Option Addr) (n c p3 p5 : Nat) (L : List (BitVec 8)) (most : Int) (w : World) (hr : Rd w a n L) (hn : n ≤ c) (hc : c ≤ 9223372036854775807) (h3 : Box w p3 (.int .i64 most) 2) (h5 : Box w p5 (.int .i64 0) 2) :
    Calls Tryz.prog 140 #[.slice a n c, .pointer (some ⟨p3, 0, none⟩), .pointer (some ⟨p5, 0, none⟩)] w fun e w' => e = .returned (.tuple #[.int .i64 ((atMost L most).2.1 : Nat), .int .i64 ((atMost L most).2.2 : Nat)]) ∧ Box w' p5 (.int .i64 ((atMost L most).1 : Nat)) 2 ∧ w.grownBy w' (some p5) := by
  have c3 := h3.c0
  have R := hide hr
  have H5 := hide h5
  clear hr h3 h5
  go_enter Tryz.func140, Tryz.ntmps140
  go_wp2_with fail
  refine (atMost_any _ _ _ _ _ _ R.out hn hc).mono ?_
  rintro e w1 ⟨rfl, hb⟩
  have H51 := hide (H5.out.below hb)
  have c5 := H51.out.c0
  have f5 := H51.out.fr
  have HB := hide hb
  clear hb
  generalize hG : atMost L most = G
  have HG := hide hG
  clear hG
  obtain ⟨gv, gn, ge⟩ := G
  simp only
  go_wp2_with fail
  go_ret2
  rw [HG.out]
  exact ⟨rfl, H51.out.put, grown_cell (grown_of_below HB.out) 0 _⟩
theorem enter_of {f : FuncId} {fn : Func} {c : Code} (hf : Tryz.prog.funcs[f]? = some fn) (hname : (fn.name == "runtime.NumGoroutine") = false) (hb : fn.body = some c) (args : Array Value) (w : World) : (callFunc f args).run Tryz.prog w = .ok (.enter f args) w := Go.MuLone.run_callFunc_enter hf hname hb args w
/-- The cursor in block g: what is left, its place; it has not failed. -/
def Cur (w : World) (g : Nat) (L : List (BitVec 8)) (p : Nat) : Prop :=
  ∃ a c, Row w g (.slice (some a) L.length c) (p : Int) 0 ∧ Rd w (some a) L.length L ∧ L.length ≤ c ∧ c ≤ 9223372036854775807 ∧ a.spot = none ∧ a.block ≠ g ∧ a.block < w.heap.size ∧ (p : Int) + (L.length : Int) ≤ 9223372036854775807
/-- It has failed. -/
def Dead (w : World) (g p er : Nat) : Prop := Row w g (.slice none 0 0) (p : Int) (er : Int) ∧ er ≠ 0
theorem rd_move {w : World} {a a' : Addr} {n t : Nat} {L : List (BitVec 8)} (h : Rd w (some a) n L) (hs : a.spot = none) (ht : t ≤ n) (hm : t < n → a' = ⟨a.block, a.off + t, none⟩) : Rd w (some a') (n - t) (L.drop t) := by
  by_cases hlt : t < n
  · rw [hm hlt]
    obtain ⟨b, off, sp⟩ := a
    simp only at hs
    subst hs
    exact h.from t ht
  · have e : L.drop t = [] := List.drop_eq_nil_of_le (by have := h.1; omega)
    rw [e, show n - t = 0 by omega]
    exact rd_zero _ _
theorem atMost_len (L : List (BitVec 8)) (most : Int) : (atMost L most).2.1 ≤ L.length := by
  unfold atMost
  split
  · simp
  · split
    · simp
    · exact get_len L
/-- What a reading that takes t bytes leaves: v in the box, the cursor moved on. -/
theorem moved {w W2 w1 w' : World} {g p5 p t c : Nat} {a a' : Addr} {L : List (BitVec 8)} (hb : Below w.heap.size w W2) (h1 : W2.grownBy w1 (some p5)) (h5 : w.heap.size ≤ p5) (h2 : w1.grownBy w' (some g)) (hrd : Rd w (some a) L.length L) (hs : a.spot = none) (hag : a.block ≠ g) (halt : a.block < w.heap.size)
    (ht : t ≤ L.length) (hlc : L.length ≤ c) (hc : c ≤ 9223372036854775807) (hp : (p : Int) + (L.length : Int) ≤ 9223372036854775807)
    (hrow : Row w' g (.slice (some a') (L.length - t) (c - t)) ((p : Int) + (t : Int)) 0) (hs' : a'.spot = none) (hb' : a'.block = a.block) (hm : t < L.length → a' = ⟨a.block, a.off + t, none⟩) : Cur w' g (L.drop t) (p + t) ∧ w.grownBy w' (some g) := by
  have g1 : w.grownBy w1 (some g) := grown_new (grown_of_below hb) h1 (fun i e => by cases e; exact h5)
  refine ⟨⟨a', c - t, ?_, ?_, by rw [List.length_drop]; omega, by omega, hs', by rw [hb']; exact hag, ?_, ?_⟩, grown_trans g1 h2⟩
  · rw [List.length_drop, Int.natCast_add]; exact hrow
  · have r1 : Rd w' (some a) L.length L := (hrd.below hb).grown h1 (fun ad e e2 => by cases e; have := Option.some.inj e2; omega) |>.grown h2 (fun ad e e2 => by cases e; exact hag (Option.some.inj e2).symm)
    rw [List.length_drop]
    exact rd_move r1 hs ht hm
  · rw [hb']; exact Nat.lt_of_lt_of_le halt (Nat.le_trans g1.size h2.size)
  · rw [List.length_drop]; omega
set_option maxHeartbeats 1000000 in
set_option maxRecDepth 100000 in
theorem num_any (g p : Nat) (L : List (BitVec 8)) (most : Int) (w : World) (h : Cur w g L p) :
    Calls Tryz.prog 102 #[.pointer (some ⟨g, 0, none⟩), .int .i64 most] w fun e w' => e = .returned (.int .i64 ((atMost L most).1 : Nat)) ∧ w.grownBy w' (some g) ∧
      (if (atMost L most).2.2 = 0 then Cur w' g (L.drop (atMost L most).2.1) (p + (atMost L most).2.1) else Dead w' g p (atMost L most).2.2) := by
  obtain ⟨a, c, hrow, hrd, hlc, hc, hs, hab, halt, hp⟩ := h
  have hglt := hrow.lt
  have HB : Hid (Below w.heap.size w ((w.alloc (.cells #[.int .i64 most] 2)).alloc (.cells #[.int .i64 0] 2))) := ((Below.refl _ _).alloc (Nat.le_refl _) _).alloc (by simp) _
  have H3 : Hid (Box ((w.alloc (.cells #[.int .i64 most] 2)).alloc (.cells #[.int .i64 0] 2)) w.heap.size (.int .i64 most) 2) := by
    have h : Box (w.alloc (.cells #[.int .i64 most] 2)) w.heap.size (.int .i64 most) 2 := heap_alloc_new _ _
    exact h.below ((Below.refl _ _).alloc (Nat.le_refl _) _)
  have H5 : Hid (Box ((w.alloc (.cells #[.int .i64 most] 2)).alloc (.cells #[.int .i64 0] 2)) (w.heap.size + 1) (.int .i64 0) 2) := by
    have h : Box ((w.alloc (.cells #[.int .i64 most] 2)).alloc (.cells #[.int .i64 0] 2)) (w.alloc (.cells #[.int .i64 most] 2)).heap.size (.int .i64 0) 2 := heap_alloc_new _ _
    rw [show (w.alloc (.cells #[.int .i64 most] 2)).heap.size = w.heap.size + 1 by simp] at h
    exact h
  have HRow := hide (hrow.grown (below_grown HB.out) (by simp))
  have HRd := hide hrd
  have HN := hide (num1_any (some a) L.length c w.heap.size (w.heap.size + 1) L most _ (hrd.below HB.out) hlc hc H3.out H5.out)
  have hal := atMost_len L most
  clear hrow hrd H3
  have HF := hide (fun args w => enter_of Tryz.func140 (by kernel_rfl) (c := _) rfl args w)
  generalize hG : atMost L most = G at HN hal
  have HG := hide hG
  clear hG
  obtain ⟨gv, gn, ge⟩ := G
  simp only at HN hal
  by_cases he : ge = 0
  · subst he
    go_enter Tryz.func102, Tryz.ntmps102
    go_wp2_with fail
    refine (read_take _ g L.length c gn a _ _ (p : Int) _ (fun w1 => Box w1 (w.heap.size + 1) (.int .i64 (gv : Int)) 2 ∧ ((w.alloc (.cells #[.int .i64 most] 2)).alloc (.cells #[.int .i64 0] 2)).grownBy w1 (some (w.heap.size + 1))) HF.out HRow.out hal hlc hc ⟨by omega, hp⟩ hs HN.out (fun w1 h => HRow.out.grown h.2 (fun e => by have := Option.some.inj e; omega))).mono ?_
    rintro e w' ⟨rfl, w1, a', ⟨hbox, hg1⟩, hrow', hg', hs', hb', hm'⟩
    have hmv := moved HB.out hg1 (by omega) hg' HRd.out hs hab halt hal hlc hc hp hrow' hs' hb' hm'
    have hbx : Box w' (w.heap.size + 1) (.int .i64 (gv : Int)) 2 := by
      unfold Box; rw [hg'.block _ hbox.lt (fun e => by have := Option.some.inj e; omega)]; exact hbox
    have c5 := hbx.c0
    have HMV := hide hmv
    clear hbox hg1 hrow' hg' hs' hb' hm' hmv hbx
    go_wp2_with fail
    go_ret
    exact ⟨rfl, HMV.out.2, by first | exact HMV.out.1 | (simp only [if_true]; exact HMV.out.1)⟩
  · go_enter Tryz.func102, Tryz.ntmps102
    go_wp2_with fail
    refine (read_fails _ g _ (gn : Int) (ge : Int) _ _ (p : Int) _ (fun w1 => Box w1 (w.heap.size + 1) (.int .i64 (gv : Int)) 2 ∧ ((w.alloc (.cells #[.int .i64 most] 2)).alloc (.cells #[.int .i64 0] 2)).grownBy w1 (some (w.heap.size + 1))) HF.out HRow.out (by omega) HN.out (fun w1 h => HRow.out.grown h.2 (fun e => by have := Option.some.inj e; omega)) _ _ _ rfl).mono ?_
    rintro e w' ⟨rfl, w1, ⟨hbox, hg1⟩, hrow', hg'⟩
    have hbx : Box w' (w.heap.size + 1) (.int .i64 (gv : Int)) 2 := by
      unfold Box; rw [hg'.block _ hbox.lt (fun e => by have := Option.some.inj e; omega)]; exact hbox
    have c5 := hbx.c0
    have HGR : Hid (w.grownBy w' (some g)) := grown_trans (grown_new (grown_of_below HB.out) hg1 (fun i e => by cases e; omega)) hg'
    have HRW := hide hrow'
    clear hbox hg1 hrow' hg' hbx
    go_wp2_with fail
    go_ret
    exact ⟨rfl, HGR.out, by first | exact ⟨HRW.out, he⟩ | (simp only [if_neg he]; exact ⟨HRW.out, he⟩)⟩
end Go.Proofs.YthdblnfohbldcaaGreat.Curs
/-
  The program's cursor: Fixed, Rest, End, NewCursor.
-/
namespace Go.Proofs.YthdblnfohbldcaaGreat.Curs
open Go.ChangeShapes Go.WideShapes Go.ChangeAt Go.RowKit
open Go.Proofs.YthdblnfohbldcaaGreat.Base Go.Proofs.YthdblnfohbldcaaGreat.Nums
set_option linter.unusedVariables false
/-- A fixed word at the head: the value, how many bytes, the error. -/
def fixAt (L : List (BitVec 8)) (n : Int) : Nat × Nat × Nat := if ¬ (1 ≤ n ∧ n ≤ 8) then (0, 0, 23) else if (L.length : Int) < n then (0, 0, 20) else (word (L.take n.toNat), n.toNat, 0)
theorem fixAt_len (L : List (BitVec 8)) (n : Int) : (fixAt L n).2.1 ≤ L.length := by
  unfold fixAt
  split
  · simp
  · split
    · simp
    · show n.toNat ≤ _; omega
set_option maxRecDepth 100000 in
theorem fixed1_any (a : Option Addr) (n c p3 p5 : Nat) (L : List (BitVec 8)) (k : Int) (w : World) (hr : Rd w a n L) (hn : n ≤ c) (hc : c ≤ 9223372036854775807) (h3 : Box w p3 (.int .i64 k) 3) (h5 : Box w p5 (.int .u64 0) 39) (h35 : p3 ≠ p5) :
    Calls Tryz.prog 130 #[.slice a n c, .pointer (some ⟨p3, 0, none⟩), .pointer (some ⟨p5, 0, none⟩)] w fun e w' => e = .returned (.tuple #[.int .i64 ((fixAt L k).2.1 : Nat), .int .i64 ((fixAt L k).2.2 : Nat)]) ∧ Box w' p5 (.int .u64 ((fixAt L k).1 : Nat)) 39 ∧ w.grownBy w' (some p5) := by
  have c3 := h3.c0
  have R := hide hr
  have HL := hide hr.1
  have H5 := hide h5
  have H3 := hide h3
  clear hr h3 h5
  by_cases hk : 1 ≤ k ∧ k ≤ 8
  · have hd : decide ((1 : Int) ≤ k ∧ k ≤ 8) = true := by simpa using hk
    by_cases hl : (n : Int) < k
    · have HE : Hid (fixAt L k = (0, 0, 20)) := by
        show _ = _; unfold fixAt; rw [if_neg (by omega), if_pos (by rw [HL.out]; exact hl)]
      clear hk
      go_enter Tryz.func130, Tryz.ntmps130
      go_wp2_with fail
      refine (width_any _ _).mono ?_
      rintro e w ⟨rfl, rfl⟩
      rw [hd]
      go_wp2_with fail
      go_ret2
      rw [HE.out]
      exact ⟨rfl, H5.out, World.grownBy.refl _ _⟩
    · obtain ⟨m, rfl⟩ := Int.eq_ofNat_of_zero_le (by omega : 0 ≤ k)
      have HE : Hid (fixAt L (m : Int) = (word (L.take m), m, 0)) := by
        show _ = _; unfold fixAt; rw [if_neg (by omega), if_neg (by rw [HL.out]; exact hl), Int.toNat_natCast]
      have hmn : m ≤ n := by omega
      have hmc : m ≤ c := by omega
      have hmi : (m : Int) ≤ (n : Int) := by omega
      have hmci : (m : Int) ≤ (c : Int) := by omega
      clear hk
      go_enter Tryz.func130, Tryz.ntmps130
      go_wp2_with fail
      refine (width_any _ _).mono ?_
      rintro e w ⟨rfl, rfl⟩
      rw [hd]
      go_wp2_with fail
      refine (word_any a m c (L.take m) w (R.out.cut m hmn) hmc hc).mono ?_
      rintro e w1 ⟨rfl, hb⟩
      have H51 := hide (H5.out.below hb)
      have c5 := H51.out.c0
      have f5 := H51.out.fr
      have d3 : w1.cell? ⟨p3, 0, none⟩ = some (.int .i64 (m : Int)) := (H3.out.below hb).c0
      have HB := hide hb
      clear hb c3
      generalize hW : word (L.take m) = W
      have HW := hide hW
      clear hW
      go_wp2_with fail
      go_ret2
      rw [HE.out, HW.out]
      exact ⟨rfl, H51.out.put, grown_cell (grown_of_below HB.out) 0 _⟩
  · have hd : decide ((1 : Int) ≤ k ∧ k ≤ 8) = false := by simpa using hk
    have HE : Hid (fixAt L k = (0, 0, 23)) := by show _ = _; unfold fixAt; rw [if_pos hk]
    clear hk
    go_enter Tryz.func130, Tryz.ntmps130
    go_wp2_with fail
    refine (width_any _ _).mono ?_
    rintro e w ⟨rfl, rfl⟩
    rw [hd]
    go_wp2_with fail
    go_ret2
    rw [HE.out]
    exact ⟨rfl, H5.out, World.grownBy.refl _ _⟩
set_option maxHeartbeats 1000000 in
set_option maxRecDepth 100000 in
theorem fixedC_any (g p : Nat) (L : List (BitVec 8)) (most : Int) (w : World) (h : Cur w g L p) :
    Calls Tryz.prog 84 #[.pointer (some ⟨g, 0, none⟩), .int .i64 most] w fun e w' => e = .returned (.int .u64 ((fixAt L most).1 : Nat)) ∧ w.grownBy w' (some g) ∧
      (if (fixAt L most).2.2 = 0 then Cur w' g (L.drop (fixAt L most).2.1) (p + (fixAt L most).2.1) else Dead w' g p (fixAt L most).2.2) := by
  obtain ⟨a, c, hrow, hrd, hlc, hc, hs, hab, halt, hp⟩ := h
  have hglt := hrow.lt
  have HB : Hid (Below w.heap.size w ((w.alloc (.cells #[.int .i64 most] 3)).alloc (.cells #[.int .u64 0] 39))) := ((Below.refl _ _).alloc (Nat.le_refl _) _).alloc (by simp) _
  have H3 : Hid (Box ((w.alloc (.cells #[.int .i64 most] 3)).alloc (.cells #[.int .u64 0] 39)) w.heap.size (.int .i64 most) 3) := by
    have h : Box (w.alloc (.cells #[.int .i64 most] 3)) w.heap.size (.int .i64 most) 3 := heap_alloc_new _ _
    exact h.below ((Below.refl _ _).alloc (Nat.le_refl _) _)
  have H5 : Hid (Box ((w.alloc (.cells #[.int .i64 most] 3)).alloc (.cells #[.int .u64 0] 39)) (w.heap.size + 1) (.int .u64 0) 39) := by
    have h : Box ((w.alloc (.cells #[.int .i64 most] 3)).alloc (.cells #[.int .u64 0] 39)) (w.alloc (.cells #[.int .i64 most] 3)).heap.size (.int .u64 0) 39 := heap_alloc_new _ _
    rw [show (w.alloc (.cells #[.int .i64 most] 3)).heap.size = w.heap.size + 1 by simp] at h
    exact h
  have HRow := hide (hrow.grown (below_grown HB.out) (by simp))
  have HRd := hide hrd
  have HN := hide (fixed1_any (some a) L.length c w.heap.size (w.heap.size + 1) L most _ (hrd.below HB.out) hlc hc H3.out H5.out (by omega))
  have hal := fixAt_len L most
  clear hrow hrd H3
  have HF := hide (fun args w => enter_of Tryz.func130 (by kernel_rfl) (c := _) rfl args w)
  generalize hG : fixAt L most = G at HN hal
  have HG := hide hG
  clear hG
  obtain ⟨gv, gn, ge⟩ := G
  simp only at HN hal
  by_cases he : ge = 0
  · subst he
    go_enter Tryz.func84, Tryz.ntmps84
    go_wp2_with fail
    refine (read_take _ g L.length c gn a _ _ (p : Int) _ (fun w1 => Box w1 (w.heap.size + 1) (.int .u64 (gv : Int)) 39 ∧ ((w.alloc (.cells #[.int .i64 most] 3)).alloc (.cells #[.int .u64 0] 39)).grownBy w1 (some (w.heap.size + 1))) HF.out HRow.out hal hlc hc ⟨by omega, hp⟩ hs HN.out (fun w1 h => HRow.out.grown h.2 (fun e => by have := Option.some.inj e; omega))).mono ?_
    rintro e w' ⟨rfl, w1, a', ⟨hbox, hg1⟩, hrow', hg', hs', hb', hm'⟩
    have hmv := moved HB.out hg1 (by omega) hg' HRd.out hs hab halt hal hlc hc hp hrow' hs' hb' hm'
    have hbx : Box w' (w.heap.size + 1) (.int .u64 (gv : Int)) 39 := by
      unfold Box; rw [hg'.block _ hbox.lt (fun e => by have := Option.some.inj e; omega)]; exact hbox
    have c5 := hbx.c0
    have HMV := hide hmv
    clear hbox hg1 hrow' hg' hs' hb' hm' hmv hbx
    go_wp2_with fail
    go_ret
    exact ⟨rfl, HMV.out.2, by first | exact HMV.out.1 | (simp only [if_true]; exact HMV.out.1)⟩
  · go_enter Tryz.func84, Tryz.ntmps84
    go_wp2_with fail
    refine (read_fails _ g _ (gn : Int) (ge : Int) _ _ (p : Int) _ (fun w1 => Box w1 (w.heap.size + 1) (.int .u64 (gv : Int)) 39 ∧ ((w.alloc (.cells #[.int .i64 most] 3)).alloc (.cells #[.int .u64 0] 39)).grownBy w1 (some (w.heap.size + 1))) HF.out HRow.out (by omega) HN.out (fun w1 h => HRow.out.grown h.2 (fun e => by have := Option.some.inj e; omega)) _ _ _ rfl).mono ?_
    rintro e w' ⟨rfl, w1, ⟨hbox, hg1⟩, hrow', hg'⟩
    have hbx : Box w' (w.heap.size + 1) (.int .u64 (gv : Int)) 39 := by
      unfold Box; rw [hg'.block _ hbox.lt (fun e => by have := Option.some.inj e; omega)]; exact hbox
    have c5 := hbx.c0
    have HGR : Hid (w.grownBy w' (some g)) := grown_trans (grown_new (grown_of_below HB.out) hg1 (fun i e => by cases e; omega)) hg'
    have HRW := hide hrow'
    clear hbox hg1 hrow' hg' hbx
    go_wp2_with fail
    go_ret
    exact ⟨rfl, HGR.out, by first | exact ⟨HRW.out, he⟩ | (simp only [if_neg he]; exact ⟨HRW.out, he⟩)⟩
theorem rest_any (g p : Nat) (L : List (BitVec 8)) (w : World) (h : Cur w g L p) : Calls Tryz.prog 114 #[.pointer (some ⟨g, 0, none⟩)] w fun e w' => e = .returned (.int .i64 (L.length : Nat)) ∧ w' = w := by
  obtain ⟨a, c, hrow, _⟩ := h
  have c0 := hrow.c0
  clear hrow
  go_enter Tryz.func114, Tryz.ntmps114
  go_wp2
  go_ret
  exact ⟨rfl, rfl⟩
theorem rest_dead (g p er : Nat) (w : World) (h : Dead w g p er) : Calls Tryz.prog 114 #[.pointer (some ⟨g, 0, none⟩)] w fun e w' => e = .returned (.int .i64 0) ∧ w' = w := by
  have c0 := h.1.c0
  clear h
  go_enter Tryz.func114, Tryz.ntmps114
  go_wp2
  go_ret
  exact ⟨rfl, rfl⟩
set_option maxRecDepth 100000 in
theorem end_any (g p : Nat) (L : List (BitVec 8)) (w : World) (h : Cur w g L p) : Calls Tryz.prog 85 #[.pointer (some ⟨g, 0, none⟩)] w fun e w' => e = .returned (.agg (if L.length = 0 then #[.int .i64 0, .int .i64 0] else #[.int .i64 22, .int .i64 (p : Int)])) ∧ Below w.heap.size w w' := by
  obtain ⟨a, c, hrow, _⟩ := h
  have hglt := hrow.lt
  have hne : g ≠ w.heap.size := by omega
  have c0 := hrow.c0
  have c1 := hrow.c1
  have c2 := hrow.c2
  clear hrow
  by_cases hl : L.length = 0
  · have hd : decide (0 < L.length) = false := by simp [hl]
    rw [if_pos hl]
    go_enter Tryz.func85, Tryz.ntmps85
    go_wp2
    refine bodyPost_ret (results_cell_row rfl _ _ w.heap.size 139 #[.int .i64 0, .int .i64 0] (0, 0) _ rfl (heap_alloc_new _ _) Tryz.underlying139 rfl (by kernel_rfl)) rfl ?_
    exact ⟨rfl, (Below.refl _ _).alloc (Nat.le_refl _) _⟩
  · have hd : decide (0 < L.length) = true := by simp; omega
    have hli : (0 : Int) < (L.length : Int) := by omega
    rw [if_neg hl]
    go_enter Tryz.func85, Tryz.ntmps85
    go_wp2
    refine bodyPost_ret (results_cell_row rfl _ _ w.heap.size 139 #[.int .i64 22, .int .i64 (p : Int)] (0, 0) _ rfl (heap_alloc_new _ _) Tryz.underlying139 rfl (by kernel_rfl)) rfl ?_
    exact ⟨rfl, (Below.refl _ _).alloc (Nat.le_refl _) _⟩
set_option maxRecDepth 100000 in
theorem end_dead (g p er : Nat) (w : World) (h : Dead w g p er) : Calls Tryz.prog 85 #[.pointer (some ⟨g, 0, none⟩)] w fun e w' => e = .returned (.agg #[.int .i64 (er : Int), .int .i64 (p : Int)]) ∧ Below w.heap.size w w' := by
  have hglt := h.1.lt
  have hne : g ≠ w.heap.size := by omega
  have c1 := h.1.c1
  have c2 := h.1.c2
  have hb : ((er : Int) != 0) = true := by rw [bne_iff_ne]; have := h.2; omega
  clear h
  go_enter Tryz.func85, Tryz.ntmps85
  go_wp2
  go_region_held (fun V => V.cell? ⟨g, 1, none⟩ = some (.int .i64 (p : Int)) ∧ V.cell? ⟨g, 2, none⟩ = some (.int .i64 (er : Int))) (go_keep) (fail)
  all_goals
    go_wp2
    refine bodyPost_ret (results_cell_row rfl _ _ w.heap.size 139 #[.int .i64 (er : Int), .int .i64 (p : Int)] (0, 0) _ rfl (show (w.alloc (.cells #[.int .i64 (er : Int), .int .i64 (p : Int)] 139)).heap[w.heap.size]? = _ from heap_alloc_new _ _) Tryz.underlying139 rfl (by kernel_rfl)) rfl ?_
    exact ⟨rfl, ((Below.refl _ _).alloc (Nat.le_refl _) _).drew⟩
/-- 'copy' into a row that the call itself made, from whatever slice. -/
theorem copy_from {w0 w1 : World} {base g n sLen cap : Nat} {a : Option Addr} {zs bs : List (BitVec 8)} (ho : Own w1 base (.slice (some ⟨g, 0, none⟩) n n) zs) (hr : Rd w1 a n bs) (hs : n ≤ sLen) (hb : Below base w0 w1) (hm : n ≤ maxLen) :
    ∃ w2, (∀ ty, (Builtin.copy_ #[24, 24] ty #[.slice (some ⟨g, 0, none⟩) n n, .slice a sLen cap]).run Tryz.prog w1 = .ok (.int .i64 n) w2) ∧ Hid (Own w2 base (.slice (some ⟨g, 0, none⟩) n n) bs) ∧ Hid (Below base w0 w2) ∧ Hid (w1.grownBy w2 (some g)) := by
  by_cases hn : n = 0
  · subst hn
    have hbs : bs = [] := List.length_eq_zero_iff.1 hr.1
    have hzs : zs = [] := List.length_eq_zero_iff.1 (ho.len).symm
    subst hbs hzs
    refine ⟨w1, fun ty => ?_, ho, hb, World.grownBy.refl _ _⟩
    exact run_copy_none w1 24 24 ty 5 _ a 0 0 sLen cap Tryz.underlying24 info1 (by simp)
  · obtain ⟨b, off, rfl, _, _⟩ := hr.2.2 (by omega)
    have hn' := ho.len
    have hl := hr.1
    have hg := ho.heap
    have hgb := ho.lt'
    refine ⟨w1.setRow g (vals bs).toArray, fun ty => ?_, ?_, below_setRow hb hgb.1 _, ?_⟩
    · have h := run_copy_row Tryz.prog w1 24 24 ty 5 g 0 n n ⟨b, off, none⟩ sLen cap (vals zs).toArray 5 (vals bs) Tryz.underlying24 info1 hg
        (by rw [length_vals, hl]; exact (Nat.min_eq_right hs).symm) (fun j v hv => hr.cells j v hv) (by simp [length_vals]; omega) (vals_one _)
      rw [h]
      have e1 : List.take 0 (vals zs).toArray.toList ++ vals bs ++ List.drop (0 + (vals bs).length) (vals zs).toArray.toList = vals bs := by
        have : List.drop (0 + (vals bs).length) (vals zs).toArray.toList = [] := List.drop_eq_nil_of_le (by simp [length_vals]; omega)
        rw [this]; simp
      rw [e1, length_vals, hl]
      rfl
    · have h := own_heap (base := base) (bs := bs) (setRow_heap w1 g _ (vals bs).toArray _ _ hg) hgb.1 (by omega)
      rw [hl] at h
      exact h
    · exact ⟨rfl, rfl, rfl, by simp [World.setRow], fun k hk hne => setRow_other w1 g k _ (fun e => hne (by rw [e]))⟩
set_option maxHeartbeats 1000000 in
set_option maxRecDepth 100000 in
theorem newCursor_any (a : Option Addr) (n c : Nat) (L : List (BitVec 8)) (w : World) (hr : Rd w a n L) (hn : n ≤ c) (hm : n ≤ 140737488355328) (hz : a = none → n = 0 ∧ c = 0) :
    Calls Tryz.prog 83 #[.slice a n c] w fun e w' => ∃ g, e = .returned (.pointer (some ⟨g, 0, none⟩)) ∧ w.heap.size ≤ g ∧ Cur w' g L 0 ∧ Below w.heap.size w w' := by
  have R := hide hr
  have HL := hide hr.1
  clear hr
  obtain ⟨i0, hi, hz0, hz1, hz2⟩ := info_parts info8
  go_enter Tryz.func83, Tryz.ntmps83
  go_wp2_with (at_make; refine wpList_make_full _ rfl _ _ 24 rfl w.heap.size 5 i0 (.int .u8 0) 1 Tryz.underlying24 hi hz0 hz1 .i64 .i64 _ _ n rfl rfl (by omega) (by omega) (by rw [hz2]; omega) (by unfold maxLen; omega) (Nat.le_refl _) ?_
               intro w1 hown hgrow
               have HB1 : Hid (Below w.heap.size w w1) := (Below.refl _ _).grown hgrow (Nat.le_refl _) (by intro k h; cases h)
               have HO1 : Hid (Own w1 w.heap.size (.slice (some ⟨w.heap.size, 0, none⟩) n n) (List.replicate n (BitVec.ofNat 8 0))) := by
                 show Own _ _ _ _
                 unfold Own
                 rw [List.length_replicate, ← vals_replicate]
                 exact hown
               obtain ⟨w2, hcopy, HO2, HB2, _⟩ := copy_from (sLen := n) (cap := c) HO1.out (R.out.below HB1.out) (Nat.le_refl _) HB1.out (by unfold maxLen; omega)
               clear hown hgrow)
  go_ret
  have hlt := HO2.out.lt'
  refine ⟨w2.heap.size, rfl, HB2.out.size, ⟨⟨w.heap.size, 0, none⟩, n, ?_, ?_, by rw [HL.out]; omega, by omega, rfl, ?_, ?_, ?_⟩, HB2.out.alloc HB2.out.size _⟩
  · rw [HL.out]; exact heap_alloc_new _ _
  · rw [HL.out]
    exact (HO2.out.below ((Below.refl _ _).alloc (Nat.le_refl _) _)).rd (by rw [HL.out]; exact hm)
  · show w.heap.size ≠ w2.heap.size; omega
  · show w.heap.size < _; simp; omega
  · rw [HL.out]; omega
/-- Bytes at the head: how many, the error. -/
def takeAt (L : List (BitVec 8)) (n : Int) : Nat × Nat := if n < 0 then (0, 23) else if (L.length : Int) < n then (0, 20) else (n.toNat, 0)
theorem takeAt_len (L : List (BitVec 8)) (n : Int) : (takeAt L n).1 ≤ L.length := by
  unfold takeAt
  split
  · simp
  · split
    · simp
    · show n.toNat ≤ _; omega
set_option maxHeartbeats 1000000 in
set_option maxRecDepth 100000 in
theorem take1_any (a : Option Addr) (n c p3 p5 : Nat) (L : List (BitVec 8)) (k : Int) (w : World) (hr : Rd w a n L) (hn : n ≤ c) (hm : n ≤ 140737488355328) (h3 : Box w p3 (.int .i64 k) 3) (h5 : Box w p5 (.slice none 0 0) 24) (h35 : p3 ≠ p5) (hap : ∀ ad, a = some ad → ad.block ≠ p5) :
    Calls Tryz.prog 142 #[.slice a n c, .pointer (some ⟨p3, 0, none⟩), .pointer (some ⟨p5, 0, none⟩)] w fun e w' => e = .returned (.tuple #[.int .i64 ((takeAt L k).1 : Nat), .int .i64 ((takeAt L k).2 : Nat)]) ∧
      (∃ v, Box w' p5 v 24 ∧ Own w' w.heap.size v (L.take (takeAt L k).1)) ∧ w.grownBy w' (some p5) := by
  have c3 := h3.c0
  have R := hide hr
  have HL := hide hr.1
  have H5 := hide h5
  have H3 := hide h3
  clear hr h3 h5
  obtain ⟨i0, hi, hz0, hz1, hz2⟩ := info_parts info8
  by_cases hk : k < 0
  · have HE : Hid (takeAt L k = (0, 23)) := by show _ = _; unfold takeAt; rw [if_pos hk]
    go_enter Tryz.func142, Tryz.ntmps142
    go_wp2_with fail
    go_ret2
    rw [HE.out]
    exact ⟨rfl, ⟨_, H5.out, own_none _ _⟩, World.grownBy.refl _ _⟩
  · by_cases hl : (n : Int) < k
    · have HE : Hid (takeAt L k = (0, 20)) := by
        show _ = _; unfold takeAt; rw [if_neg hk, if_pos (by rw [HL.out]; exact hl)]
      go_enter Tryz.func142, Tryz.ntmps142
      go_wp2_with fail
      go_ret2
      rw [HE.out]
      exact ⟨rfl, ⟨_, H5.out, own_none _ _⟩, World.grownBy.refl _ _⟩
    · obtain ⟨m, rfl⟩ := Int.eq_ofNat_of_zero_le (by omega : 0 ≤ k)
      have HE : Hid (takeAt L (m : Int) = (m, 0)) := by
        show _ = _; unfold takeAt; rw [if_neg (by omega), if_neg (by rw [HL.out]; exact hl), Int.toNat_natCast]
      have hmn : m ≤ n := by omega
      have h5lt := H5.out.lt
      go_enter Tryz.func142, Tryz.ntmps142
      go_wp2_with (at_make; refine wpList_make_full _ rfl _ _ 24 rfl w.heap.size 5 i0 (.int .u8 0) 1 Tryz.underlying24 hi hz0 hz1 .i64 .i64 _ _ m rfl rfl (by omega) (by omega) (by rw [hz2]; omega) (by unfold maxLen; omega) (Nat.le_refl _) ?_
                   intro w1 hown hgrow
                   have HB1 : Hid (Below w.heap.size w w1) := (Below.refl _ _).grown hgrow (Nat.le_refl _) (by intro k h; cases h)
                   have HO1 : Hid (Own w1 w.heap.size (.slice (some ⟨w.heap.size, 0, none⟩) m m) (List.replicate m (BitVec.ofNat 8 0))) := by
                     show Own _ _ _ _
                     unfold Own
                     rw [List.length_replicate, ← vals_replicate]
                     exact hown
                   have H51 := hide (H5.out.below HB1.out)
                   have c5 := H51.out.c0
                   have f5 := H51.out.fr
                   have HG5 : Hid (w1.grownBy (w1.setCell ⟨p5, 0, none⟩ (.slice (some ⟨w.heap.size, 0, none⟩) m m)) (some p5)) := grown_cell (World.grownBy.refl _ _) 0 _
                   have HO1' : Hid (Own (w1.setCell ⟨p5, 0, none⟩ (.slice (some ⟨w.heap.size, 0, none⟩) m m)) w.heap.size (.slice (some ⟨w.heap.size, 0, none⟩) m m) (List.replicate m (BitVec.ofNat 8 0))) := HO1.out.other HG5.out (by omega)
                   have HRd' : Hid (Rd (w1.setCell ⟨p5, 0, none⟩ (.slice (some ⟨w.heap.size, 0, none⟩) m m)) a m (L.take m)) := ((R.out.below HB1.out).grown HG5.out (fun ad e e2 => hap ad e (Option.some.inj e2).symm)).cut m hmn
                   obtain ⟨w2, hcopy, HO2, HB2, HG2⟩ := copy_from (w0 := w1.setCell ⟨p5, 0, none⟩ (.slice (some ⟨w.heap.size, 0, none⟩) m m)) (sLen := n) (cap := c) HO1'.out HRd'.out hmn (Below.refl _ _) (by unfold maxLen; omega)
                   clear hown hgrow)
      go_ret2
      have hlt1 : p5 < w1.heap.size := H51.out.lt
      have hsz : (w1.setCell ⟨p5, 0, none⟩ (.slice (some ⟨w.heap.size, 0, none⟩) m m)).heap.size = w1.heap.size := by simp [World.setCell]
      rw [HE.out]
      refine ⟨rfl, ⟨_, ?_, HO2.out⟩, grown_new (grown_trans (grown_of_below HB1.out) HG5.out) HG2.out (fun i e => by cases e; exact Nat.le_refl _)⟩
      unfold Box
      rw [HG2.out.block p5 (by omega) (fun e => by have := Option.some.inj e; omega)]
      exact H51.out.put
set_option maxHeartbeats 1000000 in
set_option maxRecDepth 100000 in
theorem take_any (g p : Nat) (L : List (BitVec 8)) (k : Int) (w : World) (h : Cur w g L p) :
    Calls Tryz.prog 103 #[.pointer (some ⟨g, 0, none⟩), .int .i64 k] w fun e w' => (∃ v, e = .returned v ∧ Own w' w.heap.size v (L.take (takeAt L k).1)) ∧ w.grownBy w' (some g) ∧
      (if (takeAt L k).2 = 0 then Cur w' g (L.drop (takeAt L k).1) (p + (takeAt L k).1) else Dead w' g p (takeAt L k).2) := by
  obtain ⟨a, c, hrow, hrd, hlc, hc, hs, hab, halt, hp⟩ := h
  have hglt := hrow.lt
  have HB : Hid (Below w.heap.size w ((w.alloc (.cells #[.int .i64 k] 3)).alloc (.cells #[.slice none 0 0] 24))) := ((Below.refl _ _).alloc (Nat.le_refl _) _).alloc (by simp) _
  have H3 : Hid (Box ((w.alloc (.cells #[.int .i64 k] 3)).alloc (.cells #[.slice none 0 0] 24)) w.heap.size (.int .i64 k) 3) := by
    have h : Box (w.alloc (.cells #[.int .i64 k] 3)) w.heap.size (.int .i64 k) 3 := heap_alloc_new _ _
    exact h.below ((Below.refl _ _).alloc (Nat.le_refl _) _)
  have H5 : Hid (Box ((w.alloc (.cells #[.int .i64 k] 3)).alloc (.cells #[.slice none 0 0] 24)) (w.heap.size + 1) (.slice none 0 0) 24) := by
    have h : Box ((w.alloc (.cells #[.int .i64 k] 3)).alloc (.cells #[.slice none 0 0] 24)) (w.alloc (.cells #[.int .i64 k] 3)).heap.size (.slice none 0 0) 24 := heap_alloc_new _ _
    rw [show (w.alloc (.cells #[.int .i64 k] 3)).heap.size = w.heap.size + 1 by simp] at h
    exact h
  have HZ : Hid (((w.alloc (.cells #[.int .i64 k] 3)).alloc (.cells #[.slice none 0 0] 24)).heap.size = w.heap.size + 2) := by show _ = _; simp
  have HRow := hide (hrow.grown (below_grown HB.out) (by simp))
  have HRd := hide hrd
  have hrl := hrd.2.1
  have HN := hide (take1_any (some a) L.length c w.heap.size (w.heap.size + 1) L k _ (hrd.below HB.out) hlc hrl H3.out H5.out (by omega) (fun ad e => by cases e; omega))
  have hal := takeAt_len L k
  clear hrow hrd H3
  have HF := hide (fun args w => enter_of Tryz.func142 (by kernel_rfl) (c := _) rfl args w)
  generalize hG : takeAt L k = G at HN hal
  clear hG
  obtain ⟨gn, ge⟩ := G
  simp only at HN hal
  by_cases he : ge = 0
  · subst he
    go_enter Tryz.func103, Tryz.ntmps103
    go_wp2_with fail
    refine (read_take _ g L.length c gn a _ _ (p : Int) _ (fun w1 => (∃ v, Box w1 (w.heap.size + 1) v 24 ∧ Own w1 ((w.alloc (.cells #[.int .i64 k] 3)).alloc (.cells #[.slice none 0 0] 24)).heap.size v (L.take gn)) ∧ ((w.alloc (.cells #[.int .i64 k] 3)).alloc (.cells #[.slice none 0 0] 24)).grownBy w1 (some (w.heap.size + 1))) HF.out HRow.out hal hlc hc ⟨by omega, hp⟩ hs HN.out (fun w1 h => HRow.out.grown h.2 (fun e => by have := Option.some.inj e; omega))).mono ?_
    rintro e w' ⟨rfl, w1, a', ⟨⟨v, hbox, hown⟩, hg1⟩, hrow', hg', hs', hb', hm'⟩
    have hmv := moved HB.out hg1 (by omega) hg' HRd.out hs hab halt hal hlc hc hp hrow' hs' hb' hm'
    have hbx : Box w' (w.heap.size + 1) v 24 := by
      unfold Box; rw [hg'.block _ hbox.lt (fun e => by have := Option.some.inj e; omega)]; exact hbox
    have HOW : Hid (Own w' w.heap.size v (L.take gn)) := (keep hown hg' (fun i j e1 e2 e => by have := (blk hown i e1).1; have := HZ.out; have e3 := Option.some.inj e2; omega)).mono (by have := HZ.out; omega)
    have c5 := hbx.c0
    have HMV := hide hmv
    clear hbox hown hg1 hrow' hg' hs' hb' hm' hmv hbx
    go_wp2_with fail
    go_ret
    exact ⟨⟨_, rfl, HOW.out⟩, HMV.out.2, by first | exact HMV.out.1 | (simp only [if_true]; exact HMV.out.1)⟩
  · go_enter Tryz.func103, Tryz.ntmps103
    go_wp2_with fail
    refine (read_fails _ g _ (gn : Int) (ge : Int) _ _ (p : Int) _ (fun w1 => (∃ v, Box w1 (w.heap.size + 1) v 24 ∧ Own w1 ((w.alloc (.cells #[.int .i64 k] 3)).alloc (.cells #[.slice none 0 0] 24)).heap.size v (L.take gn)) ∧ ((w.alloc (.cells #[.int .i64 k] 3)).alloc (.cells #[.slice none 0 0] 24)).grownBy w1 (some (w.heap.size + 1))) HF.out HRow.out (by omega) HN.out (fun w1 h => HRow.out.grown h.2 (fun e => by have := Option.some.inj e; omega)) _ _ _ rfl).mono ?_
    rintro e w' ⟨rfl, w1, ⟨⟨v, hbox, hown⟩, hg1⟩, hrow', hg'⟩
    have hbx : Box w' (w.heap.size + 1) v 24 := by
      unfold Box; rw [hg'.block _ hbox.lt (fun e => by have := Option.some.inj e; omega)]; exact hbox
    have HOW : Hid (Own w' w.heap.size v (L.take gn)) := (keep hown hg' (fun i j e1 e2 e => by have := (blk hown i e1).1; have := HZ.out; have e3 := Option.some.inj e2; omega)).mono (by have := HZ.out; omega)
    have c5 := hbx.c0
    have HGR : Hid (w.grownBy w' (some g)) := grown_trans (grown_new (grown_of_below HB.out) hg1 (fun i e => by cases e; omega)) hg'
    have HRW := hide hrow'
    clear hbox hown hg1 hrow' hg' hbx
    go_wp2_with fail
    go_ret
    exact ⟨⟨_, rfl, HOW.out⟩, HGR.out, by first | exact ⟨HRW.out, he⟩ | (simp only [if_neg he]; exact ⟨HRW.out, he⟩)⟩
end Go.Proofs.YthdblnfohbldcaaGreat.Curs
/-
  The program's cursor: Text.
-/
namespace Go.Proofs.YthdblnfohbldcaaGreat.Curs
open Go.ChangeShapes Go.WideShapes Go.ChangeAt Go.RowKit
open Go.Proofs.YthdblnfohbldcaaGreat.Base Go.Proofs.YthdblnfohbldcaaGreat.Nums
set_option linter.unusedVariables false
/-- Bytes as a text. -/
def str (bs : List (BitVec 8)) : ByteArray := ⟨(bs.map UInt8.ofBitVec).toArray⟩
/-- A text at the head: how many bytes are taken, the error, the text's bytes. -/
def textAt (L : List (BitVec 8)) (most : Int) : Nat × Nat × List (BitVec 8) :=
  if (atMost L most).2.2 ≠ 0 then (0, (atMost L most).2.2, []) else if L.length - (atMost L most).2.1 < (atMost L most).1 then (0, 20, []) else ((atMost L most).2.1 + (atMost L most).1, 0, (L.drop (atMost L most).2.1).take (atMost L most).1)
theorem conv_str {w : World} {x : Addr} {n c : Nat} {bs : List (BitVec 8)} (hr : Rd w (some x) n bs) : (convert 24 9 (.slice (some x) n c)).run Tryz.prog w = .ok (.string (str bs)) w := by
  have h := run_convert_bytes_back (P := Tryz.prog) w 24 9 5 x c (bs.map UInt8.ofBitVec) Tryz.underlying24 Tryz.underlying5 Tryz.underlying9 (fun j hj => by
    have hj' : j < bs.length := by simpa using hj
    have h1 := hr.cellsAt x rfl j _ (getD_vals bs j hj')
    rw [h1, List.getD_eq_getElem?_getD, List.getElem?_eq_getElem hj']
    simp)
  rw [List.length_map, hr.1] at h
  exact h
theorem add_at {x : Addr} (h : x.spot = none) (n : Nat) : x.add n = ⟨x.block, x.off + n, none⟩ := by
  obtain ⟨b, off, sp⟩ := x
  simp only at h
  subst h
  unfold Addr.add
  split
  · rename_i h; have h0 : n = 0 := by simpa using h
    subst h0; rfl
  · rfl
theorem rd_part {w : World} {x : Addr} {n gn gv : Nat} {L : List (BitVec 8)} (h : Rd w (some x) n L) (hs : x.spot = none) (hsum : gn + gv ≤ n) : Rd w (some (x.add gn)) gv ((L.drop gn).take gv) := by
  rw [add_at hs]
  obtain ⟨b, off, sp⟩ := x
  simp only at hs
  subst hs
  exact (h.from gn (by omega)).cut gv (by omega)
theorem atMost_ok (L : List (BitVec 8)) (most : Int) (h : (atMost L most).2.2 = 0) : (atMost L most).1 ≤ 9223372036854775807 ∧ (atMost L most).2.1 ≤ L.length := by
  refine ⟨?_, atMost_len L most⟩
  unfold atMost
  split
  · simp
  · split
    · simp
    · exact get_fst L
theorem textAt_len (L : List (BitVec 8)) (most : Int) : (textAt L most).1 ≤ L.length := by
  have := atMost_len L most
  unfold textAt
  split
  · simp
  · split
    · simp
    · show _ + _ ≤ _; omega
end Go.Proofs.YthdblnfohbldcaaGreat.Curs
/-
  The program's cursor: nil ones, zero ones, failed ones; what is taken has no room behind it.
-/
namespace Go.Proofs.YthdblnfohbldcaaGreat.Curs
open Go.ChangeShapes Go.WideShapes Go.ChangeAt Go.RowKit
open Go.Proofs.YthdblnfohbldcaaGreat.Base Go.Proofs.YthdblnfohbldcaaGreat.Nums
set_option linter.unusedVariables false
/-- A slice that is full. -/
def Fu (v : Value) : Prop := ∃ a n, v = .slice a n n
set_option maxHeartbeats 1000000 in
set_option maxRecDepth 100000 in
theorem take1_full (a : Option Addr) (n c p3 p5 : Nat) (L : List (BitVec 8)) (k : Int) (w : World) (hr : Rd w a n L) (hn : n ≤ c) (hm : n ≤ 140737488355328) (h3 : Box w p3 (.int .i64 k) 3) (h5 : Box w p5 (.slice none 0 0) 24) (h35 : p3 ≠ p5) (hap : ∀ ad, a = some ad → ad.block ≠ p5) :
    Calls Tryz.prog 142 #[.slice a n c, .pointer (some ⟨p3, 0, none⟩), .pointer (some ⟨p5, 0, none⟩)] w fun e w' => e = .returned (.tuple #[.int .i64 ((takeAt L k).1 : Nat), .int .i64 ((takeAt L k).2 : Nat)]) ∧
      (∃ v, Box w' p5 v 24 ∧ Own w' w.heap.size v (L.take (takeAt L k).1) ∧ Fu v) ∧ w.grownBy w' (some p5) := by
  have c3 := h3.c0
  have R := hide hr
  have HL := hide hr.1
  have H5 := hide h5
  have H3 := hide h3
  clear hr h3 h5
  obtain ⟨i0, hi, hz0, hz1, hz2⟩ := info_parts info8
  by_cases hk : k < 0
  · have HE : Hid (takeAt L k = (0, 23)) := by show _ = _; unfold takeAt; rw [if_pos hk]
    go_enter Tryz.func142, Tryz.ntmps142
    go_wp2_with fail
    go_ret2
    rw [HE.out]
    exact ⟨rfl, ⟨_, H5.out, own_none _ _, ⟨none, 0, rfl⟩⟩, World.grownBy.refl _ _⟩
  · by_cases hl : (n : Int) < k
    · have HE : Hid (takeAt L k = (0, 20)) := by
        show _ = _; unfold takeAt; rw [if_neg hk, if_pos (by rw [HL.out]; exact hl)]
      go_enter Tryz.func142, Tryz.ntmps142
      go_wp2_with fail
      go_ret2
      rw [HE.out]
      exact ⟨rfl, ⟨_, H5.out, own_none _ _, ⟨none, 0, rfl⟩⟩, World.grownBy.refl _ _⟩
    · obtain ⟨m, rfl⟩ := Int.eq_ofNat_of_zero_le (by omega : 0 ≤ k)
      have HE : Hid (takeAt L (m : Int) = (m, 0)) := by
        show _ = _; unfold takeAt; rw [if_neg (by omega), if_neg (by rw [HL.out]; exact hl), Int.toNat_natCast]
      have hmn : m ≤ n := by omega
      have h5lt := H5.out.lt
      go_enter Tryz.func142, Tryz.ntmps142
      go_wp2_with (at_make; refine wpList_make_full _ rfl _ _ 24 rfl w.heap.size 5 i0 (.int .u8 0) 1 Tryz.underlying24 hi hz0 hz1 .i64 .i64 _ _ m rfl rfl (by omega) (by omega) (by rw [hz2]; omega) (by unfold maxLen; omega) (Nat.le_refl _) ?_
                   intro w1 hown hgrow
                   have HB1 : Hid (Below w.heap.size w w1) := (Below.refl _ _).grown hgrow (Nat.le_refl _) (by intro k h; cases h)
                   have HO1 : Hid (Own w1 w.heap.size (.slice (some ⟨w.heap.size, 0, none⟩) m m) (List.replicate m (BitVec.ofNat 8 0))) := by
                     show Own _ _ _ _
                     unfold Own
                     rw [List.length_replicate, ← vals_replicate]
                     exact hown
                   have H51 := hide (H5.out.below HB1.out)
                   have c5 := H51.out.c0
                   have f5 := H51.out.fr
                   have HG5 : Hid (w1.grownBy (w1.setCell ⟨p5, 0, none⟩ (.slice (some ⟨w.heap.size, 0, none⟩) m m)) (some p5)) := grown_cell (World.grownBy.refl _ _) 0 _
                   have HO1' : Hid (Own (w1.setCell ⟨p5, 0, none⟩ (.slice (some ⟨w.heap.size, 0, none⟩) m m)) w.heap.size (.slice (some ⟨w.heap.size, 0, none⟩) m m) (List.replicate m (BitVec.ofNat 8 0))) := HO1.out.other HG5.out (by omega)
                   have HRd' : Hid (Rd (w1.setCell ⟨p5, 0, none⟩ (.slice (some ⟨w.heap.size, 0, none⟩) m m)) a m (L.take m)) := ((R.out.below HB1.out).grown HG5.out (fun ad e e2 => hap ad e (Option.some.inj e2).symm)).cut m hmn
                   obtain ⟨w2, hcopy, HO2, HB2, HG2⟩ := copy_from (w0 := w1.setCell ⟨p5, 0, none⟩ (.slice (some ⟨w.heap.size, 0, none⟩) m m)) (sLen := n) (cap := c) HO1'.out HRd'.out hmn (Below.refl _ _) (by unfold maxLen; omega)
                   clear hown hgrow)
      go_ret2
      have hlt1 : p5 < w1.heap.size := H51.out.lt
      have hsz : (w1.setCell ⟨p5, 0, none⟩ (.slice (some ⟨w.heap.size, 0, none⟩) m m)).heap.size = w1.heap.size := by simp [World.setCell]
      rw [HE.out]
      refine ⟨rfl, ⟨_, ?_, HO2.out, ⟨_, _, rfl⟩⟩, grown_new (grown_trans (grown_of_below HB1.out) HG5.out) HG2.out (fun i e => by cases e; exact Nat.le_refl _)⟩
      unfold Box
      rw [HG2.out.block p5 (by omega) (fun e => by have := Option.some.inj e; omega)]
      exact H51.out.put
set_option maxHeartbeats 1000000 in
set_option maxRecDepth 100000 in
theorem take_full (g p : Nat) (L : List (BitVec 8)) (k : Int) (w : World) (h : Cur w g L p) :
    Calls Tryz.prog 103 #[.pointer (some ⟨g, 0, none⟩), .int .i64 k] w fun e w' => (∃ v, e = .returned v ∧ Own w' w.heap.size v (L.take (takeAt L k).1) ∧ Fu v) ∧ w.grownBy w' (some g) ∧
      (if (takeAt L k).2 = 0 then Cur w' g (L.drop (takeAt L k).1) (p + (takeAt L k).1) else Dead w' g p (takeAt L k).2) := by
  obtain ⟨a, c, hrow, hrd, hlc, hc, hs, hab, halt, hp⟩ := h
  have hglt := hrow.lt
  have HB : Hid (Below w.heap.size w ((w.alloc (.cells #[.int .i64 k] 3)).alloc (.cells #[.slice none 0 0] 24))) := ((Below.refl _ _).alloc (Nat.le_refl _) _).alloc (by simp) _
  have H3 : Hid (Box ((w.alloc (.cells #[.int .i64 k] 3)).alloc (.cells #[.slice none 0 0] 24)) w.heap.size (.int .i64 k) 3) := by
    have h : Box (w.alloc (.cells #[.int .i64 k] 3)) w.heap.size (.int .i64 k) 3 := heap_alloc_new _ _
    exact h.below ((Below.refl _ _).alloc (Nat.le_refl _) _)
  have H5 : Hid (Box ((w.alloc (.cells #[.int .i64 k] 3)).alloc (.cells #[.slice none 0 0] 24)) (w.heap.size + 1) (.slice none 0 0) 24) := by
    have h : Box ((w.alloc (.cells #[.int .i64 k] 3)).alloc (.cells #[.slice none 0 0] 24)) (w.alloc (.cells #[.int .i64 k] 3)).heap.size (.slice none 0 0) 24 := heap_alloc_new _ _
    rw [show (w.alloc (.cells #[.int .i64 k] 3)).heap.size = w.heap.size + 1 by simp] at h
    exact h
  have HZ : Hid (((w.alloc (.cells #[.int .i64 k] 3)).alloc (.cells #[.slice none 0 0] 24)).heap.size = w.heap.size + 2) := by show _ = _; simp
  have HRow := hide (hrow.grown (below_grown HB.out) (by simp))
  have HRd := hide hrd
  have hrl := hrd.2.1
  have HN := hide (take1_full (some a) L.length c w.heap.size (w.heap.size + 1) L k _ (hrd.below HB.out) hlc hrl H3.out H5.out (by omega) (fun ad e => by cases e; omega))
  have hal := takeAt_len L k
  clear hrow hrd H3
  have HF := hide (fun args w => enter_of Tryz.func142 (by kernel_rfl) (c := _) rfl args w)
  generalize hG : takeAt L k = G at HN hal
  clear hG
  obtain ⟨gn, ge⟩ := G
  simp only at HN hal
  by_cases he : ge = 0
  · subst he
    go_enter Tryz.func103, Tryz.ntmps103
    go_wp2_with fail
    refine (read_take _ g L.length c gn a _ _ (p : Int) _ (fun w1 => (∃ v, Box w1 (w.heap.size + 1) v 24 ∧ Own w1 ((w.alloc (.cells #[.int .i64 k] 3)).alloc (.cells #[.slice none 0 0] 24)).heap.size v (L.take gn) ∧ Fu v) ∧ ((w.alloc (.cells #[.int .i64 k] 3)).alloc (.cells #[.slice none 0 0] 24)).grownBy w1 (some (w.heap.size + 1))) HF.out HRow.out hal hlc hc ⟨by omega, hp⟩ hs HN.out (fun w1 h => HRow.out.grown h.2 (fun e => by have := Option.some.inj e; omega))).mono ?_
    rintro e w' ⟨rfl, w1, a', ⟨⟨v, hbox, hown, hfu⟩, hg1⟩, hrow', hg', hs', hb', hm'⟩
    have hmv := moved HB.out hg1 (by omega) hg' HRd.out hs hab halt hal hlc hc hp hrow' hs' hb' hm'
    have hbx : Box w' (w.heap.size + 1) v 24 := by
      unfold Box; rw [hg'.block _ hbox.lt (fun e => by have := Option.some.inj e; omega)]; exact hbox
    have HOW : Hid (Own w' w.heap.size v (L.take gn)) := (keep hown hg' (fun i j e1 e2 e => by have := (blk hown i e1).1; have := HZ.out; have e3 := Option.some.inj e2; omega)).mono (by have := HZ.out; omega)
    have HFU := hide hfu
    clear hfu
    have c5 := hbx.c0
    have HMV := hide hmv
    clear hbox hown hg1 hrow' hg' hs' hb' hm' hmv hbx
    go_wp2_with fail
    go_ret
    exact ⟨⟨_, rfl, HOW.out, HFU.out⟩, HMV.out.2, by first | exact HMV.out.1 | (simp only [if_true]; exact HMV.out.1)⟩
  · go_enter Tryz.func103, Tryz.ntmps103
    go_wp2_with fail
    refine (read_fails _ g _ (gn : Int) (ge : Int) _ _ (p : Int) _ (fun w1 => (∃ v, Box w1 (w.heap.size + 1) v 24 ∧ Own w1 ((w.alloc (.cells #[.int .i64 k] 3)).alloc (.cells #[.slice none 0 0] 24)).heap.size v (L.take gn) ∧ Fu v) ∧ ((w.alloc (.cells #[.int .i64 k] 3)).alloc (.cells #[.slice none 0 0] 24)).grownBy w1 (some (w.heap.size + 1))) HF.out HRow.out (by omega) HN.out (fun w1 h => HRow.out.grown h.2 (fun e => by have := Option.some.inj e; omega)) _ _ _ rfl).mono ?_
    rintro e w' ⟨rfl, w1, ⟨⟨v, hbox, hown, hfu⟩, hg1⟩, hrow', hg'⟩
    have hbx : Box w' (w.heap.size + 1) v 24 := by
      unfold Box; rw [hg'.block _ hbox.lt (fun e => by have := Option.some.inj e; omega)]; exact hbox
    have HOW : Hid (Own w' w.heap.size v (L.take gn)) := (keep hown hg' (fun i j e1 e2 e => by have := (blk hown i e1).1; have := HZ.out; have e3 := Option.some.inj e2; omega)).mono (by have := HZ.out; omega)
    have HFU := hide hfu
    clear hfu
    have c5 := hbx.c0
    have HGR : Hid (w.grownBy w' (some g)) := grown_trans (grown_new (grown_of_below HB.out) hg1 (fun i e => by cases e; omega)) hg'
    have HRW := hide hrow'
    clear hbox hown hg1 hrow' hg' hbx
    go_wp2_with fail
    go_ret
    exact ⟨⟨_, rfl, HOW.out, HFU.out⟩, HGR.out, by first | exact ⟨HRW.out, he⟩ | (simp only [if_neg he]; exact ⟨HRW.out, he⟩)⟩

set_option maxRecDepth 100000 in
theorem num_nil (k : Int) (w : World) : Calls Tryz.prog 102 #[.pointer none, .int .i64 k] w fun e w' => e = .returned (.int .i64 0) ∧ Below w.heap.size w w' := by
  have HB : Hid (Below w.heap.size w ((w.alloc (.cells #[.int .i64 k] 2)).alloc (.cells #[.int .i64 0] 2))) := ((Below.refl _ _).alloc (Nat.le_refl _) _).alloc (by simp) _
  have H3 : Hid (Box ((w.alloc (.cells #[.int .i64 k] 2)).alloc (.cells #[.int .i64 0] 2)) w.heap.size (.int .i64 k) 2) := by
    have h : Box (w.alloc (.cells #[.int .i64 k] 2)) w.heap.size (.int .i64 k) 2 := heap_alloc_new _ _
    exact h.below ((Below.refl _ _).alloc (Nat.le_refl _) _)
  have H5 : Hid (Box ((w.alloc (.cells #[.int .i64 k] 2)).alloc (.cells #[.int .i64 0] 2)) (w.heap.size + 1) (.int .i64 0) 2) := by
    have h : Box ((w.alloc (.cells #[.int .i64 k] 2)).alloc (.cells #[.int .i64 0] 2)) (w.alloc (.cells #[.int .i64 k] 2)).heap.size (.int .i64 0) 2 := heap_alloc_new _ _
    rw [show (w.alloc (.cells #[.int .i64 k] 2)).heap.size = w.heap.size + 1 by simp] at h
    exact h
  have c5 := H5.out.c0
  clear H3
  go_enter Tryz.func102, Tryz.ntmps102
  go_wp2_with fail
  refine (read_nil _ _ _ _).mono ?_
  rintro e w1 ⟨rfl, rfl⟩
  go_wp2_with fail
  go_ret
  exact ⟨rfl, HB.out⟩
set_option maxRecDepth 100000 in
theorem num_dead (g : Nat) (v : Value) (p er k : Int) (w : World) (h : Row w g v p er) (he : er ≠ 0) : Calls Tryz.prog 102 #[.pointer (some ⟨g, 0, none⟩), .int .i64 k] w fun e w' => e = .returned (.int .i64 0) ∧ Below w.heap.size w w' := by
  have HB : Hid (Below w.heap.size w ((w.alloc (.cells #[.int .i64 k] 2)).alloc (.cells #[.int .i64 0] 2))) := ((Below.refl _ _).alloc (Nat.le_refl _) _).alloc (by simp) _
  have H3 : Hid (Box ((w.alloc (.cells #[.int .i64 k] 2)).alloc (.cells #[.int .i64 0] 2)) w.heap.size (.int .i64 k) 2) := by
    have h : Box (w.alloc (.cells #[.int .i64 k] 2)) w.heap.size (.int .i64 k) 2 := heap_alloc_new _ _
    exact h.below ((Below.refl _ _).alloc (Nat.le_refl _) _)
  have H5 : Hid (Box ((w.alloc (.cells #[.int .i64 k] 2)).alloc (.cells #[.int .i64 0] 2)) (w.heap.size + 1) (.int .i64 0) 2) := by
    have h : Box ((w.alloc (.cells #[.int .i64 k] 2)).alloc (.cells #[.int .i64 0] 2)) (w.alloc (.cells #[.int .i64 k] 2)).heap.size (.int .i64 0) 2 := heap_alloc_new _ _
    rw [show (w.alloc (.cells #[.int .i64 k] 2)).heap.size = w.heap.size + 1 by simp] at h
    exact h
  have c5 := H5.out.c0
  have HRow := hide (h.grown (below_grown HB.out) (by simp))
  clear H3 h
  go_enter Tryz.func102, Tryz.ntmps102
  go_wp2_with fail
  refine (read_dead _ _ _ _ _ _ _ _ HRow.out he).mono ?_
  rintro e w1 ⟨rfl, rfl⟩
  go_wp2_with fail
  go_ret
  exact ⟨rfl, HB.out⟩
set_option maxRecDepth 100000 in
theorem fixed_nil (k : Int) (w : World) : Calls Tryz.prog 84 #[.pointer none, .int .i64 k] w fun e w' => e = .returned (.int .u64 0) ∧ Below w.heap.size w w' := by
  have HB : Hid (Below w.heap.size w ((w.alloc (.cells #[.int .i64 k] 3)).alloc (.cells #[.int .u64 0] 39))) := ((Below.refl _ _).alloc (Nat.le_refl _) _).alloc (by simp) _
  have H3 : Hid (Box ((w.alloc (.cells #[.int .i64 k] 3)).alloc (.cells #[.int .u64 0] 39)) w.heap.size (.int .i64 k) 3) := by
    have h : Box (w.alloc (.cells #[.int .i64 k] 3)) w.heap.size (.int .i64 k) 3 := heap_alloc_new _ _
    exact h.below ((Below.refl _ _).alloc (Nat.le_refl _) _)
  have H5 : Hid (Box ((w.alloc (.cells #[.int .i64 k] 3)).alloc (.cells #[.int .u64 0] 39)) (w.heap.size + 1) (.int .u64 0) 39) := by
    have h : Box ((w.alloc (.cells #[.int .i64 k] 3)).alloc (.cells #[.int .u64 0] 39)) (w.alloc (.cells #[.int .i64 k] 3)).heap.size (.int .u64 0) 39 := heap_alloc_new _ _
    rw [show (w.alloc (.cells #[.int .i64 k] 3)).heap.size = w.heap.size + 1 by simp] at h
    exact h
  have c5 := H5.out.c0
  clear H3
  go_enter Tryz.func84, Tryz.ntmps84
  go_wp2_with fail
  refine (read_nil _ _ _ _).mono ?_
  rintro e w1 ⟨rfl, rfl⟩
  go_wp2_with fail
  go_ret
  exact ⟨rfl, HB.out⟩
set_option maxRecDepth 100000 in
theorem fixed_dead (g : Nat) (v : Value) (p er k : Int) (w : World) (h : Row w g v p er) (he : er ≠ 0) : Calls Tryz.prog 84 #[.pointer (some ⟨g, 0, none⟩), .int .i64 k] w fun e w' => e = .returned (.int .u64 0) ∧ Below w.heap.size w w' := by
  have HB : Hid (Below w.heap.size w ((w.alloc (.cells #[.int .i64 k] 3)).alloc (.cells #[.int .u64 0] 39))) := ((Below.refl _ _).alloc (Nat.le_refl _) _).alloc (by simp) _
  have H3 : Hid (Box ((w.alloc (.cells #[.int .i64 k] 3)).alloc (.cells #[.int .u64 0] 39)) w.heap.size (.int .i64 k) 3) := by
    have h : Box (w.alloc (.cells #[.int .i64 k] 3)) w.heap.size (.int .i64 k) 3 := heap_alloc_new _ _
    exact h.below ((Below.refl _ _).alloc (Nat.le_refl _) _)
  have H5 : Hid (Box ((w.alloc (.cells #[.int .i64 k] 3)).alloc (.cells #[.int .u64 0] 39)) (w.heap.size + 1) (.int .u64 0) 39) := by
    have h : Box ((w.alloc (.cells #[.int .i64 k] 3)).alloc (.cells #[.int .u64 0] 39)) (w.alloc (.cells #[.int .i64 k] 3)).heap.size (.int .u64 0) 39 := heap_alloc_new _ _
    rw [show (w.alloc (.cells #[.int .i64 k] 3)).heap.size = w.heap.size + 1 by simp] at h
    exact h
  have c5 := H5.out.c0
  have HRow := hide (h.grown (below_grown HB.out) (by simp))
  clear H3 h
  go_enter Tryz.func84, Tryz.ntmps84
  go_wp2_with fail
  refine (read_dead _ _ _ _ _ _ _ _ HRow.out he).mono ?_
  rintro e w1 ⟨rfl, rfl⟩
  go_wp2_with fail
  go_ret
  exact ⟨rfl, HB.out⟩
set_option maxRecDepth 100000 in
theorem take_nil (k : Int) (w : World) : Calls Tryz.prog 103 #[.pointer none, .int .i64 k] w fun e w' => e = .returned (.slice none 0 0) ∧ Below w.heap.size w w' := by
  have HB : Hid (Below w.heap.size w ((w.alloc (.cells #[.int .i64 k] 3)).alloc (.cells #[.slice none 0 0] 24))) := ((Below.refl _ _).alloc (Nat.le_refl _) _).alloc (by simp) _
  have H3 : Hid (Box ((w.alloc (.cells #[.int .i64 k] 3)).alloc (.cells #[.slice none 0 0] 24)) w.heap.size (.int .i64 k) 3) := by
    have h : Box (w.alloc (.cells #[.int .i64 k] 3)) w.heap.size (.int .i64 k) 3 := heap_alloc_new _ _
    exact h.below ((Below.refl _ _).alloc (Nat.le_refl _) _)
  have H5 : Hid (Box ((w.alloc (.cells #[.int .i64 k] 3)).alloc (.cells #[.slice none 0 0] 24)) (w.heap.size + 1) (.slice none 0 0) 24) := by
    have h : Box ((w.alloc (.cells #[.int .i64 k] 3)).alloc (.cells #[.slice none 0 0] 24)) (w.alloc (.cells #[.int .i64 k] 3)).heap.size (.slice none 0 0) 24 := heap_alloc_new _ _
    rw [show (w.alloc (.cells #[.int .i64 k] 3)).heap.size = w.heap.size + 1 by simp] at h
    exact h
  have c5 := H5.out.c0
  clear H3
  go_enter Tryz.func103, Tryz.ntmps103
  go_wp2_with fail
  refine (read_nil _ _ _ _).mono ?_
  rintro e w1 ⟨rfl, rfl⟩
  go_wp2_with fail
  go_ret
  exact ⟨rfl, HB.out⟩
set_option maxRecDepth 100000 in
theorem take_dead (g : Nat) (v : Value) (p er k : Int) (w : World) (h : Row w g v p er) (he : er ≠ 0) : Calls Tryz.prog 103 #[.pointer (some ⟨g, 0, none⟩), .int .i64 k] w fun e w' => e = .returned (.slice none 0 0) ∧ Below w.heap.size w w' := by
  have HB : Hid (Below w.heap.size w ((w.alloc (.cells #[.int .i64 k] 3)).alloc (.cells #[.slice none 0 0] 24))) := ((Below.refl _ _).alloc (Nat.le_refl _) _).alloc (by simp) _
  have H3 : Hid (Box ((w.alloc (.cells #[.int .i64 k] 3)).alloc (.cells #[.slice none 0 0] 24)) w.heap.size (.int .i64 k) 3) := by
    have h : Box (w.alloc (.cells #[.int .i64 k] 3)) w.heap.size (.int .i64 k) 3 := heap_alloc_new _ _
    exact h.below ((Below.refl _ _).alloc (Nat.le_refl _) _)
  have H5 : Hid (Box ((w.alloc (.cells #[.int .i64 k] 3)).alloc (.cells #[.slice none 0 0] 24)) (w.heap.size + 1) (.slice none 0 0) 24) := by
    have h : Box ((w.alloc (.cells #[.int .i64 k] 3)).alloc (.cells #[.slice none 0 0] 24)) (w.alloc (.cells #[.int .i64 k] 3)).heap.size (.slice none 0 0) 24 := heap_alloc_new _ _
    rw [show (w.alloc (.cells #[.int .i64 k] 3)).heap.size = w.heap.size + 1 by simp] at h
    exact h
  have c5 := H5.out.c0
  have HRow := hide (h.grown (below_grown HB.out) (by simp))
  clear H3 h
  go_enter Tryz.func103, Tryz.ntmps103
  go_wp2_with fail
  refine (read_dead _ _ _ _ _ _ _ _ HRow.out he).mono ?_
  rintro e w1 ⟨rfl, rfl⟩
  go_wp2_with fail
  go_ret
  exact ⟨rfl, HB.out⟩
theorem get_nil : get ([] : List (BitVec 8)) = (0, 0, 20) := by decide
theorem atMost_nil (k : Int) : atMost [] k = (0, 0, 20) := by unfold atMost; rw [get_nil]; rfl
theorem textAt_nil (k : Int) : textAt [] k = (0, 20, []) := by unfold textAt; rw [atMost_nil]; rfl
theorem fixAt_nil (k : Int) : ∃ er : Nat, fixAt [] k = (0, 0, er) ∧ er ≠ 0 := by
  unfold fixAt
  by_cases h : 1 ≤ k ∧ k ≤ 8
  · exact ⟨20, by rw [if_neg (by simpa using h), if_pos (by simp; omega)], by decide⟩
  · exact ⟨23, by rw [if_pos h], by decide⟩
set_option maxRecDepth 100000 in
theorem read_zero (f g : Nat) (x y : Value) (w : World) (Φ : World → Prop) (hf : ∀ args w, (callFunc f args).run Tryz.prog w = .ok (.enter f args) w) (h : Row w g (.slice none 0 0) 0 0)
    (hcall : Calls Tryz.prog f #[.slice none 0 0, x, y] w fun e w1 => e = .returned (.tuple #[.int .i64 0, .int .i64 0]) ∧ Φ w1) (hrow : ∀ w1, Φ w1 → Row w1 g (.slice none 0 0) 0 0) :
    Calls Tryz.prog 129 #[.pointer (some ⟨g, 0, none⟩), .func (.func f) #[] #[x, y]] w fun e w' => e = .returned (.tuple #[]) ∧ ∃ w1, Φ w1 ∧ Row w' g (.slice none 0 0) 0 0 ∧ w1.grownBy w' (some g) := by
  have c0 := h.c0
  have c2 := h.c2
  have HC := hide hcall
  have HR := hide hrow
  have hsl : ∀ W, (Instr.sliceAt 24 (.slice none 0 0) (some (.int .i64 0)) none none).run Tryz.prog W = .ok (.slice none 0 0) W := fun W => by kernel_rfl
  clear h hcall hrow
  go_enter Tryz.func129, Tryz.ntmps129
  go_wp2_with fail
  refine HC.out.mono ?_
  rintro e w1 ⟨rfl, hφ⟩
  have r1 := HR.out w1 hφ
  have d0 := r1.c0
  have d1 := r1.c1
  have f0 := r1.fr 0
  have f1 := r1.fr 1
  have HR1 := hide r1
  have HΦ := hide hφ
  clear r1 hφ
  go_wp2_with fail
  go_end0
  exact ⟨rfl, w1, HΦ.out, HR1.out.put01, grown_cell (grown_cell (World.grownBy.refl _ _) 0 _) 1 _⟩
set_option maxHeartbeats 1000000 in
set_option maxRecDepth 100000 in
theorem num_zero (g : Nat) (k : Int) (w : World) (h : Row w g (.slice none 0 0) 0 0) : Calls Tryz.prog 102 #[.pointer (some ⟨g, 0, none⟩), .int .i64 k] w fun e w' => e = .returned (.int .i64 0) ∧ w.grownBy w' (some g) ∧ Row w' g (.slice none 0 0) 0 20 := by
  have hglt := h.lt
  have HB : Hid (Below w.heap.size w ((w.alloc (.cells #[.int .i64 k] 2)).alloc (.cells #[.int .i64 0] 2))) := ((Below.refl _ _).alloc (Nat.le_refl _) _).alloc (by simp) _
  have H3 : Hid (Box ((w.alloc (.cells #[.int .i64 k] 2)).alloc (.cells #[.int .i64 0] 2)) w.heap.size (.int .i64 k) 2) := by
    have h : Box (w.alloc (.cells #[.int .i64 k] 2)) w.heap.size (.int .i64 k) 2 := heap_alloc_new _ _
    exact h.below ((Below.refl _ _).alloc (Nat.le_refl _) _)
  have H5 : Hid (Box ((w.alloc (.cells #[.int .i64 k] 2)).alloc (.cells #[.int .i64 0] 2)) (w.heap.size + 1) (.int .i64 0) 2) := by
    have h : Box ((w.alloc (.cells #[.int .i64 k] 2)).alloc (.cells #[.int .i64 0] 2)) (w.alloc (.cells #[.int .i64 k] 2)).heap.size (.int .i64 0) 2 := heap_alloc_new _ _
    rw [show (w.alloc (.cells #[.int .i64 k] 2)).heap.size = w.heap.size + 1 by simp] at h
    exact h
  have HZ : Hid (((w.alloc (.cells #[.int .i64 k] 2)).alloc (.cells #[.int .i64 0] 2)).heap.size = w.heap.size + 2) := by show _ = _; simp
  have HRow := hide (h.grown (below_grown HB.out) (by simp))
  have HF := hide (fun args w => enter_of Tryz.func140 (by kernel_rfl) (c := _) rfl args w)
  have HN := hide (num1_any none 0 0 w.heap.size (w.heap.size + 1) [] k _ (rd_nil _) (Nat.le_refl _) (by omega) H3.out H5.out)
  rw [atMost_nil] at HN
  clear H3 h
  go_enter Tryz.func102, Tryz.ntmps102
  go_wp2_with fail
  refine (read_fails _ g _ 0 20 _ _ 0 _ (fun w1 => Box w1 (w.heap.size + 1) (.int .i64 0) 2 ∧ ((w.alloc (.cells #[.int .i64 k] 2)).alloc (.cells #[.int .i64 0] 2)).grownBy w1 (some (w.heap.size + 1))) HF.out HRow.out (by first | decide | omega) HN.out (fun w1 h => HRow.out.grown h.2 (fun e => by have := Option.some.inj e; omega)) _ _ _ rfl).mono ?_
  rintro e w' ⟨rfl, w1, ⟨hbox, hg1⟩, hrow', hg'⟩
  have hbx : Box w' (w.heap.size + 1) (.int .i64 0) 2 := by
    unfold Box; rw [hg'.block _ hbox.lt (fun e => by have := Option.some.inj e; omega)]; exact hbox
  have c5 := hbx.c0
  have HGR : Hid (w.grownBy w' (some g)) := grown_trans (grown_new (grown_of_below HB.out) hg1 (fun i e => by cases e; omega)) hg'
  have HRW := hide hrow'
  clear hbox hg1 hrow' hg' hbx HN
  go_wp2_with fail
  go_ret
  exact ⟨rfl, HGR.out, HRW.out⟩
set_option maxHeartbeats 1000000 in
set_option maxRecDepth 100000 in
theorem fixed_zero (g : Nat) (k : Int) (w : World) (h : Row w g (.slice none 0 0) 0 0) (er : Nat) (hfx : fixAt [] k = (0, 0, er)) (hne : er ≠ 0) : Calls Tryz.prog 84 #[.pointer (some ⟨g, 0, none⟩), .int .i64 k] w fun e w' => e = .returned (.int .u64 0) ∧ w.grownBy w' (some g) ∧ Row w' g (.slice none 0 0) 0 (er : Int) := by
  have hglt := h.lt
  have HB : Hid (Below w.heap.size w ((w.alloc (.cells #[.int .i64 k] 3)).alloc (.cells #[.int .u64 0] 39))) := ((Below.refl _ _).alloc (Nat.le_refl _) _).alloc (by simp) _
  have H3 : Hid (Box ((w.alloc (.cells #[.int .i64 k] 3)).alloc (.cells #[.int .u64 0] 39)) w.heap.size (.int .i64 k) 3) := by
    have h : Box (w.alloc (.cells #[.int .i64 k] 3)) w.heap.size (.int .i64 k) 3 := heap_alloc_new _ _
    exact h.below ((Below.refl _ _).alloc (Nat.le_refl _) _)
  have H5 : Hid (Box ((w.alloc (.cells #[.int .i64 k] 3)).alloc (.cells #[.int .u64 0] 39)) (w.heap.size + 1) (.int .u64 0) 39) := by
    have h : Box ((w.alloc (.cells #[.int .i64 k] 3)).alloc (.cells #[.int .u64 0] 39)) (w.alloc (.cells #[.int .i64 k] 3)).heap.size (.int .u64 0) 39 := heap_alloc_new _ _
    rw [show (w.alloc (.cells #[.int .i64 k] 3)).heap.size = w.heap.size + 1 by simp] at h
    exact h
  have HZ : Hid (((w.alloc (.cells #[.int .i64 k] 3)).alloc (.cells #[.int .u64 0] 39)).heap.size = w.heap.size + 2) := by show _ = _; simp
  have HRow := hide (h.grown (below_grown HB.out) (by simp))
  have HF := hide (fun args w => enter_of Tryz.func130 (by kernel_rfl) (c := _) rfl args w)
  have HN := hide (fixed1_any none 0 0 w.heap.size (w.heap.size + 1) [] k _ (rd_nil _) (Nat.le_refl _) (by omega) H3.out H5.out (by omega))
  rw [hfx] at HN
  clear H3 h
  go_enter Tryz.func84, Tryz.ntmps84
  go_wp2_with fail
  refine (read_fails _ g _ 0 (er : Int) _ _ 0 _ (fun w1 => Box w1 (w.heap.size + 1) (.int .u64 0) 39 ∧ ((w.alloc (.cells #[.int .i64 k] 3)).alloc (.cells #[.int .u64 0] 39)).grownBy w1 (some (w.heap.size + 1))) HF.out HRow.out (by first | decide | omega) HN.out (fun w1 h => HRow.out.grown h.2 (fun e => by have := Option.some.inj e; omega)) _ _ _ rfl).mono ?_
  rintro e w' ⟨rfl, w1, ⟨hbox, hg1⟩, hrow', hg'⟩
  have hbx : Box w' (w.heap.size + 1) (.int .u64 0) 39 := by
    unfold Box; rw [hg'.block _ hbox.lt (fun e => by have := Option.some.inj e; omega)]; exact hbox
  have c5 := hbx.c0
  have HGR : Hid (w.grownBy w' (some g)) := grown_trans (grown_new (grown_of_below HB.out) hg1 (fun i e => by cases e; omega)) hg'
  have HRW := hide hrow'
  clear hbox hg1 hrow' hg' hbx HN
  go_wp2_with fail
  go_ret
  exact ⟨rfl, HGR.out, HRW.out⟩
theorem takeAt_nil (k : Int) : takeAt [] k = (0, if k < 0 then 23 else if 0 < k then 20 else 0) := by
  unfold takeAt
  by_cases h : k < 0
  · rw [if_pos h, if_pos h]
  · rw [if_neg h, if_neg h]
    by_cases h2 : 0 < k
    · rw [if_pos (by simp; omega), if_pos h2]
    · rw [if_neg (by simp; omega), if_neg h2, show k = 0 by omega]; rfl
set_option maxHeartbeats 1000000 in
set_option maxRecDepth 100000 in
theorem take_zero (g : Nat) (k : Int) (er : Nat) (w : World) (h : Row w g (.slice none 0 0) 0 0) (hk : takeAt [] k = (0, er)) : Calls Tryz.prog 103 #[.pointer (some ⟨g, 0, none⟩), .int .i64 k] w fun e w' => (∃ v, e = .returned v ∧ Own w' w.heap.size v [] ∧ Fu v) ∧ w.grownBy w' (some g) ∧ Row w' g (.slice none 0 0) 0 (er : Int) := by
  have hglt := h.lt
  have HB : Hid (Below w.heap.size w ((w.alloc (.cells #[.int .i64 k] 3)).alloc (.cells #[.slice none 0 0] 24))) := ((Below.refl _ _).alloc (Nat.le_refl _) _).alloc (by simp) _
  have H3 : Hid (Box ((w.alloc (.cells #[.int .i64 k] 3)).alloc (.cells #[.slice none 0 0] 24)) w.heap.size (.int .i64 k) 3) := by
    have h : Box (w.alloc (.cells #[.int .i64 k] 3)) w.heap.size (.int .i64 k) 3 := heap_alloc_new _ _
    exact h.below ((Below.refl _ _).alloc (Nat.le_refl _) _)
  have H5 : Hid (Box ((w.alloc (.cells #[.int .i64 k] 3)).alloc (.cells #[.slice none 0 0] 24)) (w.heap.size + 1) (.slice none 0 0) 24) := by
    have h : Box ((w.alloc (.cells #[.int .i64 k] 3)).alloc (.cells #[.slice none 0 0] 24)) (w.alloc (.cells #[.int .i64 k] 3)).heap.size (.slice none 0 0) 24 := heap_alloc_new _ _
    rw [show (w.alloc (.cells #[.int .i64 k] 3)).heap.size = w.heap.size + 1 by simp] at h
    exact h
  have HZ : Hid (((w.alloc (.cells #[.int .i64 k] 3)).alloc (.cells #[.slice none 0 0] 24)).heap.size = w.heap.size + 2) := by show _ = _; simp
  have HRow := hide (h.grown (below_grown HB.out) (by simp))
  have HF := hide (fun args w => enter_of Tryz.func142 (by kernel_rfl) (c := _) rfl args w)
  have HN := hide (take1_full none 0 0 w.heap.size (w.heap.size + 1) [] k _ (rd_nil _) (Nat.le_refl _) (by omega) H3.out H5.out (by omega) (fun ad e => by cases e))
  rw [hk] at HN
  simp only [List.take_nil] at HN
  clear H3 h hk
  by_cases he : er = 0
  · subst he
    go_enter Tryz.func103, Tryz.ntmps103
    go_wp2_with fail
    refine (read_zero _ g _ _ _ (fun w1 => (∃ v, Box w1 (w.heap.size + 1) v 24 ∧ Own w1 ((w.alloc (.cells #[.int .i64 k] 3)).alloc (.cells #[.slice none 0 0] 24)).heap.size v [] ∧ Fu v) ∧ ((w.alloc (.cells #[.int .i64 k] 3)).alloc (.cells #[.slice none 0 0] 24)).grownBy w1 (some (w.heap.size + 1))) HF.out HRow.out HN.out (fun w1 h => HRow.out.grown h.2 (fun e => by have := Option.some.inj e; omega))).mono ?_
    rintro e w' ⟨rfl, w1, ⟨⟨v, hbox, hown, hfu⟩, hg1⟩, hrow', hg'⟩
    have hbx : Box w' (w.heap.size + 1) v 24 := by
      unfold Box; rw [hg'.block _ hbox.lt (fun e => by have := Option.some.inj e; omega)]; exact hbox
    have HOW : Hid (Own w' w.heap.size v []) := (keep hown hg' (fun i j e1 e2 e => by have := (blk hown i e1).1; have := HZ.out; have e3 := Option.some.inj e2; omega)).mono (by have := HZ.out; omega)
    have c5 := hbx.c0
    have HFU := hide hfu
    have HGR : Hid (w.grownBy w' (some g)) := grown_trans (grown_new (grown_of_below HB.out) hg1 (fun i e => by cases e; omega)) hg'
    have HRW := hide hrow'
    clear hbox hown hg1 hrow' hg' hbx hfu HN
    go_wp2_with fail
    go_ret
    exact ⟨⟨_, rfl, HOW.out, HFU.out⟩, HGR.out, HRW.out⟩
  · go_enter Tryz.func103, Tryz.ntmps103
    go_wp2_with fail
    refine (read_fails _ g _ 0 (er : Int) _ _ 0 _ (fun w1 => (∃ v, Box w1 (w.heap.size + 1) v 24 ∧ Own w1 ((w.alloc (.cells #[.int .i64 k] 3)).alloc (.cells #[.slice none 0 0] 24)).heap.size v [] ∧ Fu v) ∧ ((w.alloc (.cells #[.int .i64 k] 3)).alloc (.cells #[.slice none 0 0] 24)).grownBy w1 (some (w.heap.size + 1))) HF.out HRow.out (by omega) HN.out (fun w1 h => HRow.out.grown h.2 (fun e => by have := Option.some.inj e; omega)) _ _ _ rfl).mono ?_
    rintro e w' ⟨rfl, w1, ⟨⟨v, hbox, hown, hfu⟩, hg1⟩, hrow', hg'⟩
    have hbx : Box w' (w.heap.size + 1) v 24 := by
      unfold Box; rw [hg'.block _ hbox.lt (fun e => by have := Option.some.inj e; omega)]; exact hbox
    have HOW : Hid (Own w' w.heap.size v []) := (keep hown hg' (fun i j e1 e2 e => by have := (blk hown i e1).1; have := HZ.out; have e3 := Option.some.inj e2; omega)).mono (by have := HZ.out; omega)
    have c5 := hbx.c0
    have HFU := hide hfu
    have HGR : Hid (w.grownBy w' (some g)) := grown_trans (grown_new (grown_of_below HB.out) hg1 (fun i e => by cases e; omega)) hg'
    have HRW := hide hrow'
    clear hbox hown hg1 hrow' hg' hbx hfu HN
    go_wp2_with fail
    go_ret
    exact ⟨⟨_, rfl, HOW.out, HFU.out⟩, HGR.out, HRW.out⟩
theorem fail_nil (k : Int) (w : World) : Calls Tryz.prog 104 #[.pointer none, .int .i64 k] w fun e w' => e = .returned (.tuple #[]) ∧ w' = w := by
  go_enter Tryz.func104, Tryz.ntmps104
  go_wp2
  refine bodyPost_ret (results_none rfl _ _ _) rfl ?_
  exact ⟨rfl, rfl⟩
theorem fail_none (g : Nat) (v : Value) (p er k : Int) (w : World) (h : Row w g v p er) (hk : er ≠ 0 ∨ k = 0) : Calls Tryz.prog 104 #[.pointer (some ⟨g, 0, none⟩), .int .i64 k] w fun e w' => e = .returned (.tuple #[]) ∧ w' = w := by
  have c2 := h.c2
  clear h
  by_cases he : er = 0
  · subst he
    obtain rfl : k = 0 := by omega
    clear hk
    go_enter Tryz.func104, Tryz.ntmps104
    go_wp2
    refine bodyPost_ret (results_none rfl _ _ _) rfl ?_
    exact ⟨rfl, rfl⟩
  · have hb : (er != 0) = true := by rw [bne_iff_ne]; exact he
    clear hk he
    go_enter Tryz.func104, Tryz.ntmps104
    go_wp2
    refine bodyPost_ret (results_none rfl _ _ _) rfl ?_
    exact ⟨rfl, rfl⟩
theorem rest_nil (w : World) : Calls Tryz.prog 114 #[.pointer none] w fun e w' => e = .returned (.int .i64 0) ∧ w' = w := by
  go_enter Tryz.func114, Tryz.ntmps114
  go_wp2
  go_ret
  exact ⟨rfl, rfl⟩
set_option maxRecDepth 100000 in
theorem end_nil (w : World) : Calls Tryz.prog 85 #[.pointer none] w fun e w' => e = .returned (.agg #[.int .i64 1, .int .i64 0]) ∧ Below w.heap.size w w' := by
  go_enter Tryz.func85, Tryz.ntmps85
  go_wp2
  refine bodyPost_ret (results_cell_row rfl _ _ w.heap.size 139 #[.int .i64 1, .int .i64 0] (0, 0) _ rfl (heap_alloc_new _ _) Tryz.underlying139 rfl (by kernel_rfl)) rfl ?_
  exact ⟨rfl, (Below.refl _ _).alloc (Nat.le_refl _) _⟩
theorem rest_none (g : Nat) (p er : Int) (w : World) (h : Row w g (.slice none 0 0) p er) : Calls Tryz.prog 114 #[.pointer (some ⟨g, 0, none⟩)] w fun e w' => e = .returned (.int .i64 0) ∧ w' = w := by
  have c0 := h.c0
  clear h
  go_enter Tryz.func114, Tryz.ntmps114
  go_wp2
  go_ret
  exact ⟨rfl, rfl⟩
set_option maxRecDepth 100000 in
theorem end_none (g : Nat) (p er : Int) (w : World) (h : Row w g (.slice none 0 0) p er) (hp : er = 0 → p = 0) : Calls Tryz.prog 85 #[.pointer (some ⟨g, 0, none⟩)] w fun e w' => e = .returned (.agg #[.int .i64 er, .int .i64 p]) ∧ Below w.heap.size w w' := by
  have hglt := h.lt
  have hne : g ≠ w.heap.size := by omega
  have c0 := h.c0
  have c1 := h.c1
  have c2 := h.c2
  clear h
  by_cases he : er = 0
  · obtain rfl := hp he
    subst he
    clear hp
    go_enter Tryz.func85, Tryz.ntmps85
    go_wp2
    refine bodyPost_ret (results_cell_row rfl _ _ w.heap.size 139 #[.int .i64 0, .int .i64 0] (0, 0) _ rfl (heap_alloc_new _ _) Tryz.underlying139 rfl (by kernel_rfl)) rfl ?_
    exact ⟨rfl, (Below.refl _ _).alloc (Nat.le_refl _) _⟩
  · have hb : (er != 0) = true := by rw [bne_iff_ne]; exact he
    clear hp he
    go_enter Tryz.func85, Tryz.ntmps85
    go_wp2
    go_region_held (fun V => V.cell? ⟨g, 1, none⟩ = some (.int .i64 p) ∧ V.cell? ⟨g, 2, none⟩ = some (.int .i64 er)) (go_keep) (fail)
    all_goals
      go_wp2
      refine bodyPost_ret (results_cell_row rfl _ _ w.heap.size 139 #[.int .i64 er, .int .i64 p] (0, 0) _ rfl (show (w.alloc (.cells #[.int .i64 er, .int .i64 p] 139)).heap[w.heap.size]? = _ from heap_alloc_new _ _) Tryz.underlying139 rfl (by kernel_rfl)) rfl ?_
      exact ⟨rfl, ((Below.refl _ _).alloc (Nat.le_refl _) _).drew⟩
end Go.Proofs.YthdblnfohbldcaaGreat.Curs
/-
  A cursor that may have failed, read on.
-/
namespace Go.Proofs.YthdblnfohbldcaaGreat.Fa
open Go.ChangeShapes Go.WideShapes Go.ChangeAt Go.RowKit
open Go.Proofs.YthdblnfohbldcaaGreat.Base Go.Proofs.YthdblnfohbldcaaGreat.Nums Go.Proofs.YthdblnfohbldcaaGreat.Curs
set_option linter.unusedVariables false
/-- What is left of a cursor; none: it has failed. -/
abbrev St := Option (List (BitVec 8))
def Cst (w : World) (g : Nat) : St → Prop
  | some L => ∃ p, Cur w g L p
  | none => ∃ (p er : Int), Row w g (.slice none 0 0) p er ∧ er ≠ 0
/-- A number is read. -/
def numS (s : St) (most : Int) : Nat × St :=
  match s with
  | none => (0, none)
  | some L => if (atMost L most).2.2 = 0 then ((atMost L most).1, some (L.drop (atMost L most).2.1)) else (0, none)
/-- A word is read. -/
def fixS (s : St) (n : Int) : Nat × St :=
  match s with
  | none => (0, none)
  | some L => if (fixAt L n).2.2 = 0 then ((fixAt L n).1, some (L.drop (fixAt L n).2.1)) else (0, none)
theorem Cur.row {w : World} {g p : Nat} {L : List (BitVec 8)} (h : Cur w g L p) : ∃ v q, Row w g v q 0 := by
  obtain ⟨a, c, hrow, _⟩ := h
  exact ⟨_, _, hrow⟩
theorem Cst.lt {w : World} {g : Nat} {s : St} (h : Cst w g s) : g < w.heap.size := by
  cases s with
  | none => obtain ⟨p, er, hr, _⟩ := h; exact hr.lt
  | some L => obtain ⟨p, hc⟩ := h; obtain ⟨v, q, hr⟩ := Cur.row hc; exact hr.lt
/-- The cursor stays as it is where memory elsewhere grows. -/
theorem Cst.below {w w' : World} {g : Nat} {s : St} (h : Cst w g s) (hb : Below w.heap.size w w') : Cst w' g s := by
  cases s with
  | none =>
    obtain ⟨p, er, hr, he⟩ := h
    exact ⟨p, er, hr.grown (below_grown hb) (by simp), he⟩
  | some L =>
    obtain ⟨p, a, c, hrow, hrd, h1, h2, h3, h4, h5, h6⟩ := h
    exact ⟨p, a, c, hrow.grown (below_grown hb) (by simp), hrd.below hb, h1, h2, h3, h4, Nat.lt_of_lt_of_le h5 hb.size, h6⟩
theorem atMost_zero (L : List (BitVec 8)) (k : Int) (h : (atMost L k).2.2 ≠ 0) : (atMost L k).1 = 0 := by
  unfold atMost at h ⊢
  split
  · rfl
  · split
    · rfl
    · rename_i h1 h2
      rw [if_neg h1, if_neg h2] at h
      exact absurd (by simpa using h1) h
theorem fixAt_zero (L : List (BitVec 8)) (k : Int) (h : (fixAt L k).2.2 ≠ 0) : (fixAt L k).1 = 0 := by
  unfold fixAt at h ⊢
  split
  · rfl
  · split
    · rfl
    · rename_i h1 h2
      rw [if_neg h1, if_neg h2] at h
      exact absurd rfl h
theorem num_st (g : Nat) (s : St) (most : Int) (w : World) (h : Cst w g s) :
    Calls Tryz.prog 102 #[.pointer (some ⟨g, 0, none⟩), .int .i64 most] w fun e w' => e = .returned (.int .i64 ((numS s most).1 : Nat)) ∧ w.grownBy w' (some g) ∧ Cst w' g (numS s most).2 := by
  cases s with
  | none =>
    obtain ⟨p, er, hr, he⟩ := h
    refine (num_dead g _ p er most w hr he).mono ?_
    rintro e w' ⟨rfl, hb⟩
    exact ⟨rfl, grown_any (below_grown hb) _, ⟨p, er, hr.grown (below_grown hb) (by simp), he⟩⟩
  | some L =>
    obtain ⟨p, hc⟩ := h
    refine (num_any g p L most w hc).mono ?_
    rintro e w' ⟨rfl, hg, hif⟩
    unfold numS
    simp only
    by_cases h0 : (atMost L most).2.2 = 0
    · rw [if_pos h0] at hif ⊢
      exact ⟨rfl, hg, ⟨_, hif⟩⟩
    · rw [if_neg h0] at hif ⊢
      exact ⟨by rw [atMost_zero L most h0], hg, ⟨_, _, hif.1, by have := hif.2; omega⟩⟩
theorem fix_st (g : Nat) (s : St) (k : Int) (w : World) (h : Cst w g s) :
    Calls Tryz.prog 84 #[.pointer (some ⟨g, 0, none⟩), .int .i64 k] w fun e w' => e = .returned (.int .u64 ((fixS s k).1 : Nat)) ∧ w.grownBy w' (some g) ∧ Cst w' g (fixS s k).2 := by
  cases s with
  | none =>
    obtain ⟨p, er, hr, he⟩ := h
    refine (fixed_dead g _ p er k w hr he).mono ?_
    rintro e w' ⟨rfl, hb⟩
    exact ⟨rfl, grown_any (below_grown hb) _, ⟨p, er, hr.grown (below_grown hb) (by simp), he⟩⟩
  | some L =>
    obtain ⟨p, hc⟩ := h
    refine (fixedC_any g p L k w hc).mono ?_
    rintro e w' ⟨rfl, hg, hif⟩
    unfold fixS
    simp only
    by_cases h0 : (fixAt L k).2.2 = 0
    · rw [if_pos h0] at hif ⊢
      exact ⟨rfl, hg, ⟨_, hif⟩⟩
    · rw [if_neg h0] at hif ⊢
      exact ⟨by rw [fixAt_zero L k h0], hg, ⟨_, _, hif.1, by have := hif.2; omega⟩⟩
end Go.Proofs.YthdblnfohbldcaaGreat.Fa
/-
  The items that are handed in, and whether they are beyond the bound.
-/
namespace Go.Proofs.YthdblnfohbldcaaGreat.Curs
open Go.ChangeShapes Go.WideShapes Go.ChangeAt Go.RowKit
open Go.Proofs.YthdblnfohbldcaaGreat.Base Go.Proofs.YthdblnfohbldcaaGreat.Nums
set_option linter.unusedVariables false
/-- The items lie in memory as told. -/
def ItemsAt (w : World) (a : Option Addr) (len : Nat) (kd vv nn : Nat → Int) (ss : Nat → ByteArray) : Prop :=
  0 < len → ∃ b off, a = some ⟨b, off, none⟩ ∧ b < w.heap.size ∧ ∀ i, i < len → w.cell? ⟨b, off + i * 4, none⟩ = some (.int .i64 (kd i)) ∧ w.cell? ⟨b, off + i * 4 + 1, none⟩ = some (.int .i64 (vv i)) ∧ w.cell? ⟨b, off + i * 4 + 2, none⟩ = some (.int .i64 (nn i)) ∧ w.cell? ⟨b, off + i * 4 + 3, none⟩ = some (.string (ss i))
def tot (ss : Nat → ByteArray) : Nat → Nat
  | 0 => 0
  | i + 1 => tot ss i + 1 + (ss i).size
theorem tot_mono (ss : Nat → ByteArray) (i d : Nat) : tot ss i ≤ tot ss (i + d) := by
  induction d with
  | zero => exact Nat.le_refl _
  | succ d ih => show _ ≤ tot ss (i + d) + 1 + (ss (i + d)).size; omega
theorem tot_le (ss : Nat → ByteArray) (i j : Nat) (h : i ≤ j) : tot ss i ≤ tot ss j := by
  have := tot_mono ss i (j - i)
  rwa [show i + (j - i) = j by omega] at this
end Go.Proofs.YthdblnfohbldcaaGreat.Curs
/-
  What is written one behind the other is read one behind the other: said of lists.
-/
namespace Go.Proofs.YthdblnfohbldcaaGreat.Curs
open Go.Proofs.YthdblnfohbldcaaGreat.Base Go.Proofs.YthdblnfohbldcaaGreat.Nums
set_option linter.unusedVariables false
theorem atMost_put (v : Nat) (rest : List (BitVec 8)) (most : Int) (hv : v < 9223372036854775808) (h : (v : Int) ≤ most) : atMost (put v ++ rest) most = (v, (put v).length, 0) := by
  unfold atMost
  rw [get_put v rest hv]
  rw [if_neg (by simp), if_neg (by show ¬ most < (v : Int); omega)]
theorem atMost_much (v : Nat) (rest : List (BitVec 8)) (most : Int) (hv : v < 9223372036854775808) (h : most < (v : Int)) : atMost (put v ++ rest) most = (0, 0, 23) := by
  unfold atMost
  rw [get_put v rest hv]
  rw [if_neg (by simp), if_pos (by show most < (v : Int); exact h)]
theorem fixAt_fixed (v n : Nat) (rest : List (BitVec 8)) (h1 : 1 ≤ n) (h8 : n ≤ 8) : fixAt (fixed v n ++ rest) (n : Int) = (v % 256 ^ n, n, 0) := by
  unfold fixAt
  rw [if_neg (by omega), if_neg (by rw [List.length_append, length_fixed]; omega), Int.toNat_natCast]
  have e : (fixed v n ++ rest).take n = fixed v n := by
    have h := List.take_left (l₁ := fixed v n) (l₂ := rest)
    rw [length_fixed] at h
    exact h
  rw [e, word_fixed v n h8]
theorem takeAt_app (bs rest : List (BitVec 8)) : takeAt (bs ++ rest) (bs.length : Int) = (bs.length, 0) := by
  unfold takeAt
  rw [if_neg (by omega), if_neg (by rw [List.length_append]; omega), Int.toNat_natCast]
theorem textAt_app (bs rest : List (BitVec 8)) (h : bs.length < 9223372036854775808) : textAt (put bs.length ++ (bs ++ rest)) (bs.length : Int) = ((put bs.length).length + bs.length, 0, bs) := by
  unfold textAt
  rw [atMost_put bs.length (bs ++ rest) _ h (by omega)]
  rw [if_neg (by simp), if_neg (by simp [List.length_append])]
  show (_, _, ((put bs.length ++ (bs ++ rest)).drop (put bs.length).length).take bs.length) = _
  rw [List.drop_left, List.take_left]
/-- A text as bytes. -/
def txtB (s : ByteArray) : List (BitVec 8) := s.data.toList.map UInt8.toBitVec
theorem str_txt (s : ByteArray) : str ((txtB s)) = s := by
  unfold str txtB
  obtain ⟨⟨l⟩⟩ := s
  have e : (l.map UInt8.toBitVec).map UInt8.ofBitVec = l := by
    induction l with
    | nil => rfl
    | cons x xs ih => rw [List.map_cons, List.map_cons, ih]
  show ByteArray.mk ((l.map UInt8.toBitVec).map UInt8.ofBitVec).toArray = _
  rw [e]
end Go.Proofs.YthdblnfohbldcaaGreat.Curs
/-
  The program's cursor: its readings, with a bound on where its bytes lie.
-/
namespace Go.Proofs.YthdblnfohbldcaaGreat.Curs
open Go.ChangeShapes Go.WideShapes Go.ChangeAt Go.RowKit
open Go.Proofs.YthdblnfohbldcaaGreat.Base Go.Proofs.YthdblnfohbldcaaGreat.Nums
set_option linter.unusedVariables false
/-- The cursor in block g, its bytes in a block below D. -/
def CurD (w : World) (g D : Nat) (L : List (BitVec 8)) (p : Nat) : Prop :=
  ∃ a c, Row w g (.slice (some a) L.length c) (p : Int) 0 ∧ Rd w (some a) L.length L ∧ L.length ≤ c ∧ c ≤ 9223372036854775807 ∧ a.spot = none ∧ a.block ≠ g ∧ a.block < D ∧ D ≤ w.heap.size ∧ (p : Int) + (L.length : Int) ≤ 9223372036854775807
theorem CurD.cur {w : World} {g D p : Nat} {L : List (BitVec 8)} (h : CurD w g D L p) : Cur w g L p := by
  obtain ⟨a, c, h1, h2, h3, h4, h5, h6, h7, h8, h9⟩ := h
  exact ⟨a, c, h1, h2, h3, h4, h5, h6, by omega, h9⟩
theorem movedD {w W2 w1 w' : World} {g p5 p t c D : Nat} {a a' : Addr} {L : List (BitVec 8)} (hb : Below w.heap.size w W2) (h1 : W2.grownBy w1 (some p5)) (h5 : w.heap.size ≤ p5) (h2 : w1.grownBy w' (some g)) (hrd : Rd w (some a) L.length L) (hs : a.spot = none) (hag : a.block ≠ g) (halt : a.block < w.heap.size) (hD1 : a.block < D) (hD2 : D ≤ w.heap.size)
    (ht : t ≤ L.length) (hlc : L.length ≤ c) (hc : c ≤ 9223372036854775807) (hp : (p : Int) + (L.length : Int) ≤ 9223372036854775807)
    (hrow : Row w' g (.slice (some a') (L.length - t) (c - t)) ((p : Int) + (t : Int)) 0) (hs' : a'.spot = none) (hb' : a'.block = a.block) (hm : t < L.length → a' = ⟨a.block, a.off + t, none⟩) : CurD w' g D (L.drop t) (p + t) ∧ w.grownBy w' (some g) := by
  have g1 : w.grownBy w1 (some g) := grown_new (grown_of_below hb) h1 (fun i e => by cases e; exact h5)
  refine ⟨⟨a', c - t, ?_, ?_, by rw [List.length_drop]; omega, by omega, hs', by rw [hb']; exact hag, by rw [hb']; exact hD1, Nat.le_trans hD2 (Nat.le_trans g1.size h2.size), ?_⟩, grown_trans g1 h2⟩
  · rw [List.length_drop, Int.natCast_add]; exact hrow
  · have r1 : Rd w' (some a) L.length L := (hrd.below hb).grown h1 (fun ad e e2 => by cases e; have := Option.some.inj e2; omega) |>.grown h2 (fun ad e e2 => by cases e; exact hag (Option.some.inj e2).symm)
    rw [List.length_drop]
    exact rd_move r1 hs ht hm
  · rw [List.length_drop]; omega

set_option maxHeartbeats 1000000 in
set_option maxRecDepth 100000 in
theorem num_d (g D p : Nat) (L : List (BitVec 8)) (most : Int) (w : World) (h : CurD w g D L p) :
    Calls Tryz.prog 102 #[.pointer (some ⟨g, 0, none⟩), .int .i64 most] w fun e w' => e = .returned (.int .i64 ((atMost L most).1 : Nat)) ∧ w.grownBy w' (some g) ∧
      (if (atMost L most).2.2 = 0 then CurD w' g D (L.drop (atMost L most).2.1) (p + (atMost L most).2.1) else Dead w' g p (atMost L most).2.2) := by
  obtain ⟨a, c, hrow, hrd, hlc, hc, hs, hab, hD1, hD2, hp⟩ := h
  have halt : a.block < w.heap.size := by omega
  have hglt := hrow.lt
  have HB : Hid (Below w.heap.size w ((w.alloc (.cells #[.int .i64 most] 2)).alloc (.cells #[.int .i64 0] 2))) := ((Below.refl _ _).alloc (Nat.le_refl _) _).alloc (by simp) _
  have H3 : Hid (Box ((w.alloc (.cells #[.int .i64 most] 2)).alloc (.cells #[.int .i64 0] 2)) w.heap.size (.int .i64 most) 2) := by
    have h : Box (w.alloc (.cells #[.int .i64 most] 2)) w.heap.size (.int .i64 most) 2 := heap_alloc_new _ _
    exact h.below ((Below.refl _ _).alloc (Nat.le_refl _) _)
  have H5 : Hid (Box ((w.alloc (.cells #[.int .i64 most] 2)).alloc (.cells #[.int .i64 0] 2)) (w.heap.size + 1) (.int .i64 0) 2) := by
    have h : Box ((w.alloc (.cells #[.int .i64 most] 2)).alloc (.cells #[.int .i64 0] 2)) (w.alloc (.cells #[.int .i64 most] 2)).heap.size (.int .i64 0) 2 := heap_alloc_new _ _
    rw [show (w.alloc (.cells #[.int .i64 most] 2)).heap.size = w.heap.size + 1 by simp] at h
    exact h
  have HRow := hide (hrow.grown (below_grown HB.out) (by simp))
  have HRd := hide hrd
  have HN := hide (num1_any (some a) L.length c w.heap.size (w.heap.size + 1) L most _ (hrd.below HB.out) hlc hc H3.out H5.out)
  have hal := atMost_len L most
  clear hrow hrd H3
  have HF := hide (fun args w => enter_of Tryz.func140 (by kernel_rfl) (c := _) rfl args w)
  generalize hG : atMost L most = G at HN hal
  have HG := hide hG
  clear hG
  obtain ⟨gv, gn, ge⟩ := G
  simp only at HN hal
  by_cases he : ge = 0
  · subst he
    go_enter Tryz.func102, Tryz.ntmps102
    go_wp2_with fail
    refine (read_take _ g L.length c gn a _ _ (p : Int) _ (fun w1 => Box w1 (w.heap.size + 1) (.int .i64 (gv : Int)) 2 ∧ ((w.alloc (.cells #[.int .i64 most] 2)).alloc (.cells #[.int .i64 0] 2)).grownBy w1 (some (w.heap.size + 1))) HF.out HRow.out hal hlc hc ⟨by omega, hp⟩ hs HN.out (fun w1 h => HRow.out.grown h.2 (fun e => by have := Option.some.inj e; omega))).mono ?_
    rintro e w' ⟨rfl, w1, a', ⟨hbox, hg1⟩, hrow', hg', hs', hb', hm'⟩
    have hmv := movedD HB.out hg1 (by omega) hg' HRd.out hs hab halt hD1 hD2 hal hlc hc hp hrow' hs' hb' hm'
    have hbx : Box w' (w.heap.size + 1) (.int .i64 (gv : Int)) 2 := by
      unfold Box; rw [hg'.block _ hbox.lt (fun e => by have := Option.some.inj e; omega)]; exact hbox
    have c5 := hbx.c0
    have HMV := hide hmv
    clear hbox hg1 hrow' hg' hs' hb' hm' hmv hbx
    go_wp2_with fail
    go_ret
    exact ⟨rfl, HMV.out.2, by first | exact HMV.out.1 | (simp only [if_true]; exact HMV.out.1)⟩
  · go_enter Tryz.func102, Tryz.ntmps102
    go_wp2_with fail
    refine (read_fails _ g _ (gn : Int) (ge : Int) _ _ (p : Int) _ (fun w1 => Box w1 (w.heap.size + 1) (.int .i64 (gv : Int)) 2 ∧ ((w.alloc (.cells #[.int .i64 most] 2)).alloc (.cells #[.int .i64 0] 2)).grownBy w1 (some (w.heap.size + 1))) HF.out HRow.out (by omega) HN.out (fun w1 h => HRow.out.grown h.2 (fun e => by have := Option.some.inj e; omega)) _ _ _ rfl).mono ?_
    rintro e w' ⟨rfl, w1, ⟨hbox, hg1⟩, hrow', hg'⟩
    have hbx : Box w' (w.heap.size + 1) (.int .i64 (gv : Int)) 2 := by
      unfold Box; rw [hg'.block _ hbox.lt (fun e => by have := Option.some.inj e; omega)]; exact hbox
    have c5 := hbx.c0
    have HGR : Hid (w.grownBy w' (some g)) := grown_trans (grown_new (grown_of_below HB.out) hg1 (fun i e => by cases e; omega)) hg'
    have HRW := hide hrow'
    clear hbox hg1 hrow' hg' hbx
    go_wp2_with fail
    go_ret
    exact ⟨rfl, HGR.out, by first | exact ⟨HRW.out, he⟩ | (simp only [if_neg he]; exact ⟨HRW.out, he⟩)⟩

set_option maxHeartbeats 1000000 in
set_option maxRecDepth 100000 in
theorem fixed_d (g D p : Nat) (L : List (BitVec 8)) (most : Int) (w : World) (h : CurD w g D L p) :
    Calls Tryz.prog 84 #[.pointer (some ⟨g, 0, none⟩), .int .i64 most] w fun e w' => e = .returned (.int .u64 ((fixAt L most).1 : Nat)) ∧ w.grownBy w' (some g) ∧
      (if (fixAt L most).2.2 = 0 then CurD w' g D (L.drop (fixAt L most).2.1) (p + (fixAt L most).2.1) else Dead w' g p (fixAt L most).2.2) := by
  obtain ⟨a, c, hrow, hrd, hlc, hc, hs, hab, hD1, hD2, hp⟩ := h
  have halt : a.block < w.heap.size := by omega
  have hglt := hrow.lt
  have HB : Hid (Below w.heap.size w ((w.alloc (.cells #[.int .i64 most] 3)).alloc (.cells #[.int .u64 0] 39))) := ((Below.refl _ _).alloc (Nat.le_refl _) _).alloc (by simp) _
  have H3 : Hid (Box ((w.alloc (.cells #[.int .i64 most] 3)).alloc (.cells #[.int .u64 0] 39)) w.heap.size (.int .i64 most) 3) := by
    have h : Box (w.alloc (.cells #[.int .i64 most] 3)) w.heap.size (.int .i64 most) 3 := heap_alloc_new _ _
    exact h.below ((Below.refl _ _).alloc (Nat.le_refl _) _)
  have H5 : Hid (Box ((w.alloc (.cells #[.int .i64 most] 3)).alloc (.cells #[.int .u64 0] 39)) (w.heap.size + 1) (.int .u64 0) 39) := by
    have h : Box ((w.alloc (.cells #[.int .i64 most] 3)).alloc (.cells #[.int .u64 0] 39)) (w.alloc (.cells #[.int .i64 most] 3)).heap.size (.int .u64 0) 39 := heap_alloc_new _ _
    rw [show (w.alloc (.cells #[.int .i64 most] 3)).heap.size = w.heap.size + 1 by simp] at h
    exact h
  have HRow := hide (hrow.grown (below_grown HB.out) (by simp))
  have HRd := hide hrd
  have HN := hide (fixed1_any (some a) L.length c w.heap.size (w.heap.size + 1) L most _ (hrd.below HB.out) hlc hc H3.out H5.out (by omega))
  have hal := fixAt_len L most
  clear hrow hrd H3
  have HF := hide (fun args w => enter_of Tryz.func130 (by kernel_rfl) (c := _) rfl args w)
  generalize hG : fixAt L most = G at HN hal
  have HG := hide hG
  clear hG
  obtain ⟨gv, gn, ge⟩ := G
  simp only at HN hal
  by_cases he : ge = 0
  · subst he
    go_enter Tryz.func84, Tryz.ntmps84
    go_wp2_with fail
    refine (read_take _ g L.length c gn a _ _ (p : Int) _ (fun w1 => Box w1 (w.heap.size + 1) (.int .u64 (gv : Int)) 39 ∧ ((w.alloc (.cells #[.int .i64 most] 3)).alloc (.cells #[.int .u64 0] 39)).grownBy w1 (some (w.heap.size + 1))) HF.out HRow.out hal hlc hc ⟨by omega, hp⟩ hs HN.out (fun w1 h => HRow.out.grown h.2 (fun e => by have := Option.some.inj e; omega))).mono ?_
    rintro e w' ⟨rfl, w1, a', ⟨hbox, hg1⟩, hrow', hg', hs', hb', hm'⟩
    have hmv := movedD HB.out hg1 (by omega) hg' HRd.out hs hab halt hD1 hD2 hal hlc hc hp hrow' hs' hb' hm'
    have hbx : Box w' (w.heap.size + 1) (.int .u64 (gv : Int)) 39 := by
      unfold Box; rw [hg'.block _ hbox.lt (fun e => by have := Option.some.inj e; omega)]; exact hbox
    have c5 := hbx.c0
    have HMV := hide hmv
    clear hbox hg1 hrow' hg' hs' hb' hm' hmv hbx
    go_wp2_with fail
    go_ret
    exact ⟨rfl, HMV.out.2, by first | exact HMV.out.1 | (simp only [if_true]; exact HMV.out.1)⟩
  · go_enter Tryz.func84, Tryz.ntmps84
    go_wp2_with fail
    refine (read_fails _ g _ (gn : Int) (ge : Int) _ _ (p : Int) _ (fun w1 => Box w1 (w.heap.size + 1) (.int .u64 (gv : Int)) 39 ∧ ((w.alloc (.cells #[.int .i64 most] 3)).alloc (.cells #[.int .u64 0] 39)).grownBy w1 (some (w.heap.size + 1))) HF.out HRow.out (by omega) HN.out (fun w1 h => HRow.out.grown h.2 (fun e => by have := Option.some.inj e; omega)) _ _ _ rfl).mono ?_
    rintro e w' ⟨rfl, w1, ⟨hbox, hg1⟩, hrow', hg'⟩
    have hbx : Box w' (w.heap.size + 1) (.int .u64 (gv : Int)) 39 := by
      unfold Box; rw [hg'.block _ hbox.lt (fun e => by have := Option.some.inj e; omega)]; exact hbox
    have c5 := hbx.c0
    have HGR : Hid (w.grownBy w' (some g)) := grown_trans (grown_new (grown_of_below HB.out) hg1 (fun i e => by cases e; omega)) hg'
    have HRW := hide hrow'
    clear hbox hg1 hrow' hg' hbx
    go_wp2_with fail
    go_ret
    exact ⟨rfl, HGR.out, by first | exact ⟨HRW.out, he⟩ | (simp only [if_neg he]; exact ⟨HRW.out, he⟩)⟩

set_option maxHeartbeats 1000000 in
set_option maxRecDepth 100000 in
theorem take_d (g D p : Nat) (L : List (BitVec 8)) (k : Int) (w : World) (h : CurD w g D L p) :
    Calls Tryz.prog 103 #[.pointer (some ⟨g, 0, none⟩), .int .i64 k] w fun e w' => (∃ v, e = .returned v ∧ Own w' w.heap.size v (L.take (takeAt L k).1) ∧ Fu v) ∧ w.grownBy w' (some g) ∧
      (if (takeAt L k).2 = 0 then CurD w' g D (L.drop (takeAt L k).1) (p + (takeAt L k).1) else Dead w' g p (takeAt L k).2) := by
  obtain ⟨a, c, hrow, hrd, hlc, hc, hs, hab, hD1, hD2, hp⟩ := h
  have halt : a.block < w.heap.size := by omega
  have hglt := hrow.lt
  have HB : Hid (Below w.heap.size w ((w.alloc (.cells #[.int .i64 k] 3)).alloc (.cells #[.slice none 0 0] 24))) := ((Below.refl _ _).alloc (Nat.le_refl _) _).alloc (by simp) _
  have H3 : Hid (Box ((w.alloc (.cells #[.int .i64 k] 3)).alloc (.cells #[.slice none 0 0] 24)) w.heap.size (.int .i64 k) 3) := by
    have h : Box (w.alloc (.cells #[.int .i64 k] 3)) w.heap.size (.int .i64 k) 3 := heap_alloc_new _ _
    exact h.below ((Below.refl _ _).alloc (Nat.le_refl _) _)
  have H5 : Hid (Box ((w.alloc (.cells #[.int .i64 k] 3)).alloc (.cells #[.slice none 0 0] 24)) (w.heap.size + 1) (.slice none 0 0) 24) := by
    have h : Box ((w.alloc (.cells #[.int .i64 k] 3)).alloc (.cells #[.slice none 0 0] 24)) (w.alloc (.cells #[.int .i64 k] 3)).heap.size (.slice none 0 0) 24 := heap_alloc_new _ _
    rw [show (w.alloc (.cells #[.int .i64 k] 3)).heap.size = w.heap.size + 1 by simp] at h
    exact h
  have HZ : Hid (((w.alloc (.cells #[.int .i64 k] 3)).alloc (.cells #[.slice none 0 0] 24)).heap.size = w.heap.size + 2) := by show _ = _; simp
  have HRow := hide (hrow.grown (below_grown HB.out) (by simp))
  have HRd := hide hrd
  have hrl := hrd.2.1
  have HN := hide (take1_full (some a) L.length c w.heap.size (w.heap.size + 1) L k _ (hrd.below HB.out) hlc hrl H3.out H5.out (by omega) (fun ad e => by cases e; omega))
  have hal := takeAt_len L k
  clear hrow hrd H3
  have HF := hide (fun args w => enter_of Tryz.func142 (by kernel_rfl) (c := _) rfl args w)
  generalize hG : takeAt L k = G at HN hal
  clear hG
  obtain ⟨gn, ge⟩ := G
  simp only at HN hal
  by_cases he : ge = 0
  · subst he
    go_enter Tryz.func103, Tryz.ntmps103
    go_wp2_with fail
    refine (read_take _ g L.length c gn a _ _ (p : Int) _ (fun w1 => (∃ v, Box w1 (w.heap.size + 1) v 24 ∧ Own w1 ((w.alloc (.cells #[.int .i64 k] 3)).alloc (.cells #[.slice none 0 0] 24)).heap.size v (L.take gn) ∧ Fu v) ∧ ((w.alloc (.cells #[.int .i64 k] 3)).alloc (.cells #[.slice none 0 0] 24)).grownBy w1 (some (w.heap.size + 1))) HF.out HRow.out hal hlc hc ⟨by omega, hp⟩ hs HN.out (fun w1 h => HRow.out.grown h.2 (fun e => by have := Option.some.inj e; omega))).mono ?_
    rintro e w' ⟨rfl, w1, a', ⟨⟨v, hbox, hown, hfu⟩, hg1⟩, hrow', hg', hs', hb', hm'⟩
    have hmv := movedD HB.out hg1 (by omega) hg' HRd.out hs hab halt hD1 hD2 hal hlc hc hp hrow' hs' hb' hm'
    have hbx : Box w' (w.heap.size + 1) v 24 := by
      unfold Box; rw [hg'.block _ hbox.lt (fun e => by have := Option.some.inj e; omega)]; exact hbox
    have HOW : Hid (Own w' w.heap.size v (L.take gn)) := (keep hown hg' (fun i j e1 e2 e => by have := (blk hown i e1).1; have := HZ.out; have e3 := Option.some.inj e2; omega)).mono (by have := HZ.out; omega)
    have HFU := hide hfu
    clear hfu
    have c5 := hbx.c0
    have HMV := hide hmv
    clear hbox hown hg1 hrow' hg' hs' hb' hm' hmv hbx
    go_wp2_with fail
    go_ret
    exact ⟨⟨_, rfl, HOW.out, HFU.out⟩, HMV.out.2, by first | exact HMV.out.1 | (simp only [if_true]; exact HMV.out.1)⟩
  · go_enter Tryz.func103, Tryz.ntmps103
    go_wp2_with fail
    refine (read_fails _ g _ (gn : Int) (ge : Int) _ _ (p : Int) _ (fun w1 => (∃ v, Box w1 (w.heap.size + 1) v 24 ∧ Own w1 ((w.alloc (.cells #[.int .i64 k] 3)).alloc (.cells #[.slice none 0 0] 24)).heap.size v (L.take gn) ∧ Fu v) ∧ ((w.alloc (.cells #[.int .i64 k] 3)).alloc (.cells #[.slice none 0 0] 24)).grownBy w1 (some (w.heap.size + 1))) HF.out HRow.out (by omega) HN.out (fun w1 h => HRow.out.grown h.2 (fun e => by have := Option.some.inj e; omega)) _ _ _ rfl).mono ?_
    rintro e w' ⟨rfl, w1, ⟨⟨v, hbox, hown, hfu⟩, hg1⟩, hrow', hg'⟩
    have hbx : Box w' (w.heap.size + 1) v 24 := by
      unfold Box; rw [hg'.block _ hbox.lt (fun e => by have := Option.some.inj e; omega)]; exact hbox
    have HOW : Hid (Own w' w.heap.size v (L.take gn)) := (keep hown hg' (fun i j e1 e2 e => by have := (blk hown i e1).1; have := HZ.out; have e3 := Option.some.inj e2; omega)).mono (by have := HZ.out; omega)
    have HFU := hide hfu
    clear hfu
    have c5 := hbx.c0
    have HGR : Hid (w.grownBy w' (some g)) := grown_trans (grown_new (grown_of_below HB.out) hg1 (fun i e => by cases e; omega)) hg'
    have HRW := hide hrow'
    clear hbox hown hg1 hrow' hg' hbx
    go_wp2_with fail
    go_ret
    exact ⟨⟨_, rfl, HOW.out, HFU.out⟩, HGR.out, by first | exact ⟨HRW.out, he⟩ | (simp only [if_neg he]; exact ⟨HRW.out, he⟩)⟩


end Go.Proofs.YthdblnfohbldcaaGreat.Curs
/-
  What the program reads: all tokens, handed on one by one.
-/
namespace Go.Proofs.YthdblnfohbldcaaGreat.Lz
open Go.ChangeShapes Go.WideShapes Go.ChangeAt Go.RowKit
open Go.Proofs.YthdblnfohbldcaaGreat.Base Go.Proofs.YthdblnfohbldcaaGreat.Nums
set_option linter.unusedVariables false
theorem enter_of {f : FuncId} {fn : Func} {c : Code} (hf : Tryz.prog.funcs[f]? = some fn) (hname : (fn.name == "runtime.NumGoroutine") = false) (hb : fn.body = some c) (args : Array Value) (w : World) : (callFunc f args).run Tryz.prog w = .ok (.enter f args) w := Go.MuLone.run_callFunc_enter hf hname hb args w
/-- What is asked of the function that tokens are handed to, with what it holds: 'I ts' holds where the tokens ts have been handed on. -/
structure Taker (f : Nat) (caps : Array Value) (n : Nat) (I : List Tok → World → Prop) : Prop where
  keep : ∀ ts w0 w1, I ts w0 → Below w0.heap.size w0 w1 → I ts w1
  step : ∀ ts t la lc w0 w1, I ts w0 → Below w0.heap.size w0 w1 → Rd w1 la t.lit.length t.lit → (la = none → t.lit.length = 0 ∧ lc = 0) → t.lit.length ≤ lc → lc ≤ 9223372036854775807 → Ok t (expand [] ts).length n → (expand [] ts).length < n →
    Calls Tryz.prog f (#[.agg #[.slice la t.lit.length lc, .int .i64 t.dist, .int .i64 t.len]] ++ caps) w1 fun e w2 => e = .returned (.tuple #[]) ∧ I (ts ++ [t]) w2 ∧ w1.heap.size ≤ w2.heap.size ∧ ∀ g, w0.heap.size ≤ g → g < w1.heap.size → w2.heap[g]? = w1.heap[g]?
set_option maxHeartbeats 1000000 in
set_option maxRecDepth 100000 in
theorem read_arg (f : Nat) (caps : Array Value) (a : Option Addr) (len cap : Nat) (n : Int) (w : World) (hn : n < 0 ∨ 65536 < n) :
    Calls Tryz.prog 41 #[.slice a len cap, .int .i64 n, .func (.func f) #[] caps] w fun e w' => e = .returned (.int .i64 3) ∧ w' = w := by
  by_cases h1 : n < 0
  · clear hn
    go_enter Tryz.func41, Tryz.ntmps41
    go_wp2
    go_ret
    exact ⟨rfl, rfl⟩
  · have h2 : 65536 < n := by omega
    clear hn
    go_enter Tryz.func41, Tryz.ntmps41
    go_wp2
    go_ret
    exact ⟨rfl, rfl⟩
set_option maxHeartbeats 4000000 in
set_option maxRecDepth 100000 in
theorem read_one (f : Nat) (x : Value) (a : Option Addr) (len cap : Nat) (bs : List (BitVec 8)) (n : Nat) (I : List Tok → World → Prop) (w : World) (hcap : len ≤ cap) (hm : cap ≤ 9223372036854775807) (hn2 : n ≤ 65536)
    (hf : ∀ args w, (callFunc f args).run Tryz.prog w = .ok (.enter f args) w) (ht : Taker f #[x] n I) (h0 : I [] w) (hrd : ∀ ts w, I ts w → Rd w a len bs) :
    Calls Tryz.prog 41 #[.slice a len cap, .int .i64 (n : Int), .func (.func f) #[] #[x]] w fun e w' => e = .returned (.int .i64 ((read bs 0 n).2 : Nat)) ∧ I (read bs 0 n).1 w' := by
  have HK := hide ht.keep
  have HS := hide ht.step
  have H0 := hide h0
  have HRD := hide hrd
  have HL := hide (hrd [] w h0).1
  have hlm := (hrd [] w h0).2.1
  have HN2 := hide hn2
  have hni : (n : Int) ≤ 65536 := by omega
  clear ht h0 hrd hn2
  go_enter Tryz.func41, Tryz.ntmps41
  go_wp2_with fail
  go_loopw [0, 7] (fun o y wr => ∃ (ts : List Tok) (h k : Nat) (a' : Option Addr), h ≤ n ∧ k ≤ len ∧ y = .int .i64 (h : Int) ∧ o = .slice a' (len - k) (cap - k) ∧ Hid (I ts wr) ∧ Hid ((expand [] ts).length = h) ∧ Hid (∀ W, Rd W a len bs → Rd W a' (len - k) (bs.drop k)) ∧ Hid (read bs 0 n = (ts ++ (read (bs.drop k) h n).1, (read (bs.drop k) h n).2))) (fun _ y _ => n - (intOf y).toNat)
  case atStart => exact ⟨[], 0, 0, a, Nat.zero_le _, Nat.zero_le _, rfl, rfl, H0, rfl, fun W h => h, rfl⟩
  case round =>
    obtain ⟨ts, h, k, a', hh, hk, rfl, rfl, HI, HX, HA, HE⟩ := hrel
    clear H0
    have HR := hide (HA.out wr (HRD.out ts wr HI.out))
    by_cases hlt : h < n
    · have hlti : (h : Int) < (n : Int) := by omega
      go_wp2_with fail
      refine (first_any a' (len - k) (cap - k) (bs.drop k) h n wr HR.out (by omega) (by omega) hlt HN2.out).mono ?_
      rintro e w1 ⟨v, s, rfl, hb1, hq⟩
      cases hfq : first (bs.drop k) h n with
      | none =>
        rw [hfq] at hq
        obtain ⟨rfl, la, ln, lc, d, l, rfl⟩ := hq
        have HE2 : Hid (read bs 0 n = (ts, 30)) := by
          show _ = _; rw [HE.out, read_fail _ _ _ hlt HN2.out hfq]; simp
        have HI1 : Hid (I ts (w1.alloc (.cells #[.slice la ln lc, .int .i64 d, .int .i64 l] 74))) := HK.out ts wr _ HI.out (below_trans hb1 ((Below.refl _ _).alloc (Nat.le_refl _) _))
        clear hfq hb1
        go_wp2_with fail
        go_ret
        rw [HE2.out]
        exact ⟨rfl, HI1.out⟩
      | some p =>
        obtain ⟨t, sz⟩ := p
        rw [hfq] at hq
        simp only at hq
        obtain ⟨rfl, hsz0, la, lc, rfl, hla, hlz, hlc1, hlc2⟩ := hq
        obtain ⟨hok, hszp, rest, hrest⟩ := first_some (bs.drop k) h n t sz HN2.out hfq
        have hadv := ok_adv t h n hok hlt
        have hszl : sz ≤ len - k := by
          have := congrArg List.length hrest
          rw [List.length_append, List.length_drop, HL.out] at this; omega
        have HE2 : Hid (read bs 0 n = (ts ++ [t] ++ (read (bs.drop (k + sz)) (h + t.lit.length + t.len.toNat) n).1, (read (bs.drop (k + sz)) (h + t.lit.length + t.len.toNat) n).2)) := by
          show _ = _
          rw [HE.out, read_next _ _ _ _ _ hlt HN2.out hfq, List.drop_drop]; simp
        have HX2 : Hid ((expand [] (ts ++ [t])).length = h + t.lit.length + t.len.toNat) := by
          show _ = _; rw [expand_snoc, length_grow, HX.out]
        have hlen0 : 0 ≤ t.len := by rcases hok with ⟨⟨_, hb⟩, _⟩ | ⟨_, hb, _⟩ <;> omega
        have hbW : Below wr.heap.size wr (w1.alloc (.cells #[.slice la t.lit.length lc, .int .i64 t.dist, .int .i64 t.len] 74)) := below_trans hb1 ((Below.refl _ _).alloc (Nat.le_refl _) _)
        have HST := hide (HS.out ts t la lc wr _ HI.out hbW (hla.below hbW) hlz hlc1 hlc2 (by rw [HX.out]; exact hok) (by rw [HX.out]; exact hlt))
        have HT1 := hide (TRow.new w1 (.slice la t.lit.length lc) t.dist t.len)
        obtain ⟨ab, ao, rfl, _, _⟩ := HR.out.2.2 (by omega)
        obtain ⟨lb, hsl, hlb, hls, _⟩ := slice_l ab ao (len - k) (cap - k) sz hszl (by omega)
        have HA2 : Hid (∀ W, Rd W a len bs → Rd W (some lb) (len - (k + sz)) (bs.drop (k + sz))) := by
          intro W hW
          have h1 := rd_rest (HA.out W hW) hszl hlb
          rw [List.drop_drop, Nat.sub_sub] at h1
          exact h1
        rw [Nat.sub_sub, Nat.sub_sub] at hsl
        have hs1 := hb1.size
        clear hfq hb1 hla hlz hlc1 hlc2 hok hszp hrest hlb hls hbW HE HX HA HR
        obtain ⟨lit, d, l0⟩ := t
        simp only at hlen0 hadv HE2 HX2 HST HT1 ⊢
        obtain ⟨l, rfl⟩ := Int.eq_ofNat_of_zero_le hlen0
        rw [Int.toNat_natCast] at hadv HE2 HX2
        have hszb : ((sz : Int) == 0) = false := by rw [beq_eq_false_iff_ne]; omega
        have hllen : (lit.length : Int) ≤ 65536 := by omega
        have hsum : (h : Int) + ((lit.length : Int) + (l : Int)) = ((h + lit.length + l : Nat) : Int) := by omega
        obtain ⟨hadv1, hadv2⟩ := hadv
        obtain ⟨h', hh'⟩ : ∃ h', h + lit.length + l = h' := ⟨_, rfl⟩
        rw [hh'] at hadv1 hadv2 HE2 HX2 hsum
        clear hlen0 hh'
        go_wp2_with fail
        refine HST.out.mono ?_
        rintro e w2 ⟨rfl, hI2, hsz2, hblk⟩
        have HI2 := hide hI2
        have HT2 : Hid (TRow w2 w1.heap.size (.slice la lit.length lc) d (l : Int)) := by
          show _ = _; rw [hblk w1.heap.size hs1 (by simp)]; exact HT1.out
        have k0 := HT2.out.c0
        have k2 := HT2.out.c2
        clear hI2 hsz2 hblk HST HT1 HI
        go_wp2_with fail
        go_roundw
        case rel => exact ⟨ts ++ [⟨lit, d, (l : Int)⟩], h', k + sz, some lb, hadv2, by omega, rfl, rfl, HI2, HX2, HA2, HE2⟩
        case measure => simp [intOf]; omega
    · have hlti : ¬ (h : Int) < (n : Int) := by omega
      have HE2 : Hid (read bs 0 n = (ts, if len - k = 0 then 0 else 30)) := by
        show _ = _
        rw [HE.out, read_end _ _ _ hlt]
        have : (bs.drop k = []) ↔ len - k = 0 := by rw [← List.length_eq_zero_iff, List.length_drop, HL.out]
        simp [this]
      by_cases hz : len - k = 0
      · rw [hz]
        rw [if_pos hz] at HE2
        clear HE
        go_wp2_with fail
        go_ret
        rw [HE2.out]
        exact ⟨rfl, HI.out⟩
      · rw [if_neg hz] at HE2
        have hzi : (0 : Int) < ((len - k : Nat) : Int) := by omega
        clear HE
        generalize len - k = r at hz hzi HR
        go_wp2_with fail
        go_ret
        rw [HE2.out]
        exact ⟨rfl, HI.out⟩
set_option maxHeartbeats 4000000 in
set_option maxRecDepth 100000 in
theorem read_two (f : Nat) (x x2 : Value) (a : Option Addr) (len cap : Nat) (bs : List (BitVec 8)) (n : Nat) (I : List Tok → World → Prop) (w : World) (hcap : len ≤ cap) (hm : cap ≤ 9223372036854775807) (hn2 : n ≤ 65536)
    (hf : ∀ args w, (callFunc f args).run Tryz.prog w = .ok (.enter f args) w) (ht : Taker f #[x, x2] n I) (h0 : I [] w) (hrd : ∀ ts w, I ts w → Rd w a len bs) :
    Calls Tryz.prog 41 #[.slice a len cap, .int .i64 (n : Int), .func (.func f) #[] #[x, x2]] w fun e w' => e = .returned (.int .i64 ((read bs 0 n).2 : Nat)) ∧ I (read bs 0 n).1 w' := by
  have HK := hide ht.keep
  have HS := hide ht.step
  have H0 := hide h0
  have HRD := hide hrd
  have HL := hide (hrd [] w h0).1
  have hlm := (hrd [] w h0).2.1
  have HN2 := hide hn2
  have hni : (n : Int) ≤ 65536 := by omega
  clear ht h0 hrd hn2
  go_enter Tryz.func41, Tryz.ntmps41
  go_wp2_with fail
  go_loopw [0, 7] (fun o y wr => ∃ (ts : List Tok) (h k : Nat) (a' : Option Addr), h ≤ n ∧ k ≤ len ∧ y = .int .i64 (h : Int) ∧ o = .slice a' (len - k) (cap - k) ∧ Hid (I ts wr) ∧ Hid ((expand [] ts).length = h) ∧ Hid (∀ W, Rd W a len bs → Rd W a' (len - k) (bs.drop k)) ∧ Hid (read bs 0 n = (ts ++ (read (bs.drop k) h n).1, (read (bs.drop k) h n).2))) (fun _ y _ => n - (intOf y).toNat)
  case atStart => exact ⟨[], 0, 0, a, Nat.zero_le _, Nat.zero_le _, rfl, rfl, H0, rfl, fun W h => h, rfl⟩
  case round =>
    obtain ⟨ts, h, k, a', hh, hk, rfl, rfl, HI, HX, HA, HE⟩ := hrel
    clear H0
    have HR := hide (HA.out wr (HRD.out ts wr HI.out))
    by_cases hlt : h < n
    · have hlti : (h : Int) < (n : Int) := by omega
      go_wp2_with fail
      refine (first_any a' (len - k) (cap - k) (bs.drop k) h n wr HR.out (by omega) (by omega) hlt HN2.out).mono ?_
      rintro e w1 ⟨v, s, rfl, hb1, hq⟩
      cases hfq : first (bs.drop k) h n with
      | none =>
        rw [hfq] at hq
        obtain ⟨rfl, la, ln, lc, d, l, rfl⟩ := hq
        have HE2 : Hid (read bs 0 n = (ts, 30)) := by
          show _ = _; rw [HE.out, read_fail _ _ _ hlt HN2.out hfq]; simp
        have HI1 : Hid (I ts (w1.alloc (.cells #[.slice la ln lc, .int .i64 d, .int .i64 l] 74))) := HK.out ts wr _ HI.out (below_trans hb1 ((Below.refl _ _).alloc (Nat.le_refl _) _))
        clear hfq hb1
        go_wp2_with fail
        go_ret
        rw [HE2.out]
        exact ⟨rfl, HI1.out⟩
      | some p =>
        obtain ⟨t, sz⟩ := p
        rw [hfq] at hq
        simp only at hq
        obtain ⟨rfl, hsz0, la, lc, rfl, hla, hlz, hlc1, hlc2⟩ := hq
        obtain ⟨hok, hszp, rest, hrest⟩ := first_some (bs.drop k) h n t sz HN2.out hfq
        have hadv := ok_adv t h n hok hlt
        have hszl : sz ≤ len - k := by
          have := congrArg List.length hrest
          rw [List.length_append, List.length_drop, HL.out] at this; omega
        have HE2 : Hid (read bs 0 n = (ts ++ [t] ++ (read (bs.drop (k + sz)) (h + t.lit.length + t.len.toNat) n).1, (read (bs.drop (k + sz)) (h + t.lit.length + t.len.toNat) n).2)) := by
          show _ = _
          rw [HE.out, read_next _ _ _ _ _ hlt HN2.out hfq, List.drop_drop]; simp
        have HX2 : Hid ((expand [] (ts ++ [t])).length = h + t.lit.length + t.len.toNat) := by
          show _ = _; rw [expand_snoc, length_grow, HX.out]
        have hlen0 : 0 ≤ t.len := by rcases hok with ⟨⟨_, hb⟩, _⟩ | ⟨_, hb, _⟩ <;> omega
        have hbW : Below wr.heap.size wr (w1.alloc (.cells #[.slice la t.lit.length lc, .int .i64 t.dist, .int .i64 t.len] 74)) := below_trans hb1 ((Below.refl _ _).alloc (Nat.le_refl _) _)
        have HST := hide (HS.out ts t la lc wr _ HI.out hbW (hla.below hbW) hlz hlc1 hlc2 (by rw [HX.out]; exact hok) (by rw [HX.out]; exact hlt))
        have HT1 := hide (TRow.new w1 (.slice la t.lit.length lc) t.dist t.len)
        obtain ⟨ab, ao, rfl, _, _⟩ := HR.out.2.2 (by omega)
        obtain ⟨lb, hsl, hlb, hls, _⟩ := slice_l ab ao (len - k) (cap - k) sz hszl (by omega)
        have HA2 : Hid (∀ W, Rd W a len bs → Rd W (some lb) (len - (k + sz)) (bs.drop (k + sz))) := by
          intro W hW
          have h1 := rd_rest (HA.out W hW) hszl hlb
          rw [List.drop_drop, Nat.sub_sub] at h1
          exact h1
        rw [Nat.sub_sub, Nat.sub_sub] at hsl
        have hs1 := hb1.size
        clear hfq hb1 hla hlz hlc1 hlc2 hok hszp hrest hlb hls hbW HE HX HA HR
        obtain ⟨lit, d, l0⟩ := t
        simp only at hlen0 hadv HE2 HX2 HST HT1 ⊢
        obtain ⟨l, rfl⟩ := Int.eq_ofNat_of_zero_le hlen0
        rw [Int.toNat_natCast] at hadv HE2 HX2
        have hszb : ((sz : Int) == 0) = false := by rw [beq_eq_false_iff_ne]; omega
        have hllen : (lit.length : Int) ≤ 65536 := by omega
        have hsum : (h : Int) + ((lit.length : Int) + (l : Int)) = ((h + lit.length + l : Nat) : Int) := by omega
        obtain ⟨hadv1, hadv2⟩ := hadv
        obtain ⟨h', hh'⟩ : ∃ h', h + lit.length + l = h' := ⟨_, rfl⟩
        rw [hh'] at hadv1 hadv2 HE2 HX2 hsum
        clear hlen0 hh'
        go_wp2_with fail
        refine HST.out.mono ?_
        rintro e w2 ⟨rfl, hI2, hsz2, hblk⟩
        have HI2 := hide hI2
        have HT2 : Hid (TRow w2 w1.heap.size (.slice la lit.length lc) d (l : Int)) := by
          show _ = _; rw [hblk w1.heap.size hs1 (by simp)]; exact HT1.out
        have k0 := HT2.out.c0
        have k2 := HT2.out.c2
        clear hI2 hsz2 hblk HST HT1 HI
        go_wp2_with fail
        go_roundw
        case rel => exact ⟨ts ++ [⟨lit, d, (l : Int)⟩], h', k + sz, some lb, hadv2, by omega, rfl, rfl, HI2, HX2, HA2, HE2⟩
        case measure => simp [intOf]; omega
    · have hlti : ¬ (h : Int) < (n : Int) := by omega
      have HE2 : Hid (read bs 0 n = (ts, if len - k = 0 then 0 else 30)) := by
        show _ = _
        rw [HE.out, read_end _ _ _ hlt]
        have : (bs.drop k = []) ↔ len - k = 0 := by rw [← List.length_eq_zero_iff, List.length_drop, HL.out]
        simp [this]
      by_cases hz : len - k = 0
      · rw [hz]
        rw [if_pos hz] at HE2
        clear HE
        go_wp2_with fail
        go_ret
        rw [HE2.out]
        exact ⟨rfl, HI.out⟩
      · rw [if_neg hz] at HE2
        have hzi : (0 : Int) < ((len - k : Nat) : Int) := by omega
        clear HE
        generalize len - k = r at hz hzi HR
        go_wp2_with fail
        go_ret
        rw [HE2.out]
        exact ⟨rfl, HI.out⟩
end Go.Proofs.YthdblnfohbldcaaGreat.Lz
