/-
  The program's cursor: what reading by a closure does to it.
-/
import Derived.Test.YthdblnfohbldcaaGreatNumsFixC
import Derived.Test.YthdblnfohbldcaaGreatBase2
import Derived.Conc.MuLone
namespace Go.Proofs.YthdblnfohbldcaaGreat.Curs
open Go.ChangeShapes Go.WideShapes Go.ChangeAt Go.RowKit
open Go.Proofs.YthdblnfohbldcaaGreat.Base Go.Proofs.YthdblnfohbldcaaGreat.Nums
set_option linter.unusedVariables false
/-- The cursor's three cells. -/
def Row (w : World) (g : Nat) (v : Value) (at' err : Int) : Prop := w.heap[g]? = some (.cells #[v, .int .i64 at', .int .i64 err] 179)
theorem Row.c0 {w : World} {g : Nat} {v : Value} {p e : Int} (h : Row w g v p e) : w.cell? ⟨g, 0, none⟩ = some v := by rw [cell_of_row _ _ _ _ _ _ h]; rfl
theorem Row.c1 {w : World} {g : Nat} {v : Value} {p e : Int} (h : Row w g v p e) : w.cell? ⟨g, 1, none⟩ = some (.int .i64 p) := by rw [cell_of_row _ _ _ _ _ _ h]; rfl
theorem Row.c2 {w : World} {g : Nat} {v : Value} {p e : Int} (h : Row w g v p e) : w.cell? ⟨g, 2, none⟩ = some (.int .i64 e) := by rw [cell_of_row _ _ _ _ _ _ h]; rfl
theorem Row.fr {w : World} {g : Nat} {v : Value} {p e : Int} (h : Row w g v p e) (k : Nat) : w.frozen? ⟨g, k, none⟩ = false := frozen_of_row _ _ _ _ _ h
theorem Row.lt {w : World} {g : Nat} {v : Value} {p e : Int} (h : Row w g v p e) : g < w.heap.size := block_lt_of_cell h.c0
theorem Row.put01 {w : World} {g : Nat} {v u : Value} {p e q : Int} (h : Row w g v p e) : Row ((w.setCell ⟨g, 0, none⟩ u).setCell ⟨g, 1, none⟩ (.int .i64 q)) g u q e :=
  heap_setCell_same _ _ _ _ _ _ (heap_setCell_same _ _ _ _ _ _ h)
theorem Row.put20 {w : World} {g : Nat} {v u : Value} {p e q : Int} (h : Row w g v p e) : Row ((w.setCell ⟨g, 2, none⟩ (.int .i64 q)).setCell ⟨g, 0, none⟩ u) g u p q :=
  heap_setCell_same _ _ _ _ _ _ (heap_setCell_same _ _ _ _ _ _ h)
theorem Row.grown {w w' : World} {g : Nat} {v : Value} {p e : Int} {r : Option Nat} (h : Row w g v p e) (hg : w.grownBy w' r) (hr : r ≠ some g) : Row w' g v p e := by
  unfold Row; rw [hg.block g h.lt (fun x => hr x.symm)]; exact h
theorem read_nil (f : Nat) (x y : Value) (w : World) : Calls Tryz.prog 129 #[.pointer none, .func (.func f) #[] #[x, y]] w fun e w' => e = .returned (.tuple #[]) ∧ w' = w := by
  go_enter Tryz.func129, Tryz.ntmps129
  go_wp2
  refine bodyPost_ret (results_none rfl _ _ _) rfl ?_
  exact ⟨rfl, rfl⟩
set_option maxRecDepth 100000 in
theorem read_dead (f g : Nat) (x y v : Value) (p er : Int) (w : World) (h : Row w g v p er) (he : er ≠ 0) : Calls Tryz.prog 129 #[.pointer (some ⟨g, 0, none⟩), .func (.func f) #[] #[x, y]] w fun e w' => e = .returned (.tuple #[]) ∧ w' = w := by
  have c2 := h.c2
  have hb : (er != 0) = true := by rw [bne_iff_ne]; exact he
  clear h he
  go_enter Tryz.func129, Tryz.ntmps129
  go_wp2
  refine bodyPost_ret (results_none rfl _ _ _) rfl ?_
  exact ⟨rfl, rfl⟩
set_option maxRecDepth 100000 in
theorem fail_any (g : Nat) (v : Value) (p er : Int) (w : World) (h : Row w g v p 0) (he : er ≠ 0) : Calls Tryz.prog 104 #[.pointer (some ⟨g, 0, none⟩), .int .i64 er] w fun e w' => e = .returned (.tuple #[]) ∧ Row w' g (.slice none 0 0) p er ∧ w.grownBy w' (some g) := by
  have c0 := h.c0
  have c2 := h.c2
  have f0 := h.fr 0
  have f2 := h.fr 2
  have H := hide h
  have hb : (er == 0) = false := by rw [beq_eq_false_iff_ne]; exact he
  clear h he
  go_enter Tryz.func104, Tryz.ntmps104
  go_wp2
  go_end0
  exact ⟨rfl, H.out.put20, grown_cell (grown_cell (World.grownBy.refl _ _) 2 _) 0 _⟩
set_option maxRecDepth 100000 in
theorem read_take (f g n c t : Nat) (a : Addr) (x y : Value) (p : Int) (w : World) (Φ : World → Prop) (hf : ∀ args w, (callFunc f args).run Tryz.prog w = .ok (.enter f args) w) (h : Row w g (.slice (some a) n c) p 0) (ht : t ≤ n) (hn : n ≤ c) (hc : c ≤ 9223372036854775807) (hp : 0 ≤ p ∧ p + n ≤ 9223372036854775807) (hs : a.spot = none)
    (hcall : Calls Tryz.prog f #[.slice (some a) n c, x, y] w fun e w1 => e = .returned (.tuple #[.int .i64 (t : Int), .int .i64 0]) ∧ Φ w1) (hrow : ∀ w1, Φ w1 → Row w1 g (.slice (some a) n c) p 0) :
    Calls Tryz.prog 129 #[.pointer (some ⟨g, 0, none⟩), .func (.func f) #[] #[x, y]] w fun e w' => e = .returned (.tuple #[]) ∧ ∃ w1 a', Φ w1 ∧ Row w' g (.slice (some a') (n - t) (c - t)) (p + t) 0 ∧ w1.grownBy w' (some g) ∧ a'.spot = none ∧ a'.block = a.block ∧ (t < n → a' = ⟨a.block, a.off + t, none⟩) := by
  have c0 := h.c0
  have c2 := h.c2
  have HC := hide hcall
  have HR := hide hrow
  clear h hcall hrow
  obtain ⟨b, off, sp⟩ := a
  simp only at hs
  subst hs
  go_enter Tryz.func129, Tryz.ntmps129
  go_wp2_with fail
  refine HC.out.mono ?_
  rintro e w1 ⟨rfl, hφ⟩
  have r1 := HR.out w1 hφ
  have d0 := r1.c0
  have d1 := r1.c1
  have f0 := r1.fr 0
  have f1 := r1.fr 1
  have HR1 := hide r1
  have HΦ := hide hφ
  have hti : (t : Int) ≤ (n : Int) := by omega
  have htc : (t : Int) ≤ (c : Int) := by omega
  clear r1 hφ
  by_cases hct : c = t
  · subst hct
    have hnt : n = c := by omega
    go_wp2_with fail
    go_end0
    refine ⟨rfl, w1, ⟨b, off, none⟩, HΦ.out, ?_, grown_cell (grown_cell (World.grownBy.refl _ _) 0 _) 1 _, rfl, rfl, fun h => by omega⟩
    rw [show n - c = 0 by omega, Nat.sub_self]
    exact HR1.out.put01 (u := .slice (some ⟨b, off, none⟩) 0 0) (q := p + (c : Int))
  · go_wp2_with fail
    go_end0
    exact ⟨rfl, w1, ⟨b, off + t, none⟩, HΦ.out, HR1.out.put01, grown_cell (grown_cell (World.grownBy.refl _ _) 0 _) 1 _, rfl, rfl, fun _ => rfl⟩
set_option maxRecDepth 100000 in
theorem read_fails (f g : Nat) (v : Value) (t er : Int) (x y : Value) (p : Int) (w : World) (Φ : World → Prop) (hf : ∀ args w, (callFunc f args).run Tryz.prog w = .ok (.enter f args) w) (h : Row w g v p 0) (he : er ≠ 0)
    (hcall : Calls Tryz.prog f #[v, x, y] w fun e w1 => e = .returned (.tuple #[.int .i64 t, .int .i64 er]) ∧ Φ w1) (hrow : ∀ w1, Φ w1 → Row w1 g v p 0) (a : Option Addr) (n c : Nat) (hv : v = .slice a n c) :
    Calls Tryz.prog 129 #[.pointer (some ⟨g, 0, none⟩), .func (.func f) #[] #[x, y]] w fun e w' => e = .returned (.tuple #[]) ∧ ∃ w1, Φ w1 ∧ Row w' g (.slice none 0 0) p er ∧ w1.grownBy w' (some g) := by
  subst hv
  have c0 := h.c0
  have c2 := h.c2
  have HC := hide hcall
  have HR := hide hrow
  have hb : (er != 0) = true := by rw [bne_iff_ne]; exact he
  have HE := hide he
  clear h hcall hrow he
  go_enter Tryz.func129, Tryz.ntmps129
  go_wp2_with fail
  refine HC.out.mono ?_
  rintro e w1 ⟨rfl, hφ⟩
  have HΦ := hide hφ
  have HR1 := hide (HR.out w1 hφ)
  clear hφ
  go_wp2_with fail
  refine (fail_any g _ p er w1 HR1.out HE.out).mono ?_
  rintro e w2 ⟨rfl, hr, hg⟩
  have HR2 := hide hr
  have HG2 := hide hg
  clear hr hg
  go_wp2_with fail
  refine bodyPost_ret (results_none rfl _ _ _) rfl ?_
  exact ⟨rfl, w1, HΦ.out, HR2.out, HG2.out⟩
/-- The number at the head, with a bound: the value, how many bytes, the error. -/
def atMost (L : List (BitVec 8)) (most : Int) : Nat × Nat × Nat := if (get L).2.2 ≠ 0 then (0, 0, (get L).2.2) else if most < ((get L).1 : Int) then (0, 0, 23) else get L
theorem get_err (L : List (BitVec 8)) : (get L).2.2 = 0 ∨ (get L).2.2 = 20 ∨ (get L).2.2 = 21 := by
  rcases get_cases L with ⟨u, m, g1, _⟩ | ⟨g1, _⟩ | ⟨g1, _⟩ <;> rw [g1] <;> simp
theorem get_fst (L : List (BitVec 8)) : (get L).1 ≤ 9223372036854775807 := by
  rcases get_cases L with ⟨u, m, g1, _, _, _, _, h⟩ | ⟨g1, _⟩ | ⟨g1, _⟩ <;> rw [g1]
  · show u ≤ _; omega
  · simp
  · simp
theorem get_len (L : List (BitVec 8)) : (get L).2.1 ≤ L.length := by
  rcases get_cases L with ⟨u, m, g1, _, _, h, _⟩ | ⟨g1, _⟩ | ⟨g1, _⟩ <;> rw [g1]
  · exact h
  · simp
  · simp
set_option maxRecDepth 100000 in
theorem atMost_any (a : Option Addr) (n c : Nat) (L : List (BitVec 8)) (most : Int) (w : World) (hr : Rd w a n L) (hn : n ≤ c) (hc : c ≤ 9223372036854775807) :
    Calls Tryz.prog 141 #[.slice a n c, .int .i64 most] w fun e w' => e = .returned (.tuple #[.int .i64 ((atMost L most).1 : Nat), .int .i64 ((atMost L most).2.1 : Nat), .int .i64 ((atMost L most).2.2 : Nat)]) ∧ Below w.heap.size w w' := by
  have R := hide hr
  have h1 := get_fst L
  clear hr
  have HD : Hid (atMost L most = if (get L).2.2 ≠ 0 then (0, 0, (get L).2.2) else if most < ((get L).1 : Int) then (0, 0, 23) else get L) := rfl
  go_enter Tryz.func141, Tryz.ntmps141
  go_wp2_with fail
  refine (get_any _ _ _ _ _ R.out hn hc).mono ?_
  rintro e w1 ⟨rfl, hb⟩
  have HB := hide hb
  clear hb
  generalize get L = G at HD h1
  obtain ⟨gv, gn, ge⟩ := G
  simp only at h1 HD ⊢
  by_cases he : ge = 0
  · subst he
    by_cases hm : most < (gv : Int)
    · have HE : Hid (atMost L most = (0, 0, 23)) := by
        have := HD.out; rw [if_neg (by simp), if_pos hm] at this; exact this
      go_wp2_with fail
      go_ret3
      exact ⟨ret3 HE.out rfl rfl rfl, HB.out⟩
    · have HE : Hid (atMost L most = (gv, gn, 0)) := by
        have := HD.out; rw [if_neg (by simp), if_neg hm] at this; exact this
      go_wp2_with fail
      go_ret3
      exact ⟨ret3 HE.out rfl rfl rfl, HB.out⟩
  · have HE : Hid (atMost L most = (0, 0, ge)) := by
      have := HD.out; rw [if_pos he] at this; exact this
    have hb : ((ge : Int) != 0) = true := by rw [bne_iff_ne]; omega
    go_wp2_with fail
    go_ret3
    exact ⟨ret3 HE.out rfl rfl rfl, HB.out⟩
/-- A box of one cell. -/
def Box (w : World) (g : Nat) (v : Value) (t : TypeId) : Prop := w.heap[g]? = some (.cells #[v] t)
theorem Box.c0 {w : World} {g : Nat} {v : Value} {t : TypeId} (h : Box w g v t) : w.cell? ⟨g, 0, none⟩ = some v := by rw [cell_of_row _ _ _ _ _ _ h]; rfl
theorem Box.fr {w : World} {g : Nat} {v : Value} {t : TypeId} (h : Box w g v t) : w.frozen? ⟨g, 0, none⟩ = false := frozen_of_row _ _ _ _ _ h
theorem Box.lt {w : World} {g : Nat} {v : Value} {t : TypeId} (h : Box w g v t) : g < w.heap.size := block_lt_of_cell h.c0
theorem Box.put {w : World} {g : Nat} {v u : Value} {t : TypeId} (h : Box w g v t) : Box (w.setCell ⟨g, 0, none⟩ u) g u t := heap_setCell_same _ _ _ _ _ _ h
theorem Box.below {w w' : World} {g : Nat} {v : Value} {t : TypeId} (h : Box w g v t) (hb : Below w.heap.size w w') : Box w' g v t := by
  unfold Box; rw [hb.block g h.lt]; exact h
set_option maxRecDepth 100000 in
theorem num1_any (a : Option Addr) (n c p3 p5 : Nat) (L : List (BitVec 8)) (most : Int) (w : World) (hr : Rd w a n L) (hn : n ≤ c) (hc : c ≤ 9223372036854775807) (h3 : Box w p3 (.int .i64 most) 2) (h5 : Box w p5 (.int .i64 0) 2) :
    Calls Tryz.prog 140 #[.slice a n c, .pointer (some ⟨p3, 0, none⟩), .pointer (some ⟨p5, 0, none⟩)] w fun e w' => e = .returned (.tuple #[.int .i64 ((atMost L most).2.1 : Nat), .int .i64 ((atMost L most).2.2 : Nat)]) ∧ Box w' p5 (.int .i64 ((atMost L most).1 : Nat)) 2 ∧ w.grownBy w' (some p5) := by
  have c3 := h3.c0
  have R := hide hr
  have H5 := hide h5
  clear hr h3 h5
  go_enter Tryz.func140, Tryz.ntmps140
  go_wp2_with fail
  refine (atMost_any _ _ _ _ _ _ R.out hn hc).mono ?_
  rintro e w1 ⟨rfl, hb⟩
  have H51 := hide (H5.out.below hb)
  have c5 := H51.out.c0
  have f5 := H51.out.fr
  have HB := hide hb
  clear hb
  generalize hG : atMost L most = G
  have HG := hide hG
  clear hG
  obtain ⟨gv, gn, ge⟩ := G
  simp only
  go_wp2_with fail
  go_ret2
  rw [HG.out]
  exact ⟨rfl, H51.out.put, grown_cell (grown_of_below HB.out) 0 _⟩
theorem enter_of {f : FuncId} {fn : Func} {c : Code} (hf : Tryz.prog.funcs[f]? = some fn) (hname : (fn.name == "runtime.NumGoroutine") = false) (hb : fn.body = some c) (args : Array Value) (w : World) : (callFunc f args).run Tryz.prog w = .ok (.enter f args) w := Go.MuLone.run_callFunc_enter hf hname hb args w
/-- The cursor in block g: what is left, its place; it has not failed. -/
def Cur (w : World) (g : Nat) (L : List (BitVec 8)) (p : Nat) : Prop :=
  ∃ a c, Row w g (.slice (some a) L.length c) (p : Int) 0 ∧ Rd w (some a) L.length L ∧ L.length ≤ c ∧ c ≤ 9223372036854775807 ∧ a.spot = none ∧ a.block ≠ g ∧ a.block < w.heap.size ∧ (p : Int) + (L.length : Int) ≤ 9223372036854775807
/-- It has failed. -/
def Dead (w : World) (g p er : Nat) : Prop := Row w g (.slice none 0 0) (p : Int) (er : Int) ∧ er ≠ 0
theorem rd_move {w : World} {a a' : Addr} {n t : Nat} {L : List (BitVec 8)} (h : Rd w (some a) n L) (hs : a.spot = none) (ht : t ≤ n) (hm : t < n → a' = ⟨a.block, a.off + t, none⟩) : Rd w (some a') (n - t) (L.drop t) := by
  by_cases hlt : t < n
  · rw [hm hlt]
    obtain ⟨b, off, sp⟩ := a
    simp only at hs
    subst hs
    exact h.from t ht
  · have e : L.drop t = [] := List.drop_eq_nil_of_le (by have := h.1; omega)
    rw [e, show n - t = 0 by omega]
    exact rd_zero _ _
theorem atMost_len (L : List (BitVec 8)) (most : Int) : (atMost L most).2.1 ≤ L.length := by
  unfold atMost
  split
  · simp
  · split
    · simp
    · exact get_len L
/-- What a reading that takes t bytes leaves: v in the box, the cursor moved on. -/
theorem moved {w W2 w1 w' : World} {g p5 p t c : Nat} {a a' : Addr} {L : List (BitVec 8)} (hb : Below w.heap.size w W2) (h1 : W2.grownBy w1 (some p5)) (h5 : w.heap.size ≤ p5) (h2 : w1.grownBy w' (some g)) (hrd : Rd w (some a) L.length L) (hs : a.spot = none) (hag : a.block ≠ g) (halt : a.block < w.heap.size)
    (ht : t ≤ L.length) (hlc : L.length ≤ c) (hc : c ≤ 9223372036854775807) (hp : (p : Int) + (L.length : Int) ≤ 9223372036854775807)
    (hrow : Row w' g (.slice (some a') (L.length - t) (c - t)) ((p : Int) + (t : Int)) 0) (hs' : a'.spot = none) (hb' : a'.block = a.block) (hm : t < L.length → a' = ⟨a.block, a.off + t, none⟩) : Cur w' g (L.drop t) (p + t) ∧ w.grownBy w' (some g) := by
  have g1 : w.grownBy w1 (some g) := grown_new (grown_of_below hb) h1 (fun i e => by cases e; exact h5)
  refine ⟨⟨a', c - t, ?_, ?_, by rw [List.length_drop]; omega, by omega, hs', by rw [hb']; exact hag, ?_, ?_⟩, grown_trans g1 h2⟩
  · rw [List.length_drop, Int.natCast_add]; exact hrow
  · have r1 : Rd w' (some a) L.length L := (hrd.below hb).grown h1 (fun ad e e2 => by cases e; have := Option.some.inj e2; omega) |>.grown h2 (fun ad e e2 => by cases e; exact hag (Option.some.inj e2).symm)
    rw [List.length_drop]
    exact rd_move r1 hs ht hm
  · rw [hb']; exact Nat.lt_of_lt_of_le halt (Nat.le_trans g1.size h2.size)
  · rw [List.length_drop]; omega
set_option maxHeartbeats 1000000 in
set_option maxRecDepth 100000 in
theorem num_any (g p : Nat) (L : List (BitVec 8)) (most : Int) (w : World) (h : Cur w g L p) :
    Calls Tryz.prog 102 #[.pointer (some ⟨g, 0, none⟩), .int .i64 most] w fun e w' => e = .returned (.int .i64 ((atMost L most).1 : Nat)) ∧ w.grownBy w' (some g) ∧
      (if (atMost L most).2.2 = 0 then Cur w' g (L.drop (atMost L most).2.1) (p + (atMost L most).2.1) else Dead w' g p (atMost L most).2.2) := by
  obtain ⟨a, c, hrow, hrd, hlc, hc, hs, hab, halt, hp⟩ := h
  have hglt := hrow.lt
  have HB : Hid (Below w.heap.size w ((w.alloc (.cells #[.int .i64 most] 2)).alloc (.cells #[.int .i64 0] 2))) := ((Below.refl _ _).alloc (Nat.le_refl _) _).alloc (by simp) _
  have H3 : Hid (Box ((w.alloc (.cells #[.int .i64 most] 2)).alloc (.cells #[.int .i64 0] 2)) w.heap.size (.int .i64 most) 2) := by
    have h : Box (w.alloc (.cells #[.int .i64 most] 2)) w.heap.size (.int .i64 most) 2 := heap_alloc_new _ _
    exact h.below ((Below.refl _ _).alloc (Nat.le_refl _) _)
  have H5 : Hid (Box ((w.alloc (.cells #[.int .i64 most] 2)).alloc (.cells #[.int .i64 0] 2)) (w.heap.size + 1) (.int .i64 0) 2) := by
    have h : Box ((w.alloc (.cells #[.int .i64 most] 2)).alloc (.cells #[.int .i64 0] 2)) (w.alloc (.cells #[.int .i64 most] 2)).heap.size (.int .i64 0) 2 := heap_alloc_new _ _
    rw [show (w.alloc (.cells #[.int .i64 most] 2)).heap.size = w.heap.size + 1 by simp] at h
    exact h
  have HRow := hide (hrow.grown (below_grown HB.out) (by simp))
  have HRd := hide hrd
  have HN := hide (num1_any (some a) L.length c w.heap.size (w.heap.size + 1) L most _ (hrd.below HB.out) hlc hc H3.out H5.out)
  have hal := atMost_len L most
  clear hrow hrd H3
  have HF := hide (fun args w => enter_of Tryz.func140 (by kernel_rfl) (c := _) rfl args w)
  generalize hG : atMost L most = G at HN hal
  have HG := hide hG
  clear hG
  obtain ⟨gv, gn, ge⟩ := G
  simp only at HN hal
  by_cases he : ge = 0
  · subst he
    go_enter Tryz.func102, Tryz.ntmps102
    go_wp2_with fail
    refine (read_take _ g L.length c gn a _ _ (p : Int) _ (fun w1 => Box w1 (w.heap.size + 1) (.int .i64 (gv : Int)) 2 ∧ ((w.alloc (.cells #[.int .i64 most] 2)).alloc (.cells #[.int .i64 0] 2)).grownBy w1 (some (w.heap.size + 1))) HF.out HRow.out hal hlc hc ⟨by omega, hp⟩ hs HN.out (fun w1 h => HRow.out.grown h.2 (fun e => by have := Option.some.inj e; omega))).mono ?_
    rintro e w' ⟨rfl, w1, a', ⟨hbox, hg1⟩, hrow', hg', hs', hb', hm'⟩
    have hmv := moved HB.out hg1 (by omega) hg' HRd.out hs hab halt hal hlc hc hp hrow' hs' hb' hm'
    have hbx : Box w' (w.heap.size + 1) (.int .i64 (gv : Int)) 2 := by
      unfold Box; rw [hg'.block _ hbox.lt (fun e => by have := Option.some.inj e; omega)]; exact hbox
    have c5 := hbx.c0
    have HMV := hide hmv
    clear hbox hg1 hrow' hg' hs' hb' hm' hmv hbx
    go_wp2_with fail
    go_ret
    exact ⟨rfl, HMV.out.2, by first | exact HMV.out.1 | (simp only [if_true]; exact HMV.out.1)⟩
  · go_enter Tryz.func102, Tryz.ntmps102
    go_wp2_with fail
    refine (read_fails _ g _ (gn : Int) (ge : Int) _ _ (p : Int) _ (fun w1 => Box w1 (w.heap.size + 1) (.int .i64 (gv : Int)) 2 ∧ ((w.alloc (.cells #[.int .i64 most] 2)).alloc (.cells #[.int .i64 0] 2)).grownBy w1 (some (w.heap.size + 1))) HF.out HRow.out (by omega) HN.out (fun w1 h => HRow.out.grown h.2 (fun e => by have := Option.some.inj e; omega)) _ _ _ rfl).mono ?_
    rintro e w' ⟨rfl, w1, ⟨hbox, hg1⟩, hrow', hg'⟩
    have hbx : Box w' (w.heap.size + 1) (.int .i64 (gv : Int)) 2 := by
      unfold Box; rw [hg'.block _ hbox.lt (fun e => by have := Option.some.inj e; omega)]; exact hbox
    have c5 := hbx.c0
    have HGR : Hid (w.grownBy w' (some g)) := grown_trans (grown_new (grown_of_below HB.out) hg1 (fun i e => by cases e; omega)) hg'
    have HRW := hide hrow'
    clear hbox hg1 hrow' hg' hbx
    go_wp2_with fail
    go_ret
    exact ⟨rfl, HGR.out, by first | exact ⟨HRW.out, he⟩ | (simp only [if_neg he]; exact ⟨HRW.out, he⟩)⟩
end Go.Proofs.YthdblnfohbldcaaGreat.Curs
