/-
  Copies of lists; the closures that change a task's state.
-/
import Derived.Test.YtgpfabblmoffiaaDoorLgF
import Derived.Test.YtgpfabblmoffiaaDoorLgQ
import Derived.Test.YtgpfabblmoffiaaDoorRowF4
import Derived.Lib.SliceRun
import Derived.Laws.AppendOwnNone
import Derived.BigFrame
namespace Go.Proofs.YtgpfabblmoffiaaDoor.Lg
open Go.ChangeShapes Go.WideShapes Go.ChangeAt Go.RowKit
open Go.Proofs.YtgpfabblmoffiaaDoor.Base Go.Proofs.YtgpfabblmoffiaaDoor.Rf
set_option linter.unusedVariables false
theorem joinG {ops : Array Oper} {rest : List Oper} {o : Oper} {a : Act} {Q : Exit → Act → World → Prop} (w : World) (hwt : Region.wanted o (yielded ops a.tmps) = true) (s x : Operand) {ts t z by_ : Nat} {zv : Value}
    (ho : o.op = .call { callee := .builtin .append, args := #[s, x], argTypes := #[ts, ts] }) (hts : Tryd.prog.underlying ts = some (.slice t)) (hin : (Tryd.prog.info? t).map (fun i => (i.zero, i.size, i.bytes)) = some (some zv, z, by_)) (hz : zv.cells.size = z) (hz0 : 0 < z) (hby : by_ ≤ 64)
    (base : Nat) (v : Value) (n : Nat) (f g : Nat → List Value) (hs : a.eval s = v) (hown : OwnF w base t z v n f) (xa : Option Addr) (m cap : Nat) (hx : a.eval x = .slice xa m cap) (hnil : xa = none → m = 0 ∧ cap = 0)
    (hr : RdF w xa z m g) (hg : ∀ k, (g k).length = z) (hg1 : ∀ k, k < m → ∀ u ∈ g k, u.oneCell' = true) (hl : n + m ≤ 2199023255552) (hbase : base ≤ w.heap.size)
    (h : ∀ v' w', OwnF w' base t z v' (n + m) (thenF f n g) → w.grownBy w' v.ownBlock → wpList Tryd.prog ops Q rest (a.put o.dst v') w') : wpList Tryd.prog ops Q (o :: rest) a w := by
  obtain ⟨i0, hi, hz0', hz1, hz2⟩ := info_parts hin
  by_cases hsp : ∀ ad, xa = some ad → ad.spot = none
  · exact joinF w hwt s x ho hts hin hz hz0 hby base v n f g hs hown xa m cap hx hnil hsp hr hg hg1 hl hbase h
  · have hm : m = 0 := by
      by_cases hm : 0 < m
      · exact absurd (fun ad e => by obtain ⟨b, off, e2, _⟩ := hr hm; rw [e] at e2; cases e2; rfl) hsp
      · omega
    subst hm
    cases xa with
    | none => exact absurd (fun ad e => nomatch e) hsp
    | some ad =>
      refine BigFrame.wpList_want hwt fun K hK => ?_
      refine wp_append_own w s x ts ho base t i0 zv z by_ hts hi hz0' hz1 hz2 hz hz0 v n (fcells f n) hs hown ad 0 cap (fcells g 0) hx (fcells_len hg 0) (fun j u hu => by simp [fcells] at hu) (fun u hu => by simp [fcells] at hu) (by unfold maxLen; omega) ?_ hbase ?_
      · have := Nat.mul_le_mul hl hby
        omega
      · intro v' w' h1 h2 _
        refine hK _ _ (h v' w' (ownf_of h1 rfl (fcells_then f g n 0)) h2)
theorem ownt_empty (w : World) (base : Nat) (hb : base ≤ w.heap.size) : OwnF (w.alloc (.cells #[] 43)) base 43 3 (.slice (some ⟨w.heap.size, 0, none⟩) 0 0) 0 (tf []) :=
  ⟨rfl, .inr ⟨w.heap.size, 0, #[], rfl, hb, heap_alloc_new _ _, Nat.le_refl _, by unfold maxLen; omega, rfl, rfl⟩⟩
theorem RdT.spot {w : World} {a : Option Addr} {n : Nat} {L : List TS} (h : RdT w a n L) (ad : Addr) (e : a = some ad) (hn : 0 < n) : ad.spot = none := by
  obtain ⟨b, off, e2, _⟩ := h.2.2 hn
  rw [e] at e2
  cases e2
  rfl
theorem cloneT_any (a : Option Addr) (n c : Nat) (L : List TS) (w : World) (hr : RdT w a n L) (hnil : a = none → n = 0 ∧ c = 0) (hl : n ≤ 1000000000) :
    Calls Tryd.prog 66 #[.slice a n c] w fun e w' => ∃ a' c', e = .returned (.slice a' n c') ∧ OwnT w' w.heap.size (.slice a' n c') L ∧ (a' = none → n = 0 ∧ c' = 0) ∧ (∀ ad, a' = some ad → ad.off = 0 ∧ ad.spot = none) ∧ Below w.heap.size w w' := by
  have heq : ∀ W, (binOp .eql 24 (.slice a n c) (.slice none 0 0)).run Tryd.prog W = .ok (.bool a.isNone) W := fun W => Lib.run_eql_slice_nil W _ _ a n c 0 0 Tryd.underlying24
  have hln := hr.1
  cases a with
  | none =>
    obtain ⟨rfl, rfl⟩ := hnil rfl
    have hb : L = [] := List.length_eq_zero_iff.1 hln
    subst hb
    clear hr
    go_enter Tryd.func66, Tryd.ntmps66
    go_wp2_with fail
    go_ret
    exact ⟨none, 0, rfl, ownt_none _ _, by simp, by simp, Below.refl _ _⟩
  | some ad =>
    have HR1 := hide (hr.below ((Below.refl w.heap.size w).alloc (Nat.le_refl _) (.cells #[] 43)))
    have HO1 := hide (ownt_empty w w.heap.size (Nat.le_refl _))
    have HLN := hide hln
    clear hr hnil hln
    go_enter Tryd.func66, Tryd.ntmps66
    go_wp2_with (at_builtin; refine joinG _ rfl _ _ rfl Tryd.underlying24 infoT rfl (by omega) (by omega) w.heap.size (.slice (some ⟨w.heap.size, 0, none⟩) 0 0) 0 (tf []) (tf L) rfl HO1.out (some ad) n c rfl (fun e => nomatch e) HR1.out.2.2 (tf_len L) (fun k _ => tf_one L k) (by omega) (by simp) ?_
                 intro v3 w3 ho3 hg3
                 have HO3 : Hid (OwnF w3 w.heap.size 43 3 v3 n (tf L)) := hide (by have h := ho3; rw [Nat.zero_add] at h; exact h.congr (fun k _ => by unfold thenF; rw [if_neg (by omega), Nat.sub_zero]))
                 have HB3 : Hid (Below w.heap.size w w3) := ((Below.refl w.heap.size w).alloc (Nat.le_refl _) _).grown hg3 (by simp) (fun i e => by cases e; exact Nat.le_refl _)
                 clear ho3 hg3)
    go_ret
    obtain ⟨a', c', e, -, h3, h4⟩ := OwnF.shape HO3.out
    subst e
    refine ⟨a', c', rfl, ?_, (fun e => ⟨(h3 e).1, (h3 e).2⟩), (fun ad e => ⟨(h4 ad e).1, (h4 ad e).2.1⟩), HB3.out⟩
    unfold OwnT
    rw [HLN.out]
    exact HO3.out
theorem enterC {K : Nat} {fn : Func} (hf : Tryd.prog.funcs[K]? = some fn) (hn : (fn.name == "runtime.NumGoroutine") = false) (hb : fn.body.isNone = false) (args : Array Value) (W : World) : (callFunc K args).run Tryd.prog W = .ok (.enter K args) W := by
  have hn' : ¬ fn.name = "runtime.NumGoroutine" := by simpa using hn
  have hb' : ¬ fn.body = none := by intro e; rw [e] at hb; cases hb
  simp [callFunc, hf, hn', hb', go_sem]
/-- What a closure does: of the state x it makes y, and of the captured blocks SC it leaves Post. -/
def Acts (fn : Nat) (caps : Array Value) (SC : Nat → Prop) (Pre Post : World → Prop) (x y : TS) : Prop :=
  ∀ (W : World) (g N C k B0 : Nat) (F : Nat → TS), Pre W → TF W B0 g N C F → k < N → F k = x → ¬ SC g → Calls Tryd.prog fn (#[.pointer (some ⟨g, k * 3, none⟩)] ++ caps) W fun e w' => e = .returned (.tuple #[]) ∧ TF w' B0 g N C (setT F k y) ∧ Kp (fun i => i = g ∨ SC i) W w' ∧ Post w'
theorem setT_same (F : Nat → TS) (k : Nat) (x : TS) (h : F k = x) : setT F k x = F := by
  funext j
  unfold setT
  by_cases e : j = k
  · rw [if_pos e, e, h]
  · rw [if_neg e]
theorem acts_done (x : TS) : Acts 68 #[] (fun _ => False) (fun _ => True) (fun _ => True) x x := by
  intro W g N C k B0 F _ hT hk hx _
  have HT := hide hT
  have HX := hide (setT_same F k x hx)
  clear hT hx
  show Calls Tryd.prog 68 #[.pointer (some ⟨g, k * 3, none⟩)] W _
  go_enter Tryd.func68, Tryd.ntmps68
  go_wp2_with fail
  go_end0
  exact ⟨rfl, by rw [HX.out]; exact HT.out, Kp.refl _ _⟩
theorem acts_wait (x : TS) : Acts 59 #[] (fun _ => False) (fun _ => True) (fun _ => True) x x := by
  intro W g N C k B0 F _ hT hk hx _
  have HT := hide hT
  have HX := hide (setT_same F k x hx)
  clear hT hx
  show Calls Tryd.prog 59 #[.pointer (some ⟨g, k * 3, none⟩)] W _
  go_enter Tryd.func59, Tryd.ntmps59
  go_wp2_with fail
  go_end0
  exact ⟨rfl, by rw [HX.out]; exact HT.out, Kp.refl _ _⟩
theorem TF.setC {w : World} {base g N C : Nat} {F : Nat → TS} (h : TF w base g N C F) (k : Nat) (hk : k < N) (c : Int) : TF (w.setCell ⟨g, k * 3 + 2, none⟩ (.int .i64 c)) base g N C (setT F k ⟨(F k).s, (F k).a, c⟩) := by
  obtain ⟨h1, -⟩ := OwnF.store h (tv_len F) k 2 (.int .i64 c) hk (by omega)
  refine OwnF.congr h1 (fun i hi => ?_)
  unfold setF setT
  by_cases e : i = k
  · rw [if_pos e, if_pos e]; rfl
  · rw [if_neg e, if_neg e]
theorem TF.setA {w : World} {base g N C : Nat} {F : Nat → TS} (h : TF w base g N C F) (k : Nat) (hk : k < N) (c : Int) : TF (w.setCell ⟨g, k * 3 + 1, none⟩ (.int .i64 c)) base g N C (setT F k ⟨(F k).s, c, (F k).c⟩) := by
  obtain ⟨h1, -⟩ := OwnF.store h (tv_len F) k 1 (.int .i64 c) hk (by omega)
  refine OwnF.congr h1 (fun i hi => ?_)
  unfold setF setT
  by_cases e : i = k
  · rw [if_pos e, if_pos e]; rfl
  · rw [if_neg e, if_neg e]
theorem TF.setS {w : World} {base g N C : Nat} {F : Nat → TS} (h : TF w base g N C F) (k : Nat) (hk : k < N) (c : Int) : TF (w.setCell ⟨g, k * 3, none⟩ (.int .i64 c)) base g N C (setT F k ⟨c, (F k).a, (F k).c⟩) := by
  obtain ⟨h1, -⟩ := OwnF.store h (tv_len F) k 0 (.int .i64 c) hk (by omega)
  rw [Nat.add_zero] at h1
  refine OwnF.congr h1 (fun i hi => ?_)
  unfold setF setT
  by_cases e : i = k
  · rw [if_pos e, if_pos e]; rfl
  · rw [if_neg e, if_neg e]
theorem kp_cell (w : World) (g i : Nat) (v : Value) : Kp (fun j => j = g) w (w.setCell ⟨g, i, none⟩ v) := (Kp.of_grown (grown_set w g i v)).mono (fun j e _ => (Option.some.inj e).symm)
theorem acts_die (x : TS) (hx : x.c ≤ 1000) (hx0 : 0 ≤ x.c) : Acts 67 #[] (fun _ => False) (fun _ => True) (fun _ => True) x ⟨x.s, x.a, x.c + 1⟩ := by
  intro W g N C k B0 F _ hT hk hF _
  have HT := hide hT
  have HF := hide hF
  have e2 := (hT.at k hk).2.2
  have f2 := hT.fz (k * 3 + 2)
  rw [hF] at e2
  clear hT hF
  obtain ⟨s, a, c⟩ := x
  simp only at hx hx0 e2
  show Calls Tryd.prog 67 #[.pointer (some ⟨g, k * 3, none⟩)] W _
  go_enter Tryd.func67, Tryd.ntmps67
  go_wp2_with fail
  go_end0
  have h := HT.out.setC k hk (c + 1)
  rw [HF.out] at h
  exact ⟨rfl, h, (kp_cell W g (k * 3 + 2) _).mono (fun i e _ => by first | exact e | exact .inl e)⟩
theorem acts_redo (x : TS) (hx : x.c ≤ 1000) (hx0 : 0 ≤ x.c) : Acts 60 #[] (fun _ => False) (fun _ => True) (fun _ => True) x ⟨x.s, x.a, x.c + 1⟩ := by
  intro W g N C k B0 F _ hT hk hF _
  have HT := hide hT
  have HF := hide hF
  have e2 := (hT.at k hk).2.2
  have f2 := hT.fz (k * 3 + 2)
  rw [hF] at e2
  clear hT hF
  obtain ⟨s, a, c⟩ := x
  simp only at hx hx0 e2
  show Calls Tryd.prog 60 #[.pointer (some ⟨g, k * 3, none⟩)] W _
  go_enter Tryd.func60, Tryd.ntmps60
  go_wp2_with fail
  go_end0
  have h := HT.out.setC k hk (c + 1)
  rw [HF.out] at h
  exact ⟨rfl, h, (kp_cell W g (k * 3 + 2) _).mono (fun i e _ => by first | exact e | exact .inl e)⟩
/-- The two variables that the closure of Begin has captured. -/
def CapB (p q : Nat) (n : Bool) (a : Int) (W : World) : Prop := W.heap[p]? = some (.cells #[.bool n] 4) ∧ W.heap[q]? = some (.cells #[.int .i64 a] 3)
set_option maxHeartbeats 1000000 in
theorem acts_begin (x : TS) (p q : Nat) (hpq : p ≠ q) (hx : x.a ≤ 1000) (hx0 : 0 ≤ x.a) : Acts 40 #[.pointer (some ⟨p, 0, none⟩), .pointer (some ⟨q, 0, none⟩)] (fun i => i = p ∨ i = q) (CapB p q false 0) (CapB p q (x.s == 0) (x.a + (if x.s = 0 then 1 else 0))) x ⟨x.s, x.a + (if x.s = 0 then 1 else 0), x.c⟩ := by
  intro W g N C k B0 F hp hT hk hF hg
  have hgp : g ≠ p := fun e => hg (.inl e)
  have hgq : g ≠ q := fun e => hg (.inr e)
  have HT := hide hT
  have HF := hide hF
  have HP := hide hp
  have e0 := (hT.at k hk).1
  have e1 := (hT.at k hk).2.1
  have f1 := hT.fz (k * 3 + 1)
  rw [hF] at e0 e1
  have c1 : W.cell? ⟨p, 0, none⟩ = some (.bool false) := by rw [cell_of_row _ _ _ _ _ _ hp.1]; rfl
  have c2 : W.cell? ⟨q, 0, none⟩ = some (.int .i64 0) := by rw [cell_of_row _ _ _ _ _ _ hp.2]; rfl
  have z1 : W.frozen? ⟨p, 0, none⟩ = false := frozen_of_row _ _ _ _ _ hp.1
  have z2 : W.frozen? ⟨q, 0, none⟩ = false := frozen_of_row _ _ _ _ _ hp.2
  clear hT hF hp hg
  obtain ⟨s, a, c⟩ := x
  simp only at hx hx0 e0 e1 ⊢
  show Calls Tryd.prog 40 #[.pointer (some ⟨g, k * 3, none⟩), .pointer (some ⟨p, 0, none⟩), .pointer (some ⟨q, 0, none⟩)] W _
  go_enter Tryd.func40, Tryd.ntmps40
  by_cases h0 : s = 0
  · subst h0
    obtain ⟨w1, hw1⟩ : ∃ w1, W.setCell ⟨g, k * 3 + 1, none⟩ (.int .i64 (a + 1)) = w1 := ⟨_, rfl⟩
    have hk1 : Kp (fun j => j = g) W w1 := by rw [← hw1]; exact kp_cell W g (k * 3 + 1) _
    have HT1 : Hid (TF w1 B0 g N C (setT F k ⟨0, a + 1, c⟩)) := by
      rw [← hw1]
      have h := HT.out.setA k hk (a + 1)
      rw [HF.out] at h
      exact h
    have p1 : w1.heap[p]? = some (.cells #[.bool false] 4) := (hk1.block p (Array.getElem?_eq_some_iff.1 HP.out.1).1 (fun e => hgp e.symm)).trans HP.out.1
    have p2 : w1.heap[q]? = some (.cells #[.int .i64 0] 3) := (hk1.block q (Array.getElem?_eq_some_iff.1 HP.out.2).1 (fun e => hgq e.symm)).trans HP.out.2
    obtain ⟨w2, hw2⟩ : ∃ w2, w1.setCell ⟨p, 0, none⟩ (.bool true) = w2 := ⟨_, rfl⟩
    have hk2 : Kp (fun j => j = p) w1 w2 := by rw [← hw2]; exact kp_cell w1 p 0 _
    have q1 : w2.heap[p]? = some (.cells #[.bool true] 4) := by rw [← hw2, heap_setCell_same _ _ 0 _ _ _ p1]; rfl
    have q2 : w2.heap[q]? = some (.cells #[.int .i64 0] 3) := (hk2.block q (Array.getElem?_eq_some_iff.1 p2).1 (fun e => hpq e.symm)).trans p2
    have HT2 := hide (HT1.out.kp hk2 hgp)
    obtain ⟨w3, hw3⟩ : ∃ w3, w2.setCell ⟨q, 0, none⟩ (.int .i64 (a + 1)) = w3 := ⟨_, rfl⟩
    have hk3 : Kp (fun j => j = q) w2 w3 := by rw [← hw3]; exact kp_cell w2 q 0 _
    have HT3 := hide (HT2.out.kp hk3 hgq)
    have HQ : Hid (CapB p q true (a + 1) w3) := ⟨(hk3.block p (Array.getElem?_eq_some_iff.1 q1).1 hpq).trans q1, by rw [← hw3, heap_setCell_same _ _ 0 _ _ _ q2]; rfl⟩
    have HK : Hid (Kp (fun i => i = g ∨ i = p ∨ i = q) W w3) := ((hk1.mono (fun i e _ => .inl e)).trans hk2 (fun i e _ => .inr (.inl e))).trans hk3 (fun i e _ => .inr (.inr e))
    have d1 : w1.cell? ⟨p, 0, none⟩ = some (.bool false) := by rw [cell_of_row _ _ _ _ _ _ p1]; rfl
    have d2 : w1.frozen? ⟨p, 0, none⟩ = false := frozen_of_row _ _ _ _ _ p1
    have d3 : w2.cell? ⟨q, 0, none⟩ = some (.int .i64 0) := by rw [cell_of_row _ _ _ _ _ _ q2]; rfl
    have d4 : w2.frozen? ⟨q, 0, none⟩ = false := frozen_of_row _ _ _ _ _ q2
    have d5 : w2.cell? ⟨g, k * 3 + 1, none⟩ = some (.int .i64 (a + 1)) := by
      have h := (HT2.out.at k hk).2.1
      rw [show (setT F k ⟨0, a + 1, c⟩ k).a = a + 1 by unfold setT; rw [if_pos rfl]] at h
      exact h
    clear p1 p2 q1 q2 hk1 hk2 hk3 hgp hgq hpq
    go_wp2_with fail
    go_end0
    exact ⟨rfl, HT3.out, HK.out, HQ.out⟩
  · have h0b : (s == 0) = false := by simpa using h0
    rw [h0b, if_neg h0, Int.add_zero]
    obtain ⟨w3, hw3⟩ : ∃ w3, W.setCell ⟨q, 0, none⟩ (.int .i64 a) = w3 := ⟨_, rfl⟩
    have hk3 : Kp (fun j => j = q) W w3 := by rw [← hw3]; exact kp_cell W q 0 _
    have HT3 : Hid (TF w3 B0 g N C (setT F k ⟨s, a, c⟩)) := by
      rw [setT_same F k _ HF.out]
      exact HT.out.kp hk3 hgq
    have HQ : Hid (CapB p q false a w3) := ⟨(hk3.block p (Array.getElem?_eq_some_iff.1 HP.out.1).1 hpq).trans HP.out.1, by rw [← hw3, heap_setCell_same _ _ 0 _ _ _ HP.out.2]; rfl⟩
    have HK : Hid (Kp (fun i => i = g ∨ i = p ∨ i = q) W w3) := hk3.mono (fun i e _ => .inr (.inr e))
    clear hk3 hgp hgq hpq h0
    go_wp2_with fail
    go_end0
    exact ⟨rfl, HT3.out, HK.out, HQ.out⟩
end Go.Proofs.YtgpfabblmoffiaaDoor.Lg
