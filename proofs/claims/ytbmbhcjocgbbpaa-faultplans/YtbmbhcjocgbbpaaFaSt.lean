/-
  Two plans of the program, one of the document, and lists that were told: all apart.
-/
import Derived.Test.YtbmbhcjocgbbpaaFaPP
import Derived.Test.YtbmbhcjocgbbpaaFaWhole
import Derived.Test.YtbmbhcjocgbbpaaFaAsk
namespace Go.Proofs.Ytbmbhcjocgbbpaa.Fa
open Go.ChangeShapes Go.WideShapes Go.ChangeAt Go.RowKit
open Go.Proofs.Ytbmbhcjocgbbpaa.Base
set_option linter.unusedVariables false
/-- What type a block has. -/
def Ty (w : World) (o : Option Nat) (t : TypeId) : Prop := ∀ i, o = some i → ∃ cur : Array Value, w.heap[i]? = some (.cells cur t)
theorem ty_ne {w : World} {o o' : Option Nat} {t t' : TypeId} (h : Ty w o t) (h' : Ty w o' t') (hn : t ≠ t') : ∀ i, o = some i → o' ≠ some i := by
  intro i e e'
  obtain ⟨c, hc⟩ := h i e
  obtain ⟨c', hc'⟩ := h' i e'
  rw [hc] at hc'
  simp only [Option.some.injEq, Obj.cells.injEq] at hc'
  exact hn hc'.2.1
theorem own_ty {w : World} {base s n : Nat} {t : TypeId} {v : Value} {xs : List Value} (h : w.ownsRow base t s v n xs) : Ty w v.ownBlock t := by
  intro i e
  rcases h.2 with ⟨h1, _⟩ | ⟨g, cap, cur, h1, _, h3, _⟩
  · subst h1; cases e
  · subst h1; cases e; exact ⟨cur, h3⟩
theorem OwnL.ty {w : World} {base : Nat} {v : Value} {fs : List Flt} (h : OwnL w base v fs) : Ty w v.ownBlock 25 := own_ty h
theorem OwnT.ty {w : World} {base : Nat} {v : Value} {ds : List Td} (h : OwnT w base v ds) : Ty w v.ownBlock 58 := own_ty h
theorem KB.ty {w : World} {p : Nat} {k : Ak} (h : KB w p k) : Ty w (some p) 46 := fun i e => by cases e; exact ⟨_, h⟩
theorem PP.ty {w : World} {base : Nat} {pv lv : Value} {fs : List Flt} (h : PP w base pv lv fs) : Ty w (pb pv) 69 := by
  rcases h with ⟨rfl, _⟩ | ⟨p, rfl, _, h3, _⟩
  · intro i e; cases e
  · intro i e; cases e; exact ⟨_, h3⟩
theorem RP.ty {w : World} {base : Nat} {pv lv : Value} {fs : List Flt} (h : RP w base pv lv fs) : Ty w (pb pv) 77 := by
  rcases h with ⟨rfl, _⟩ | ⟨p, rfl, _, h3, _⟩
  · intro i e; cases e
  · intro i e; cases e; exact ⟨_, h3⟩
theorem PP.lty {w : World} {base : Nat} {pv lv : Value} {fs : List Flt} (h : PP w base pv lv fs) : Ty w lv.ownBlock 25 := by
  rcases h with ⟨_, _, rfl⟩ | ⟨p, rfl, _, _, h4⟩
  · intro i e; cases e
  · exact h4.ty
theorem RP.lty {w : World} {base : Nat} {pv lv : Value} {fs : List Flt} (h : RP w base pv lv fs) : Ty w lv.ownBlock 25 := by
  rcases h with ⟨_, _, rfl⟩ | ⟨p, rfl, _, _, h4⟩
  · intro i e; cases e
  · exact h4.ty
theorem ap_birth {v u : Value} {s : Nat} (h : ∀ i, v.ownBlock = some i → i < s) (k : ∀ i, u.ownBlock = some i → s ≤ i) : Ap2 v u := fun i e e' => by
  have := h i e
  have := k i e'
  omega
/-- What stands, all apart. -/
structure St (w : World) (base : Nat) (pv qv tv lv lq lt ts : Value) (c1 c2 f0 : List Flt) (ds : List Td) : Prop where
  p : PP w base pv lv c1
  q : RP w base qv lq c2
  t : PP w base tv lt f0
  o : OwnT w base ts ds
  d : Tds w base ds
  a1 : ∀ j, j < ds.length → Ap2 (ds.getD j td0).v lv ∧ Ap2 (ds.getD j td0).v lq ∧ Ap2 (ds.getD j td0).v lt
  a3 : ∀ i, pb pv = some i → pb tv ≠ some i
theorem St.below {w w' : World} {base : Nat} {pv qv tv lv lq lt ts : Value} {c1 c2 f0 : List Flt} {ds : List Td} (h : St w base pv qv tv lv lq lt ts c1 c2 f0 ds) (hb : Below w.heap.size w w') : St w' base pv qv tv lv lq lt ts c1 c2 f0 ds :=
  ⟨h.p.below hb, h.q.below hb, h.t.below hb, h.o.below hb, h.d.below hb, h.a1, h.a3⟩
theorem ne_types : (25 : TypeId) ≠ 69 ∧ (25 : TypeId) ≠ 77 ∧ (69 : TypeId) ≠ 77 ∧ (25 : TypeId) ≠ 58 ∧ (69 : TypeId) ≠ 58 ∧ (77 : TypeId) ≠ 58 ∧ (46 : TypeId) ≠ 69 ∧ (46 : TypeId) ≠ 77 ∧ (46 : TypeId) ≠ 25 ∧ (46 : TypeId) ≠ 58 := by decide
/-- The program's plan has been asked. -/
theorem St.setP {w w' : World} {base : Nat} {pv qv tv lv lq lt ts lv' : Value} {c1 c2 f0 c' : List Flt} {ds : List Td} (h : St w base pv qv tv lv lq lt ts c1 c2 f0 ds) (hg : w.grownBy w' (pb pv)) (hp : PP w' base pv lv' c') (hl : ∀ i, lv'.ownBlock = some i → w.heap.size ≤ i) : St w' base pv qv tv lv' lq lt ts c' c2 f0 ds := by
  have n := ne_types
  refine ⟨hp, h.q.grown hg (fun i e => ty_ne h.p.ty h.q.ty n.2.2.1 i e) (fun i e => ty_ne h.p.ty h.q.lty (Ne.symm n.1) i e), h.t.grown hg (fun i e => h.a3 i e) (fun i e => ty_ne h.p.ty h.t.lty (Ne.symm n.1) i e), h.o.kept hg (fun i e => ty_ne h.o.ty h.p.ty (Ne.symm n.2.2.2.2.1) i e), h.d.kept hg (fun j hj i e => ty_ne (h.d.own j hj).ty h.p.ty n.1 i e), fun j hj => ⟨ap_birth (fun i e => ((h.d.own j hj).blk i e).2) hl, (h.a1 j hj).2⟩, h.a3⟩
/-- The document's plan has been asked. -/
theorem St.setQ {w w' : World} {base : Nat} {pv qv tv lv lq lt ts lq' : Value} {c1 c2 f0 c' : List Flt} {ds : List Td} (h : St w base pv qv tv lv lq lt ts c1 c2 f0 ds) (hg : w.grownBy w' (pb qv)) (hp : RP w' base qv lq' c') (hl : ∀ i, lq'.ownBlock = some i → w.heap.size ≤ i) : St w' base pv qv tv lv lq' lt ts c1 c' f0 ds := by
  have n := ne_types
  refine ⟨h.p.grown hg (fun i e => ty_ne h.q.ty h.p.ty (Ne.symm n.2.2.1) i e) (fun i e => ty_ne h.q.ty h.p.lty (Ne.symm n.2.1) i e), hp, h.t.grown hg (fun i e => ty_ne h.q.ty h.t.ty (Ne.symm n.2.2.1) i e) (fun i e => ty_ne h.q.ty h.t.lty (Ne.symm n.2.1) i e), h.o.kept hg (fun i e => ty_ne h.o.ty h.q.ty (Ne.symm n.2.2.2.2.2.1) i e), h.d.kept hg (fun j hj i e => ty_ne (h.d.own j hj).ty h.q.ty n.2.1 i e), fun j hj => ⟨(h.a1 j hj).1, ap_birth (fun i e => ((h.d.own j hj).blk i e).2) hl, (h.a1 j hj).2.2⟩, h.a3⟩
/-- A list apart from all has turned. -/
theorem St.own1 {w w' : World} {base b : Nat} {pv qv tv lv lq lt ts v : Value} {c1 c2 f0 gs : List Flt} {ds : List Td} (h : St w base pv qv tv lv lq lt ts c1 c2 f0 ds) (ho : OwnL w b v gs) (hg : w.grownBy w' v.ownBlock) (k1 : Ap2 v lv) (k2 : Ap2 v lq) (k3 : Ap2 v lt) (k4 : ∀ j, j < ds.length → Ap2 v (ds.getD j td0).v) : St w' base pv qv tv lv lq lt ts c1 c2 f0 ds := by
  have n := ne_types
  exact ⟨h.p.grown hg (fun i e => ty_ne ho.ty h.p.ty n.1 i e) k1, h.q.grown hg (fun i e => ty_ne ho.ty h.q.ty n.2.1 i e) k2, h.t.grown hg (fun i e => ty_ne ho.ty h.t.ty n.1 i e) k3, h.o.kept hg (fun i e => ty_ne h.o.ty ho.ty (Ne.symm n.2.2.2.1) i e), h.d.kept hg (fun j hj i e e' => k4 j hj i e' e), h.a1, h.a3⟩
theorem getD_snoc (ds : List Td) (d : Td) (j : Nat) (hj : j < ds.length) : (ds ++ [d]).getD j td0 = ds.getD j td0 := by
  rw [List.getD_eq_getElem?_getD, List.getD_eq_getElem?_getD, List.getElem?_append_left hj]
theorem getD_last (ds : List Td) (d : Td) : (ds ++ [d]).getD ds.length td0 = d := by
  rw [List.getD_eq_getElem?_getD, List.getElem?_append_right (Nat.le_refl _), Nat.sub_self]; rfl
/-- One more has been told. -/
theorem St.push {w w' : World} {base : Nat} {pv qv tv lv lq lt ts ts' : Value} {c1 c2 f0 : List Flt} {ds : List Td} {d : Td} (h : St w base pv qv tv lv lq lt ts c1 c2 f0 ds) (hg : w.grownBy w' ts.ownBlock) (ho : OwnT w' base ts' (ds ++ [d])) (hd : OwnL w base d.v (List.replicate d.n (ovF d.m))) (hn : d.n ≤ 2199023255488)
    (k1 : Ap2 d.v lv) (k2 : Ap2 d.v lq) (k3 : Ap2 d.v lt) (k4 : ∀ j, j < ds.length → Ap2 d.v (ds.getD j td0).v) : St w' base pv qv tv lv lq lt ts' c1 c2 f0 (ds ++ [d]) := by
  have n := ne_types
  have hdk : OwnL w' base d.v (List.replicate d.n (ovF d.m)) := hd.kept hg (fun i e => ty_ne hd.ty h.o.ty n.2.2.2.1 i e)
  have htk := h.d.kept hg (fun j hj i e => ty_ne (h.d.own j hj).ty h.o.ty n.2.2.2.1 i e)
  have hlen : (ds ++ [d]).length = ds.length + 1 := by simp
  refine ⟨h.p.grown hg (fun i e => ty_ne h.o.ty h.p.ty (Ne.symm n.2.2.2.2.1) i e) (fun i e => ty_ne h.o.ty h.p.lty (Ne.symm n.2.2.2.1) i e), h.q.grown hg (fun i e => ty_ne h.o.ty h.q.ty (Ne.symm n.2.2.2.2.2.1) i e) (fun i e => ty_ne h.o.ty h.q.lty (Ne.symm n.2.2.2.1) i e), h.t.grown hg (fun i e => ty_ne h.o.ty h.t.ty (Ne.symm n.2.2.2.2.1) i e) (fun i e => ty_ne h.o.ty h.t.lty (Ne.symm n.2.2.2.1) i e), ho, ⟨fun j hj => ?_, fun i j hi hj hij => ?_, fun j hj => ?_⟩, fun j hj => ?_, h.a3⟩
  · by_cases q : j < ds.length
    · rw [getD_snoc ds d j q]; exact htk.own j q
    · obtain rfl : j = ds.length := by omega
      rw [getD_last]; exact hdk
  · by_cases qi : i < ds.length
    · by_cases qj : j < ds.length
      · rw [getD_snoc ds d i qi, getD_snoc ds d j qj]; exact h.d.ap i j qi qj hij
      · obtain rfl : j = ds.length := by omega
        rw [getD_snoc ds d i qi, getD_last]; exact (k4 i qi).symm
    · obtain rfl : i = ds.length := by omega
      have qj : j < ds.length := by omega
      rw [getD_last, getD_snoc ds d j qj]; exact k4 j qj
  · by_cases q : j < ds.length
    · rw [getD_snoc ds d j q]; exact h.d.len j q
    · obtain rfl : j = ds.length := by omega
      rw [getD_last]; exact hn
  · by_cases q : j < ds.length
    · rw [getD_snoc ds d j q]; exact h.a1 j q
    · obtain rfl : j = ds.length := by omega
      rw [getD_last]; exact ⟨k1, k2, k3⟩
/-- A list that is born later than all is apart from them. -/
theorem St.young {w : World} {base : Nat} {pv qv tv lv lq lt ts u : Value} {c1 c2 f0 : List Flt} {ds : List Td} (h : St w base pv qv tv lv lq lt ts c1 c2 f0 ds) (hu : ∀ i, u.ownBlock = some i → w.heap.size ≤ i) : Ap2 u lv ∧ Ap2 u lq ∧ Ap2 u lt ∧ ∀ j, j < ds.length → Ap2 u (ds.getD j td0).v :=
  ⟨(ap_birth (fun i e => (h.p.blk.2 i e).2) hu).symm, (ap_birth (fun i e => (h.q.blk.2 i e).2) hu).symm, (ap_birth (fun i e => (h.t.blk.2 i e).2) hu).symm, fun j hj => (ap_birth (fun i e => ((h.d.own j hj).blk i e).2) hu).symm⟩
theorem OwnL.many {w w' : World} {b : Nat} {v : Value} {fs : List Flt} {S : Nat → Prop} (h : OwnL w b v fs) (hm : Mny w w' S) (hn : ∀ i, v.ownBlock = some i → ¬ S i) : OwnL w' b v fs :=
  h.same (fun i e => hm.block i (h.blk i e).2 (hn i e))
theorem PP.many {w w' : World} {base : Nat} {pv lv : Value} {fs : List Flt} {S : Nat → Prop} (h : PP w base pv lv fs) (hm : Mny w w' S) (h1 : ∀ i, pb pv = some i → ¬ S i) (h2 : ∀ i, lv.ownBlock = some i → ¬ S i) : PP w' base pv lv fs := by
  rcases h with h | ⟨p, rfl, h3, h4, h5⟩
  · exact .inl h
  · exact .inr ⟨p, rfl, h3, (hm.block p h4.lt (h1 p rfl)).trans h4, h5.many hm h2⟩
theorem RP.many {w w' : World} {base : Nat} {pv lv : Value} {fs : List Flt} {S : Nat → Prop} (h : RP w base pv lv fs) (hm : Mny w w' S) (h1 : ∀ i, pb pv = some i → ¬ S i) (h2 : ∀ i, lv.ownBlock = some i → ¬ S i) : RP w' base pv lv fs := by
  rcases h with h | ⟨p, rfl, h3, h4, h5⟩
  · exact .inl h
  · exact .inr ⟨p, rfl, h3, (hm.block p h4.lt (h1 p rfl)).trans h4, h5.many hm h2⟩
/-- All that were told have been added to. -/
theorem St.many {w w' : World} {base : Nat} {pv qv tv lv lq lt ts : Value} {c1 c2 f0 : List Flt} {ds : List Td} (h : St w base pv qv tv lv lq lt ts c1 c2 f0 ds) (hm : Mny w w' (Blk ds)) : PP w' base pv lv c1 ∧ RP w' base qv lq c2 := by
  have n := ne_types
  refine ⟨h.p.many hm (fun i e ⟨j, hj, e'⟩ => ty_ne (h.d.own j hj).ty h.p.ty n.1 i e' e) (fun i e ⟨j, hj, e'⟩ => (h.a1 j hj).1 i e' e), h.q.many hm (fun i e ⟨j, hj, e'⟩ => ty_ne (h.d.own j hj).ty h.q.ty n.2.1 i e' e) (fun i e ⟨j, hj, e'⟩ => (h.a1 j hj).2.1 i e' e)⟩
theorem St.tap {w : World} {base : Nat} {pv qv tv lv lq lt ts : Value} {c1 c2 f0 : List Flt} {ds : List Td} (h : St w base pv qv tv lv lq lt ts c1 c2 f0 ds) (j : Nat) (hj : j < ds.length) : Ap2 ts (ds.getD j td0).v := fun i e => ty_ne h.o.ty (h.d.own j hj).ty (Ne.symm ne_types.2.2.2.1) i e
/-- Entries that may be, of unlike places, few. -/
def Gd (fs : List Flt) : Prop := fs.all may = true ∧ (fs.map plc).Nodup ∧ fs.length ≤ 256
theorem Gd.filter {fs : List Flt} (h : Gd fs) (P : Flt → Bool) : Gd (fs.filter P) := by
  refine ⟨?_, ?_, Nat.le_trans (List.length_filter_le _ _) h.2.2⟩
  · rw [List.all_eq_true]
    intro f hf
    exact List.all_eq_true.1 h.1 f (List.mem_filter.1 hf).1
  · exact h.2.1.sublist (List.Sublist.map _ List.filter_sublist)
theorem gd_nil : Gd [] := ⟨rfl, List.nodup_nil, by simp⟩
theorem tds_nil (w : World) (base : Nat) : Tds w base [] := ⟨fun j hj => by simp at hj, fun i j hi => by simp at hi, fun j hj => by simp at hj⟩
end Go.Proofs.Ytbmbhcjocgbbpaa.Fa
