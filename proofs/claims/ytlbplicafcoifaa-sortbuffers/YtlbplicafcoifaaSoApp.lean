/-
  append on lists of records; two lists compared.
-/
import Derived.Test.YtlbplicafcoifaaSoOwn
import Derived.Test.YtlbplicafcoifaaBase2
namespace Go.Proofs.Ytlbplicafcoifaa.So
open Go.ChangeShapes Go.WideShapes Go.ChangeAt Go.RowKit
open Go.Proofs.Ytlbplicafcoifaa.Base
set_option linter.unusedVariables false
theorem rvals_one (rs : List Rec) : ∀ u ∈ rvals rs, u.oneCell' = true := by
  intro u hu
  unfold rvals at hu
  obtain ⟨r, _, h⟩ := List.mem_flatMap.1 hu
  unfold rv at h
  simp only [List.mem_cons, List.not_mem_nil, or_false] at h
  rcases h with rfl | rfl | rfl <;> rfl
theorem RdR.cellsAt {w : World} {ad : Addr} {m : Nat} {cs : List Rec} (h : RdR w (some ad) m cs) (j : Nat) (u : Value) (hu : (rvals cs)[j]? = some u) : w.cell? (ad.add j) = some u := by
  have hj : j < cs.length * 3 := by
    by_cases q : j < cs.length * 3
    · exact q
    · rw [List.getElem?_eq_none (by rw [length_rvals]; omega)] at hu; cases hu
  have hl := h.1
  obtain ⟨b, off, he, _, hc⟩ := h.2 (by omega)
  have he' := Option.some.inj he
  subst he'
  obtain ⟨a0, a1, a2⟩ := rvals_get cs (j / 3) (by omega)
  obtain ⟨c0, c1, c2⟩ := hc (j / 3) (by omega)
  have e : (⟨b, off, none⟩ : Addr).add j = ⟨b, off + j, none⟩ := by
    unfold Addr.add
    split
    · rename_i h; have h0 : j = 0 := by simpa using h
      subst h0; rfl
    · rfl
  rw [e]
  have h3 : j = j / 3 * 3 ∨ j = j / 3 * 3 + 1 ∨ j = j / 3 * 3 + 2 := by omega
  rcases h3 with h3 | h3 | h3
  · rw [← h3] at a0 c0; rw [c0, ← a0, hu]
  · rw [← h3] at a1; rw [show off + j = off + j / 3 * 3 + 1 by omega, c1, ← a1, hu]
  · rw [← h3] at a2; rw [show off + j = off + j / 3 * 3 + 2 by omega, c2, ← a2, hu]
theorem own_nil (w : World) (base : Nat) : OwnR w base (.slice none 0 0) [] := ⟨by simp [rvals], .inl ⟨rfl, rfl⟩⟩
theorem info_rec : ∃ i, Try.prog.info? 34 = some i ∧ i.zero = some (.agg #[.int .i64 0, .string ⟨#[]⟩, .string ⟨#[]⟩]) ∧ i.size = 3 ∧ i.bytes = 40 := by
  have hq := infoR
  cases hi : Try.prog.info? 34 with
  | none => simp [hi] at hq
  | some i =>
    simp only [hi, Option.map_some, Option.some.injEq, Prod.mk.injEq] at hq
    exact ⟨i, rfl, hq.1, hq.2.1, hq.2.2⟩
/-- append of a whole slice onto a list of the call's own. -/
theorem joinR {ops : Array Oper} {rest : List Oper} {o : Oper} {a : Act} {Q : Exit → Act → World → Prop} (w : World) (hgd : o.guard = none) (s x : Operand)
    (ho : o.op = .call { callee := .builtin .append, args := #[s, x], argTypes := #[38, 38] })
    (base : Nat) (v : Value) (rs : List Rec) (hs : a.eval s = v) (hown : OwnR w base v rs) (xa : Option Addr) (m cap : Nat) (cs : List Rec) (hx : a.eval x = .slice xa m cap)
    (hr : RdR w xa m cs) (hnil : xa = none → m = 0 ∧ cap = 0) (hl : (rs.length + m) * 40 ≤ 140737488355328) (hbase : base ≤ w.heap.size)
    (h : ∀ v' w', OwnR w' base v' (rs ++ cs) → w.grownBy w' v.ownBlock → wpList Try.prog ops Q rest (a.put o.dst v') w') : wpList Try.prog ops Q (o :: rest) a w := by
  obtain ⟨i0, hi, hz0, hz1, hz2⟩ := info_rec
  have hcl := hr.1
  cases xa with
  | none =>
    obtain ⟨rfl, rfl⟩ := hnil rfl
    have : cs = [] := List.length_eq_zero_iff.1 hcl
    subst this
    refine wpList_append_own_none hgd s x 38 ho base 34 i0 3 Try.underlying38 hi v rs.length (rvals rs) hs hown hx ?_
    exact h v w (by rw [List.append_nil]; exact hown) (World.grownBy.refl _ _)
  | some ad =>
    refine wpList_append_own w hgd s x 38 ho base 34 i0 _ 3 40 Try.underlying38 hi hz0 hz1 hz2 rfl (by omega) v rs.length (rvals rs) hs hown ad m cap (rvals cs) hx (by rw [length_rvals]; omega) (fun j u hu => hr.cellsAt j u hu) (rvals_one _) (by unfold maxLen; omega) hl hbase ?_
    intro v' w' h1 h2 _
    exact h v' w' (by unfold OwnR; rw [List.length_append, hcl, rvals_append]; exact h1) h2
set_option maxHeartbeats 1000000 in
set_option maxRecDepth 100000 in
theorem sameRecords_eq (a b : Option Addr) (n ca cb : Nat) (rs : List Rec) (w : World) (hx : RdR w a n rs) (hy : RdR w b n rs) (hn : n ≤ 140737488355328) :
    Calls Try.prog 9 #[.slice a n ca, .slice b n cb] w fun e w' => e = .returned (.bool true) ∧ Below w.heap.size w w' := by
  have HX := hide hx
  have HY := hide hy
  clear hx hy
  go_enter Try.func9, Try.ntmps9
  go_wp2_with fail
  go_loopw [5] (fun si wr => ∃ i : Nat, i ≤ n ∧ .int .i64 (i : Int) = si ∧ Hid (Below w.heap.size w wr)) (fun si _ => n - (intOf si).toNat)
  case atStart => exact ⟨0, by omega, rfl, Below.refl _ _⟩
  case round =>
    obtain ⟨i, hi, rfl, HB⟩ := hrel
    by_cases hin : i < n
    · have hii : (i : Int) < (n : Int) := by omega
      obtain ⟨b1, o1, rfl, hl1, hc1⟩ := HX.out.2 (by omega)
      obtain ⟨b2, o2, rfl, hl2, hc2⟩ := HY.out.2 (by omega)
      obtain ⟨c0, c1, c2⟩ := hc1 i hin
      obtain ⟨d0, d1, d2⟩ := hc2 i hin
      have p0 := (HB.out.cell (p := ⟨b1, o1 + i * 3, none⟩) hl1).trans c0
      have p1 := (HB.out.cell (p := ⟨b1, o1 + i * 3 + 1, none⟩) hl1).trans c1
      have p2 := (HB.out.cell (p := ⟨b1, o1 + i * 3 + 2, none⟩) hl1).trans c2
      have q0 := (HB.out.cell (p := ⟨b2, o2 + i * 3, none⟩) hl2).trans d0
      have q1 := (HB.out.cell (p := ⟨b2, o2 + i * 3 + 1, none⟩) hl2).trans d1
      have q2 := (HB.out.cell (p := ⟨b2, o2 + i * 3 + 2, none⟩) hl2).trans d2
      clear hc1 hc2 c0 c1 c2 d0 d1 d2
      generalize rs.getD i rec0 = x at p0 p1 p2 q0 q1 q2
      go_wp2_with fail
      go_quiet (fail)
      go_wp2_with fail
      go_roundw
      case rel => exact ⟨i + 1, by omega, by go_num, below_trans HB.out (below_drewN' _ _ _)⟩
      case measure => simp [intOf]; omega
    · obtain rfl : i = n := by omega
      go_wp2_with fail
      go_ret
      exact ⟨rfl, HB.out⟩
end Go.Proofs.Ytlbplicafcoifaa.So
