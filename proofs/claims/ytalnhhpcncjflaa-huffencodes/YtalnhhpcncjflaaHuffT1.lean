/-
  The document's packages in memory: what is appended, what is sliced.
-/
import Derived.Test.YtalnhhpcncjflaaHuffQZ
namespace Go.Proofs.Ytalnhhpcncjflaa.Pm
open Go.ChangeShapes Go.WideShapes Go.ChangeAt Go.RowKit
open Go.Proofs.Ytalnhhpcncjflaa.Base
set_option linter.unusedVariables false
theorem infoR : (Try.prog.info? 68).map (fun i => (i.zero, i.size, i.bytes)) = some (some (.agg (pcells .i64 (0, List.replicate 256 0)).toArray), 257, 2056) := by kernel_rfl
theorem sizeR : (Try.prog.info? 68).map (·.size) = some 257 := by kernel_rfl
theorem zeroR : ∃ Z : List Value, Hid (Z = pcells .i64 zpack) ∧ (Try.prog.info? 68).map (fun i => (i.zero, i.size, i.bytes)) = some (some (.agg Z.toArray), 257, 2056) ∧ ∀ W, (zeroValue 68).run Try.prog W = .ok (.agg Z.toArray) W :=
  ⟨_, rfl, infoR, zero_of infoR⟩
theorem uR : ∃ d, Try.prog.underlying 68 = some d ∧ d.isRow = true := ⟨_, Try.underlying68, rfl⟩
theorem zpack_len : (Value.agg (pcells .i64 zpack).toArray).cells.size = 257 := by
  show (pcells .i64 zpack).toArray.size = 257
  rw [List.size_toArray, pcells_len _ (List.length_replicate ..)]
theorem wp_buildR {o : Oper} {a : Act} {w : World} {K : Act → World → Prop} {Q : Exit → Act → World → Prop} (x : Operand) (ho : o.op = .buildSlice 62 1 #[(0, x)]) (V : List Value) (hV : V.length = 257) (hx : a.eval x = .agg V.toArray)
    (h : K (a.put o.dst (.slice (some ⟨w.heap.size, 0, none⟩) 1 1)) (w.alloc (.cells V.toArray 68))) : o.wp Try.prog a w K Q := by
  obtain ⟨Z, HZ, HI, hz⟩ := zeroR
  obtain ⟨i0, hi, hz0, hz1, hz2⟩ := info_of HI
  refine wp_buildSlice 62 68 1 _ ho V.toArray i0 (.agg Z.toArray) Try.underlying62 hi hz0 (by rw [hz1]; decide) (by rw [hz1]; decide) ?_ h
  rw [hz1]
  have := fill_one ((Array.range (1 * 257)).map ((Value.agg Z.toArray).cells[· % (Value.agg Z.toArray).cells.size]!)) V (by rw [Array.size_map, Array.size_range]) hV
  simpa [hx] using this
theorem wpList_buildR {ops : Array Oper} {rest : List Oper} {o : Oper} {a : Act} {w : World} {Q : Exit → Act → World → Prop} (hg : o.guard = none) (x : Operand) (ho : o.op = .buildSlice 62 1 #[(0, x)]) (V : List Value) (hV : V.length = 257) (hx : a.eval x = .agg V.toArray)
    (h : wpList Try.prog ops Q rest (a.put o.dst (.slice (some ⟨w.heap.size, 0, none⟩) 1 1)) (w.alloc (.cells V.toArray 68))) : wpList Try.prog ops Q (o :: rest) a w :=
  wpList_plain hg fun _ hK => wp_buildR x ho V hV hx (hK _ _ h)
abbrev OwnR (w : World) (base : Nat) (v : Value) (ps : List Pk) : Prop := OwnP 68 .i64 w base v ps
abbrev RdR (w : World) (a : Option Addr) (len : Nat) (ps : List Pk) : Prop := RdP .i64 w a len ps
theorem wide_append {X Y : List Pk} (hX : Wide 256 X) (hY : Wide 256 Y) : Wide 256 (X ++ Y) := fun p hp => by
  rcases List.mem_append.1 hp with h | h
  · exact hX p h
  · exact hY p h
theorem lcells_single (K : IntKind) (q : Pk) : lcells K [q] = pcells K q := by simp [lcells]
/-- append of packages onto a row of the call's own. -/
theorem joinR {ops : Array Oper} {rest : List Oper} {o : Oper} {a : Act} {Q : Exit → Act → World → Prop} (w : World) (hgd : o.guard = none) (s x : Operand)
    (ho : o.op = .call { callee := .builtin .append, args := #[s, x], argTypes := #[62, 62] })
    (base : Nat) (v : Value) (X : List Pk) (hs : a.eval s = v) (hown : OwnR w base v X) (xa : Option Addr) (m cap : Nat) (Y : List Pk) (hx : a.eval x = .slice xa m cap)
    (hr : RdR w xa m Y) (hnil : xa = none → m = 0 ∧ cap = 0) (hl : X.length + m ≤ 1000000) (hbase : base ≤ w.heap.size)
    (h : ∀ v' w', OwnR w' base v' (X ++ Y) → w.grownBy w' v.ownBlock → wpList Try.prog ops Q rest (a.put o.dst v') w') : wpList Try.prog ops Q (o :: rest) a w := by
  obtain ⟨Z, HZ, HI, hz⟩ := zeroR
  obtain ⟨i0, hi, hz0, hz1, hz2⟩ := info_of HI
  obtain ⟨r1, r2, r3⟩ := hr
  have hzs : (Value.agg Z.toArray).cells.size = 257 := by rw [HZ.out]; exact zpack_len
  cases xa with
  | none =>
    obtain ⟨rfl, rfl⟩ := hnil rfl
    have : Y = [] := List.length_eq_zero_iff.1 r1
    subst this
    refine wpList_append_own_none hgd s x 62 ho base 68 i0 257 Try.underlying62 hi v X.length (lcells .i64 X) hs hown.2 hx ?_
    exact h v w (by rw [List.append_nil]; exact hown) (World.grownBy.refl _ _)
  | some ad =>
    have hcl : (lcells .i64 Y).length = m * 257 := by rw [lcells_len .i64 r2, r1]
    refine wpList_append_own w hgd s x 62 ho base 68 i0 (.agg Z.toArray) 257 2056 Try.underlying62 hi hz0 hz1 hz2 hzs (by omega) v X.length (lcells .i64 X) hs hown.2 ad m cap (lcells .i64 Y) hx hcl (fun j u hu => ?_) (lcells_one _ _) (by unfold maxLen; omega) (by omega) hbase ?_
    · have hj := (List.getElem?_eq_some_iff.1 hu).1
      obtain ⟨b, off, e, hb, hc⟩ := r3 (by omega)
      obtain rfl := Option.some.inj e
      rw [Addr.add_mid]
      exact hc j u hu
    · intro v' w' h1 h2 _
      refine h v' w' ⟨wide_append hown.1 r2, ?_⟩ h2
      rw [List.length_append, r1, lcells_append]
      exact h1
/-- Of one that lies new. -/
theorem rdr_new (w : World) (q : Pk) (hq : q.2.length = 256) (V : List Value) (hV : pcells .i64 q = V) : RdR (w.alloc (.cells V.toArray 68)) (some ⟨w.heap.size, 0, none⟩) 1 [q] := by
  refine ⟨rfl, fun p hp => by simp at hp; subst hp; exact hq, fun _ => ⟨w.heap.size, 0, rfl, by simp, fun j u hu => ?_⟩⟩
  rw [lcells_single, hV] at hu
  have := new_cells w V 68 j u hu
  rwa [Addr.add_mid] at this
theorem elemR : Try.prog.underlying 62 = some (.slice (Try.prog.elem 62)) := by kernel_rfl
theorem elemRSize (W : World) : (sizeOf (Try.prog.elem 62)).run Try.prog W = .ok 257 W := by
  have h : (Try.prog.info? (Try.prog.elem 62)).map (·.size) = some 257 := by kernel_rfl
  cases hq : Try.prog.info? (Try.prog.elem 62) with
  | none => simp [hq] at h
  | some i => simp [hq] at h; simp [sizeOf, typeInfo, hq, h]
/-- 'l[k:]'. -/
theorem slice_from (b off len cap k : Nat) (h : k ≤ len) (hc : len ≤ cap) : ∃ la : Addr, (∀ W, (Instr.sliceAt 62 (.slice (some ⟨b, off, none⟩) len cap) (some (.int .i64 (k : Int))) none none).run Try.prog W = .ok (.slice (some la) (len - k) (cap - k)) W) ∧
    (k < len → la = ⟨b, off + k * 257, none⟩) ∧ la.spot = none := by
  refine ⟨if cap = k then ⟨b, off, none⟩ else ⟨b, off + k * 257, none⟩, fun W => ?_, fun hc => by rw [if_neg (by omega)], by split <;> rfl⟩
  rw [run_sliceAt_slice (h := elemR), run_slice_l (ht := elemR) (h0 := by omega) (h1 := by omega), elemRSize]
  simp only [Result.andThen, sliced, Int.toNat_natCast]
  by_cases hc : cap = k
  · rw [if_pos hc, if_pos hc]
  · rw [if_neg hc, if_neg hc]
    simp [Addr.add]
theorem rdr_from {w : World} {b off len k : Nat} {la : Addr} {ps : List Pk} (hr : RdR w (some ⟨b, off, none⟩) len ps) (h : k ≤ len) (hl : k < len → la = ⟨b, off + k * 257, none⟩) : RdR w (some la) (len - k) (ps.drop k) := by
  obtain ⟨h1, h2, h3⟩ := hr
  refine ⟨by rw [List.length_drop, h1], wide_drop h2 k, fun hp => ?_⟩
  obtain ⟨b', off', e, hb, hc⟩ := h3 (by omega)
  simp only [Option.some.injEq, Addr.mk.injEq, and_true] at e
  obtain ⟨rfl, rfl⟩ := e
  exact ⟨b, off + k * 257, by rw [hl (by omega)], hb, range_drop hc h2 k (by omega)⟩
theorem rdr_take {w : World} {a : Option Addr} {len k : Nat} {ps : List Pk} (hr : RdR w a len ps) (h : k ≤ len) : RdR w a k (ps.take k) := by
  obtain ⟨h1, h2, h3⟩ := hr
  refine ⟨by rw [List.length_take, h1]; omega, wide_take h2 k, fun hp => ?_⟩
  obtain ⟨b', off', e, hb, hc⟩ := h3 (by omega)
  exact ⟨b', off', e, hb, range_take hc h2 k (by omega)⟩
end Go.Proofs.Ytalnhhpcncjflaa.Pm
