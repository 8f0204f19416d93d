/-
  Steps of regions that append; what has turned, told by a set of blocks.
-/
import Derived.Test.YthdblnfohbldcaaGreatHuffC5J
import Derived.Deep.RegionHeldLaw
import Derived.Deep.DeepCutAuto
import Derived.BigRegion
import Derived.Test.YthdblnfohbldcaaGreatBlModJ
namespace Go.Proofs.YthdblnfohbldcaaGreat.Bl
open Go.ChangeShapes Go.WideShapes Go.ChangeAt Go.RowKit
open Go.Proofs.YthdblnfohbldcaaGreat.Base Go.Proofs.YthdblnfohbldcaaGreat.Nums
set_option linter.unusedVariables false
/-- append of a whole slice onto a slice of the call's own, as one step of a region that draws its order. -/
theorem step_join {ops : Array Oper} {o : Oper} {a : Act} {w : World} {K : Act → World → Prop} {Q : Exit → Act → World → Prop} {E : Prop} (hgd : o.guard = none) (s x : Operand)
    (ho : o.op = .call { callee := .builtin .append, args := #[s, x], argTypes := #[24, 24] })
    (base : Nat) (v : Value) (bs : List (BitVec 8)) (hs : a.eval s = v) (hown : Own w base v bs) (xa : Option Addr) (m cap : Nat) (cs : List (BitVec 8)) (hx : a.eval x = .slice xa m cap)
    (hr : Rd w xa m cs) (hnil : xa = none → m = 0 ∧ cap = 0) (hl : bs.length + m ≤ 140737488355328) (hbase : base ≤ w.heap.size)
    (h : ∀ v' w', Own w' base v' (bs ++ cs) → w.grownBy w' v.ownBlock → K (a.put o.dst v') w') :
    if Region.wanted o (yielded ops a.tmps) = true then Oper.wp Tryz.prog o a w K Q else E := by
  obtain ⟨i0, hi, hz0, hz1, hz2⟩ := info_parts info8
  have hcl := hr.1
  cases xa with
  | none =>
    obtain ⟨rfl, rfl⟩ := hnil rfl
    have : cs = [] := List.length_eq_zero_iff.1 hcl
    subst this
    have hw : Region.wanted o (yielded ops a.tmps) = true := by simp [Region.wanted, hgd]
    rw [if_pos hw]
    have hrun := run_append_owned_none (P := Tryz.prog) (w := w) base 24 o.type 5 i0 1 Tryz.underlying24 hi v bs.length (vals bs) hown
    have hh := h v w (by rw [List.append_nil]; exact hown) (World.grownBy.refl _ _)
    unfold Oper.wp
    simp [execOp, ho, resolve, invoke, builtin, hs, hx, hrun, Result.andThen]
    exact hh
  | some ad =>
    refine step_append_own hgd s x 24 ho base 5 i0 (.int .u8 0) 1 1 Tryz.underlying24 hi hz0 hz1 hz2 rfl (by omega) v bs.length (vals bs) hs hown ad m cap (vals cs) hx (by rw [length_vals]; omega) (fun j u hu => hr.cellsAt ad rfl j u hu) (vals_one _) (by unfold maxLen; omega) (by omega) hbase ?_
    intro v' w' h1 h2 _
    exact h v' w' (own_append h1 (by omega)) h2
/-- append of one int, as one step of a region. -/
theorem step_pushI {ops : Array Oper} {o : Oper} {a : Act} {w : World} {K : Act → World → Prop} {Q : Exit → Act → World → Prop} {E : Prop} (hgd : o.guard = none) (s x : Operand)
    (ho : o.op = .call { callee := .builtin .append, args := #[s, x], argTypes := #[55, 55] })
    (base : Nat) (v : Value) (xs : List Int) (hs : a.eval s = v) (hown : OwnI w base v xs) (ad : Addr) (cap : Nat) (c : Int) (hx : a.eval x = .slice (some ad) 1 cap)
    (hc : w.cell? (ad.add 0) = some (.int .i64 c)) (hl : xs.length + 1 ≤ 17592186044416) (hbase : base ≤ w.heap.size)
    (h : ∀ v' w', OwnI w' base v' (xs ++ [c]) → w.grownBy w' v.ownBlock → K (a.put o.dst v') w') :
    if Region.wanted o (yielded ops a.tmps) = true then Oper.wp Tryz.prog o a w K Q else E := by
  obtain ⟨i0, hi, hz0, hz1, hz2⟩ := info_parts (infoI (.inl rfl))
  refine step_append_own hgd s x 55 ho base 3 i0 (.int .i64 0) 1 8 Tryz.underlying55 hi hz0 hz1 hz2 rfl (by omega) v xs.length (ivals xs) hs hown ad 1 cap [.int .i64 c] hx rfl ?_ (ivals_all [c]) (by unfold maxLen; omega) (by omega) hbase ?_
  · intro j u hu
    cases j with
    | zero => simp at hu; subst hu; exact hc
    | succ j => simp at hu
  · intro v' w' h1 h2 _
    refine h v' w' ?_ h2
    unfold OwnI
    rw [List.length_append, ivals_app]
    exact h1
/-- Nothing of what was there has turned, but the blocks of F. -/
structure KeptF (w w' : World) (F : Nat → Prop) : Prop where
  os : w'.os = w.os
  tape : w'.tape = w.tape
  output : w'.output = w.output
  size : w.heap.size ≤ w'.heap.size
  block : ∀ i, i < w.heap.size → ¬ F i → w'.heap[i]? = w.heap[i]?
theorem KeptF.of {w w' : World} {F : Nat → Prop} (h : Below w.heap.size w w') : KeptF w w' F := ⟨h.os, h.tape, h.output, h.size, fun i hi _ => h.block i hi⟩
theorem KeptF.grown {w w' w'' : World} {F : Nat → Prop} {r : Option Nat} (h : KeptF w w' F) (g : w'.grownBy w'' r) (hr : ∀ i, r = some i → F i ∨ w.heap.size ≤ i) : KeptF w w'' F :=
  ⟨g.os.trans h.os, g.tape.trans h.tape, g.output.trans h.output, Nat.le_trans h.size g.size, fun i hi hF => (g.block i (Nat.lt_of_lt_of_le hi h.size) (fun e => by
    rcases hr i e.symm with e2 | e2
    · exact hF e2
    · omega)).trans (h.block i hi hF)⟩
theorem KeptF.below {w w' w'' : World} {F : Nat → Prop} (h : KeptF w w' F) (g : Below w'.heap.size w' w'') : KeptF w w'' F := h.grown (below_grown g) (fun i e => nomatch e)
theorem KeptF.toBelow {w0 w w' : World} {F : Nat → Prop} (hb : Below w0.heap.size w0 w) (h : KeptF w w' F) (hF : ∀ i, F i → w0.heap.size ≤ i) : Below w0.heap.size w0 w' :=
  ⟨h.os.trans hb.os, h.tape.trans hb.tape, h.output.trans hb.output, Nat.le_trans hb.size h.size, fun i hi => (h.block i (Nat.lt_of_lt_of_le hi hb.size) (fun e => by have := hF i e; omega)).trans (hb.block i hi)⟩
theorem KeptF.mono {w w' : World} {F G : Nat → Prop} (h : KeptF w w' F) (hFG : ∀ i, F i → G i ∨ w.heap.size ≤ i) : KeptF w w' G :=
  ⟨h.os, h.tape, h.output, h.size, fun i hi hG => h.block i hi (fun e => by rcases hFG i e with h1 | h1; exact hG h1; omega)⟩
/-- What type a block has. -/
def Ty (w : World) (o : Option Nat) (t : TypeId) : Prop := ∀ i, o = some i → ∃ cur : Array Value, w.heap[i]? = some (.cells cur t)
theorem ty_ne {w : World} {o o' : Option Nat} {t t' : TypeId} (h : Ty w o t) (h' : Ty w o' t') (hn : t ≠ t') : ∀ i, o = some i → o' ≠ some i := by
  intro i e e'
  obtain ⟨c, hc⟩ := h i e
  obtain ⟨c', hc'⟩ := h' i e'
  rw [hc] at hc'
  simp only [Option.some.injEq, Obj.cells.injEq] at hc'
  exact hn hc'.2.1
theorem own_ty {w : World} {base s n : Nat} {t : TypeId} {v : Value} {xs : List Value} (h : w.ownsRow base t s v n xs) : Ty w v.ownBlock t := by
  intro i e
  rcases h.2 with ⟨h1, _⟩ | ⟨g, cap, cur, h1, _, h3, _⟩
  · subst h1; cases e
  · subst h1; cases e; exact ⟨cur, h3⟩
theorem ne_ty : (5 : TypeId) ≠ 3 := by decide
end Go.Proofs.YthdblnfohbldcaaGreat.Bl
/-
  raw: the raw bytes of a builder's entries.
-/
namespace Go.Proofs.YthdblnfohbldcaaGreat.Bl
open Go.ChangeShapes Go.WideShapes Go.ChangeAt Go.RowKit
open Go.Proofs.YthdblnfohbldcaaGreat.Base Go.Proofs.YthdblnfohbldcaaGreat.Nums
set_option linter.unusedVariables false
/-- The places as the raw bytes tell them; the raw bytes. -/
def rawP (ps : List Int) : List (BitVec 8) := ps.flatMap fun p => fixed p.toNat 4
def rawL (es : List (BitVec 8)) (ps : List Int) (r : Int) (n : Nat) : List (BitVec 8) := es ++ rawP ps ++ fixed r.toNat 4 ++ fixed n 4
theorem rawP_len (ps : List Int) : (rawP ps).length = 4 * ps.length := by
  unfold rawP
  induction ps with
  | nil => rfl
  | cons p r ih => rw [List.flatMap_cons, List.length_append, ih, length_fixed, List.length_cons]; omega
theorem rawP_snoc (ps : List Int) (k : Nat) (h : k < ps.length) : rawP (ps.take (k + 1)) = rawP (ps.take k) ++ fixed (ps.getD k 0).toNat 4 := by
  rw [List.take_succ_eq_append_getElem h, List.getD_eq_getElem?_getD, List.getElem?_eq_getElem h]
  unfold rawP
  rw [List.flatMap_append]
  simp
theorem rawL_len (es : List (BitVec 8)) (ps : List Int) (r : Int) (n : Nat) : (rawL es ps r n).length = es.length + 4 * ps.length + 8 := by
  unfold rawL
  simp only [List.length_append, rawP_len, length_fixed]
set_option maxHeartbeats 4000000 in
set_option maxRecDepth 100000 in
theorem raw_any (q base : Nat) (r m : Int) (ev pv : Value) (es : List (BitVec 8)) (ps : List Int) (n : Nat) (last : ByteArray) (w : World)
    (h : BB w q r m ev pv (n : Int) last) (he : Own w base ev es) (hp : OwnI w base pv ps) (hbase : base ≤ w.heap.size)
    (hr1 : 0 ≤ r) (hr2 : r ≤ 64) (hel : es.length ≤ 1048576) (hpl : ps.length ≤ 1048576) (hn : n ≤ 1048576) (hps : ∀ k, k < ps.length → 0 ≤ ps.getD k 0 ∧ ps.getD k 0 ≤ 1048576) :
    Calls Tryz.prog 75 #[.pointer (some ⟨q, 0, none⟩)] w fun e w' => ∃ v, e = .returned v ∧ Own w' w.heap.size v (rawL es ps r n) ∧ Below w.heap.size w w' := by
  obtain ⟨ea, ec, rfl⟩ := he.shape
  obtain ⟨pa, pc, rfl⟩ := hp.shape
  have HBB := hide h
  have HE := hide he
  have HP := hide hp
  have HSZ := hide (bsize_any q r m ea pa es.length ec ps.length pc n last w h (by omega) (by omega) (by omega))
  have HFX : Hid (∀ (v : Nat) (W : World), v < 18446744073709551616 → Calls Tryz.prog 118 #[.int .u64 (v : Int), .int .i64 4] W fun e w' => ∃ u, e = .returned u ∧ Own w' W.heap.size u (fixed v 4) ∧ Below W.heap.size W w') := fun v W hv => by
    have h := fixed_any v 4 W hv (by decide)
    rw [show fixI v 4 = fixed v 4 from fixI_nat v 4 (by omega)] at h
    exact h
  have HPS := hide hps
  have hfl : ∀ v, (fixed v 4).length = 4 := fun v => length_fixed v 4
  have HFL := hide hfl
  have HRL := hide (fun k => rawP_len (ps.take k))
  obtain ⟨S, hS⟩ : ∃ S, sizeB es.length ps.length n = S := ⟨_, rfl⟩
  have HSB : S ≤ 8388608 := by rw [← hS]; unfold sizeB; split <;> omega
  rw [hS] at HSZ
  obtain ⟨rn, rfl⟩ := Int.eq_ofNat_of_zero_le hr1
  obtain ⟨i0, hi, hz0, hz1, hz2⟩ := info_parts info8
  clear hS hfl h he hp hps
  go_enter Tryz.func75, Tryz.ntmps75
  go_upto_region 3 with (first
    | (go_at_call 22; refine HSZ.out.mono ?_; rintro e wS ⟨rfl, k, hk⟩; have HBS : Hid (Below w.heap.size w wS) := (by rw [hk]; exact below_drewN' _ _ _); have HSS := hide HBS.out.size; clear hk)
    | (at_make; refine wpList_make_own _ rfl _ _ 24 rfl w.heap.size 5 i0 (.int .u8 0) 1 Tryz.underlying24 hi hz0 hz1 .i64 .i64 _ S rfl rfl (by omega) (by rw [hz2]; omega) (by unfold maxLen; omega) HSS.out ?_
       intro w1 hown1 hgrow1
       have HO1 : Hid (Own w1 w.heap.size (.slice (some ⟨wS.heap.size, 0, none⟩) 0 S) []) := hown1
       have HB1 : Hid (Below w.heap.size w w1) := HBS.out.grown hgrow1 HSS.out (by intro k h; cases h)
       have HE1 := hide (HE.out.below HB1.out)
       have c2 := (HBB.out.below HB1.out).cells.2.2.1
       clear hown1 hgrow1)
    | (at_builtin; refine join _ rfl _ _ rfl w.heap.size _ [] rfl HO1.out ea es.length ec es rfl (Got.rd HE1.out (by omega)) (Got.nil HE1.out) (by simp; omega) HB1.out.size ?_
       intro v2 w2 ho2 hg2
       rw [List.nil_append] at ho2
       obtain ⟨a2, c2', e2⟩ := ho2.shape
       subst e2
       have HO2 := hide ho2
       have HB2 : Hid (Below w.heap.size w w2) := HB1.out.grown hg2 HB1.out.size (own_blk HO1.out)
       clear ho2 hg2))
  have HF2 := hide (HBB.out.below HB2.out)
  have d3 := HF2.out.cells.2.2.2.1
  have hwr : IntKind.u64.wrap (rn : Int) = (rn : Int) := by rw [IntKind.wrap_u64]; omega
  have hwn : IntKind.u64.wrap (n : Int) = (n : Int) := by rw [IntKind.wrap_u64]; omega
  have HN0 : Hid (∀ k, k ≤ ps.length → (rawP (ps.take k)).length = 4 * k) := fun k hk => by rw [rawP_len, List.length_take]; omega
  go_wp2_with fail
  go_loopw [3, 20] (fun s3 s20 wr => ∃ (k : Nat) (va : Option Addr) (vn vc : Nat), k ≤ ps.length ∧ s20 = .int .i64 (k : Int) ∧ s3 = .slice va vn vc ∧ Hid (vn = es.length + 4 * k) ∧ Hid (Own wr w.heap.size (.slice va vn vc) (es ++ rawP (ps.take k))) ∧ Hid (Below w.heap.size w wr) ) (fun _ s20 _ => ps.length - (intOf s20).toNat)
  case atStart => exact ⟨0, a2, es.length, c2', by omega, rfl, rfl, rfl, by simpa [rawP] using HO2, HB2⟩
  case round =>
    obtain ⟨k, va, vn, vc, hk, rfl, rfl, HVN, HO, HB⟩ := hrel
    have HFR := hide (HBB.out.below HB.out)
    have e0 := HFR.out.cells.1
    have e4 := HFR.out.cells.2.2.2.2.1
    by_cases hlt : k < ps.length
    · have hlti : (k : Int) < (ps.length : Int) := by omega
      obtain ⟨b, off, rfl, _, hc⟩ := ((HP.out.below HB.out).rd (by omega)).2.2 (by omega)
      have hck := hc k hlt
      clear hc
      obtain ⟨hp0, hp1⟩ := HPS.out k hlt
      obtain ⟨p, hp⟩ := Int.eq_ofNat_of_zero_le hp0
      rw [hp] at hck hp1
      have HPE := hide hp
      clear hp hp0
      have hwp : IntKind.u64.wrap (p : Int) = (p : Int) := by rw [IntKind.wrap_u64]; omega
      go_wp2_with (first
        | (go_at_call 118; refine (HFX.out p _ (by omega)).mono ?_; rintro e w1 ⟨v1, rfl, ho, hb⟩; obtain ⟨a1, c1, e1⟩ := ho.shape; subst e1; have HO1 := hide ho; have HBX := hide (below_trans HB.out hb); have HOW := hide (HO.out.below hb); clear ho hb)
        | (at_builtin; refine join _ rfl _ _ rfl w.heap.size (.slice va vn vc) (es ++ rawP (ps.take k)) rfl HOW.out a1 (fixed p 4).length c1 (fixed p 4) rfl (Got.rd HO1.out (by rw [HFL.out]; omega)) (Got.nil HO1.out) (by rw [List.length_append, HN0.out k (by omega), HFL.out]; omega) HBX.out.size ?_; intro v3 w3 ho3 hg3; obtain ⟨a3, n3, c3, e3, hn3⟩ : ∃ a n c, v3 = .slice a n c ∧ n = es.length + 4 * k + 4 := (by obtain ⟨a, c, e⟩ := ho3.shape; exact ⟨a, _, c, e, by rw [List.length_append, List.length_append, HN0.out k (by omega), HFL.out]⟩); subst e3; have HN3 := hide hn3; have HO3 := hide ho3; have HB3 := hide (HBX.out.grown hg3 HBX.out.size (own_blk HOW.out)); clear ho3 hg3 hn3))
      go_roundw
      case rel => exact ⟨k + 1, a3, n3, c3, by omega, by go_num, rfl, (by show _ = _; rw [HN3.out]; omega), (by have h := HO3.out; rw [List.append_assoc] at h; rw [rawP_snoc ps k hlt, HPE.out]; exact h), HB3.out⟩
      case measure => simp [intOf]; omega
    · obtain rfl : k = ps.length := by omega
      rw [List.take_length] at HO
      have HR4 : Hid ((rawP ps).length = 4 * ps.length) := rawP_len ps
      go_upto_region 9 with (first
        | (go_at_call 118; refine (HFX.out rn _ (by omega)).mono ?_; rintro e w1 ⟨v1, rfl, ho, hb⟩; obtain ⟨a1, c1, e1⟩ := ho.shape; subst e1; have HO1 := hide ho; have HBX := hide (below_trans HB.out hb); have HOW := hide (HO.out.below hb); clear ho hb)
        | (at_builtin; refine join _ rfl _ _ rfl w.heap.size (.slice va vn vc) (es ++ rawP ps) rfl HOW.out a1 (fixed rn 4).length c1 (fixed rn 4) rfl (Got.rd HO1.out (by rw [HFL.out]; omega)) (Got.nil HO1.out) (by rw [List.length_append, HR4.out, HFL.out]; omega) HBX.out.size ?_; intro v3 w3 ho3 hg3; obtain ⟨a3, n3, c3, e3, hn3⟩ : ∃ a n c, v3 = .slice a n c ∧ n = es.length + 4 * ps.length + 4 := (by obtain ⟨a, c, e⟩ := ho3.shape; exact ⟨a, _, c, e, by rw [List.length_append, List.length_append, HR4.out, HFL.out]⟩); subst e3; have HO3 := hide ho3; have HB3 := hide (HBX.out.grown hg3 HBX.out.size (own_blk HOW.out)); have e5 := (HBB.out.below HB3.out).cells.2.2.2.2.1; clear ho3 hg3 hn3))
      go_wp2_with (first
        | (go_at_call 118; refine (HFX.out n _ (by omega)).mono ?_; rintro e w4 ⟨v4, rfl, ho, hb⟩; obtain ⟨a4, c4, e4⟩ := ho.shape; subst e4; have HO4 := hide ho; have HBY := hide (below_trans HB3.out hb); have HOZ := hide (HO3.out.below hb); clear ho hb)
        | (at_builtin; refine join _ rfl _ _ rfl w.heap.size (.slice a3 n3 c3) (es ++ rawP ps ++ fixed rn 4) rfl HOZ.out a4 (fixed n 4).length c4 (fixed n 4) rfl (Got.rd HO4.out (by rw [HFL.out]; omega)) (Got.nil HO4.out) (by rw [List.length_append, List.length_append, HR4.out, HFL.out, HFL.out]; omega) HBY.out.size ?_; intro v6 w6 ho6 hg6; have HO6 := hide ho6; have HB6 := hide (HBY.out.grown hg6 HBY.out.size (own_blk HOZ.out)); clear ho6 hg6))
      go_ret
      exact ⟨_, rfl, HO6.out, HB6.out⟩
end Go.Proofs.YthdblnfohbldcaaGreat.Bl
