/-
  run: all that a merge tells, as the statements gather it.
-/
import Derived.Test.YtoobgocnooeojaaMeRun
namespace Go.Proofs.Ytoobgocnooeojaa.Me
open Go.ChangeShapes Go.WideShapes Go.ChangeAt Go.RowKit
open Go.Proofs.Ytoobgocnooeojaa.Base
set_option linter.unusedVariables false
def thv (L : List Th) : List Value := L.flatMap fun t => [.int .i64 t.key, .int .i64 t.name]
theorem thv_append (a b : List Th) : thv (a ++ b) = thv a ++ thv b := by unfold thv; rw [List.flatMap_append]
theorem infoTh : (Try.prog.info? 36).map (fun i => (i.zero, i.size, i.bytes)) = some (some (.agg #[.int .i64 0, .int .i64 0]), 2, 16) := by kernel_rfl
theorem info_th : ∃ i, Try.prog.info? 36 = some i ∧ i.zero = some (.agg #[.int .i64 0, .int .i64 0]) ∧ i.size = 2 ∧ i.bytes = 16 := by
  have hq := infoTh
  cases hi : Try.prog.info? 36 with
  | none => simp [hi] at hq
  | some i =>
    simp only [hi, Option.map_some, Option.some.injEq, Prod.mk.injEq] at hq
    exact ⟨i, rfl, hq.1, hq.2.1, hq.2.2⟩
/-- A list of things of the call's own. -/
def OwnT (w : World) (base : Nat) (v : Value) (L : List Th) : Prop := w.ownsRow base 36 2 v L.length (thv L)
/-- append of one thing. -/
theorem pushTh {ops : Array Oper} {rest : List Oper} {o : Oper} {a : Act} {Q : Exit → Act → World → Prop} (w : World) (hgd : o.guard = none) (s x : Operand)
    (ho : o.op = .call { callee := .builtin .append, args := #[s, x], argTypes := #[30, 30] })
    (base : Nat) (v : Value) (L : List Th) (hs : a.eval s = v) (hown : OwnT w base v L) (g0 : Nat) (t : Th) (hx : a.eval x = .slice (some ⟨g0, 0, none⟩) 1 1)
    (hr : w.heap[g0]? = some (.cells #[.int .i64 t.key, .int .i64 t.name] 36)) (hl : (L.length + 1) * 16 ≤ 140737488355328) (hbase : base ≤ w.heap.size)
    (h : ∀ g cap w', OwnT w' base (.slice (some ⟨g, 0, none⟩) (L.length + 1) cap) (L ++ [t]) → w.grownBy w' v.ownBlock → (v.ownBlock = some g ∨ g = w.heap.size) → wpList Try.prog ops Q rest (a.put o.dst (.slice (some ⟨g, 0, none⟩) (L.length + 1) cap)) w') : wpList Try.prog ops Q (o :: rest) a w := by
  obtain ⟨i0, hi, hz0, hz1, hz2⟩ := info_th
  refine wpList_append_lies w hgd s x 30 ho base 36 i0 _ 2 16 Try.underlying30 hi hz0 hz1 hz2 rfl (by omega) v L.length (thv L) hs hown ⟨g0, 0, none⟩ 1 1 (thv [t]) hx rfl (fun j u hu => ?_) (fun u hu => ?_) (by omega) (by unfold maxLen; omega) hl hbase w.heap.size rfl ?_
  · match j, hu with
    | 0, hu =>
      have e : some (Value.int .i64 t.key) = some u := hu
      show w.cell? ⟨g0, 0, none⟩ = some u
      rw [← e, cell_of_row _ _ _ _ _ _ hr]; rfl
    | 1, hu =>
      have e : some (Value.int .i64 t.name) = some u := hu
      show w.cell? ⟨g0, 1, none⟩ = some u
      rw [← e, cell_of_row _ _ _ _ _ _ hr]; rfl
    | j + 2, hu => cases hu
  · have hu2 : u ∈ [Value.int .i64 t.key, Value.int .i64 t.name] := hu
    simp only [List.mem_cons, List.not_mem_nil, or_false] at hu2
    rcases hu2 with rfl | rfl <;> rfl
  · intro g cap w' h1 h2 h3 _
    exact h g cap w' (by unfold OwnT; rw [List.length_append, thv_append]; exact h1) h2 h3
/-- The sources' own blocks and things, as feeds and tidy leave them. -/
structure Fed (w : World) (lo : Nat) (v : Value) (gs : List Nat) (fd : Nat → Fd) : Prop where
  row : Row w lo v gs fd
  rd : ∀ j, j < gs.length → RdH w (fd j).a (fd j).ts
  low : ∀ j, j < gs.length → ∀ b off, (fd j).a = some ⟨b, off, none⟩ → 0 < (fd j).ts.length → b < lo
  fr : Fresh fd gs.length
  len : ∀ j, j < gs.length → (fd j).ts.length + 2 ≤ 4611686018427387904
theorem RdH.below {w w' : World} {a : Option Addr} {ts : List Th} (h : RdH w a ts) (hb : Below w.heap.size w w') : RdH w' a ts := fun hp => by
  obtain ⟨b, off, e1, e2, e3⟩ := h hp
  exact ⟨b, off, e1, Nat.lt_of_lt_of_le e2 hb.size, fun k hk => ⟨(hb.cell (p := ⟨b, off + k * 2, none⟩) e2).trans (e3 k hk).1, (hb.cell (p := ⟨b, off + k * 2 + 1, none⟩) e2).trans (e3 k hk).2⟩⟩
theorem Fed.newly {w w' : World} {lo : Nat} {v : Value} {gs : List Nat} {fd : Nat → Fd} {gm g2 : Nat} (h : Fed w lo v gs fd) (hlo : lo ≤ w.heap.size) (hb : Below w.heap.size w w') (hm : MS w' gm g2 gs.length pos0 false false 0 (sc1 fun j => gs.getD j 0)) (h1 : w.heap.size ≤ gm) (h2 : w.heap.size ≤ g2) : Newly w' gm g2 gs.length (fun j => gs.getD j 0) fd := by
  have hr := h.row.below hb
  have hl : ∀ j, j < gs.length → gs.getD j 0 < w.heap.size := fun j hj => lt_row (h.row.fb j hj)
  refine ⟨⟨hr.fb, fun j hj => (h.rd j hj).below hb, fun j hj b off e1 e2 => ?_, h.row.inj, fun j hj => ?_, fun j hj => ?_, fun j hj => ?_⟩, ⟨_, hm⟩, h.fr⟩
  · have q := h.low j hj b off e1 e2
    exact ⟨by omega, by omega, fun k hk => by have := h.row.lo k hk; omega⟩
  · have := hl j hj; exact ⟨by omega, by omega⟩
  · have := h.len j hj; omega
  · rw [(h.fr j hj).2.1]; omega
theorem sum_mono (f : Nat → Nat) : ∀ {a b : Nat}, a ≤ b → sumN f a ≤ sumN f b
  | a, 0, h => by obtain rfl : a = 0 := by omega
                  exact Nat.le_refl _
  | a, b + 1, h => by
    by_cases e : a = b + 1
    · rw [e]; exact Nat.le_refl _
    · exact Nat.le_trans (sum_mono f (a := a) (b := b) (by omega)) (Nat.le_add_right _ _)
set_option maxHeartbeats 4000000 in
set_option maxRecDepth 100000 in
theorem run_any (al : Option Addr) (cl lo : Nat) (gs : List Nat) (fd : Nat → Fd) (w : World) (hF : Fed w lo (.slice al gs.length cl) gs fd) (hlo : lo ≤ w.heap.size) (hn : gs.length ≤ 64) (hs : (sumN (lens fd) gs.length + 1) * 16 ≤ 140737488355328) :
    Calls Try.prog 17 #[.slice al gs.length cl] w fun e w' => ∃ v L x, e = .returned (.tuple #[v, .int .i64 x, .bool true]) ∧ Runs fd gs.length L x ∧ OwnT w' w.heap.size v L ∧ Below lo w w' := by
  have HF := hide hF
  have HMD : Hid (Calls Try.prog 10 #[.slice al gs.length cl] w fun e w' => ∃ gm g2, e = .returned (.tuple #[.pointer (some ⟨gm, 0, none⟩), .int .i64 0]) ∧ Newly w' gm g2 gs.length (fun j => gs.getD j 0) fd ∧ (w.heap.size ≤ gm ∧ w.heap.size ≤ g2) ∧ Below w.heap.size w w') := by
    refine (made_any al cl lo gs fd w hF.row (by omega)).mono ?_
    rintro e w1 ⟨hb1, ⟨hq, _⟩ | ⟨_, gm, g2, rfl, hg1, hg2, hm1⟩⟩
    · omega
    · exact ⟨gm, g2, rfl, hF.newly hlo hb1 hm1 hg1 hg2, ⟨hg1, hg2⟩, hb1⟩
  clear hF
  go_enter Try.func17, Try.ntmps17
  go_wp2_with (go_at_call 10; refine HMD.out.mono ?_; rintro e w1 ⟨gm, g2, rfl, hnw, hg, hb1⟩; have HNW := hide hnw; have HG := hide hg; have HB1 := hide hb1; clear hnw hg hb1)
  have HFR := hide (fun j (hj : j < gs.length) => (HF.out.row.below HB1.out).fb j hj)
  have HPT := hide (fun j (hj : j < gs.length) => ptr_at (HF.out.row.below HB1.out).row j hj)
  obtain ⟨N, hN⟩ : ∃ N, gs.length = N := ⟨_, rfl⟩
  have HN := hide hN
  rw [hN] at HFR HPT HNW hs hn ⊢
  have HALLO : Hid (∀ j, All N gm g2 (fun j => gs.getD j 0) j → lo ≤ j ∧ j < w1.heap.size) := fun j hj => by
    obtain ⟨pl, hms⟩ := HNW.out.ms
    rcases hj with e | e | ⟨k, hk, e⟩
    · rw [e]; exact ⟨Nat.le_trans hlo HG.out.1, hms.m.lt⟩
    · rw [e]; exact ⟨Nat.le_trans hlo HG.out.2, hms.s.lt⟩
    · rw [e]; exact ⟨HF.out.row.lo k (by omega), lt_row (HNW.out.fs.fb k hk)⟩
  have HLOW : Hid (∀ j, j < N → ∀ b off, (fd j).a = some ⟨b, off, none⟩ → 0 < (fd j).ts.length → b < lo) := fun j hj => HF.out.low j (by omega)
  have HLEN : Hid (∀ j, j < N → (fd j).ts.length + 2 ≤ 4611686018427387904) := fun j hj => HF.out.len j (by omega)
  have HSZ : Hid (w.heap.size ≤ w1.heap.size) := HB1.out.size
  have HBL : Hid (Below lo w w1) := ⟨HB1.out.os, HB1.out.tape, HB1.out.output, HB1.out.size, fun k hk => HB1.out.block k (by omega)⟩
  obtain ⟨S, hS⟩ : ∃ S, sumN (lens fd) N = S := ⟨_, rfl⟩
  have HSS := hide hS
  rw [hS] at hs
  clear hN hS HMD
  go_loopw [7, 8] (fun s7 s8 wr => ∃ i q : Nat, i ≤ N ∧ .int .i64 (q : Int) = s7 ∧ .int .i64 (i : Int) = s8 ∧ w1 = wr ∧ Hid (sumN (lens fd) i = q)) (fun _ s8 _ => N - (intOf s8).toNat)
  case atStart => exact ⟨0, 0, by omega, rfl, rfl, rfl, rfl⟩
  case round =>
    obtain ⟨i, q, hi, rfl, rfl, rfl, HQ⟩ := hrel
    by_cases hin : i < N
    · have hii : (i : Int) < (N : Int) := by omega
      obtain ⟨b, hal, hbl, c0⟩ := HPT.out i hin
      subst hal
      have f0 := (HFR.out i hin).cells.1
      have HQ1 : Hid (sumN (lens fd) (i + 1) = q + (fd i).ts.length) := by show sumN _ _ = _; unfold sumN; rw [HQ.out]; rfl
      have HQ2 : Hid (q + (fd i).ts.length ≤ S) := by
        have h1 := HQ1.out
        have h2 := HSS.out
        have h3 : sumN (lens fd) (i + 1) ≤ sumN (lens fd) N :=
          sum_mono (lens fd) (by omega)
        show q + _ ≤ S
        omega
      generalize (fd i).ts.length = L at f0 HQ1 HQ2
      obtain ⟨q2, hq2⟩ : ∃ q2, q + L = q2 := ⟨_, rfl⟩
      have hwq : IntKind.i64.wrap ((q : Int) + (L : Int)) = (q2 : Int) := by have h1 := HQ2.out; rw [IntKind.wrap_i64]; omega
      rw [hq2] at HQ1
      clear hq2
      generalize gs.getD i 0 = gi at c0 f0
      go_wp2_with fail
      go_roundw
      case rel => exact ⟨i + 1, q2, by omega, rfl, by go_num, by first | rfl | trivial, HQ1⟩
      case measure => simp [intOf]; omega
    · obtain rfl : i = N := by omega
      obtain rfl : q = S := HQ.out.symm.trans HSS.out
      go_wp2_with fail
      have HAT : Hid (At w1 gm g2 i (fun j => gs.getD j 0) fd []) := .inl ⟨rfl, HNW.out⟩
      clear HFR HPT HNW HQ
      go_loopw [9, 10] (fun s9 s10 wr => ∃ (P : List Th) (v : Value), v = s9 ∧ .int .i64 (P.length : Int) = s10 ∧ Hid (At wr gm g2 i (fun j => gs.getD j 0) fd P) ∧ Hid (OwnT wr w.heap.size v P) ∧ Hid (∀ j, v.ownBlock = some j → ¬ All i gm g2 (fun j => gs.getD j 0) j) ∧ Hid (Below lo w wr) ∧ Hid (w1.heap.size ≤ wr.heap.size)) (fun _ s10 _ => q + 1 - (intOf s10).toNat)
      case atStart => exact ⟨[], _, rfl, rfl, HAT, ⟨rfl, .inl ⟨rfl, rfl⟩⟩, (fun j hj => by cases hj), HBL, Nat.le_refl _⟩
      case round =>
        clear HAT
        obtain ⟨P, v, rfl, rfl, HAT, HO, HAP, HB, HW⟩ := hrel
        have hPL : P.length ≤ q := by have h1 := HAT.out.len; have h2 := HSS.out; omega
        obtain ⟨p, hp⟩ : ∃ p, P.length = p := ⟨_, rfl⟩
        rw [hp] at hPL ⊢
        have HPP := hide hp
        clear hp
        have hpi : (p : Int) ≤ (q : Int) := by omega
        have HNX : Hid (Calls Try.prog 12 #[.pointer (some ⟨gm, 0, none⟩)] wr fun e w' => ∃ (tk tn : Int) (b : Bool) (x : Int), e = .returned (.tuple #[.agg #[.int .i64 tk, .int .i64 tn], .bool b, .int .i64 x]) ∧ Tn wr w' (All i gm g2 (fun j => gs.getD j 0)) ∧ ((b = false ∧ Runs fd i P x) ∨ (b = true ∧ At w' gm g2 i (fun j => gs.getD j 0) fd (P ++ [⟨tk, tn⟩])))) := by
          refine (next_at gm g2 i (fun j => gs.getD j 0) fd P wr HAT.out HLEN.out).mono ?_
          rintro e w' ⟨ht, ⟨x, rfl, hr⟩ | ⟨t, rfl, ha⟩⟩
          · exact ⟨0, 0, false, x, rfl, ht, .inl ⟨rfl, hr⟩⟩
          · exact ⟨t.key, t.name, true, 0, rfl, ht, .inr ⟨rfl, ha⟩⟩
        go_upto_region 14 with (go_at_call 12; refine HNX.out.mono ?_; rintro e w4 ⟨tk, tn, b, x, rfl, ht4, ho4⟩; have HT4 := hide ht4; have HO4 := hide ho4; clear ht4 ho4)
        obtain ⟨gx, hgx⟩ : ∃ g, w4.heap.size = g := ⟨_, rfl⟩
        obtain ⟨w5, hw5⟩ : ∃ w5, w4.alloc (.cells #[.int .i64 tk, .int .i64 tn] 36) = w5 := ⟨_, rfl⟩
        have HB5 : Hid (Below w4.heap.size w4 w5) := by rw [← hw5]; exact (Below.refl _ _).alloc (Nat.le_refl _) _
        have HX5 : Hid (w5.heap[gx]? = some (.cells #[.int .i64 tk, .int .i64 tn] 36)) := by rw [← hw5, ← hgx]; exact heap_alloc_new _ _
        have HOW5 : Hid (OwnT w5 w.heap.size v P) := row_same HO.out (fun j hj => (HB5.out.block j (Nat.lt_of_lt_of_le (row_blk HO.out j hj).2 HT4.out.size)).trans (HT4.out.block j (row_blk HO.out j hj).2 (HAP.out j hj)))
        have HBL5 : Hid (Below lo w w5) := ⟨HB5.out.os.trans (HT4.out.os.trans HB.out.os), HB5.out.tape.trans (HT4.out.tape.trans HB.out.tape), HB5.out.output.trans (HT4.out.output.trans HB.out.output), Nat.le_trans HB.out.size (Nat.le_trans HT4.out.size HB5.out.size), fun k hk => (HB5.out.block k (by have := HB.out.size; have := HT4.out.size; omega)).trans ((HT4.out.block k (by have := HB.out.size; omega) (fun h => by have := (HALLO.out k h).1; omega)).trans (HB.out.block k hk))⟩
        have HW5 : Hid (w1.heap.size ≤ w5.heap.size ∧ w.heap.size ≤ w5.heap.size) := ⟨Nat.le_trans HW.out (Nat.le_trans HT4.out.size HB5.out.size), HBL5.out.size⟩
        rw [hw5, hgx]
        clear hw5 HNX
        rcases HO4.out with ⟨rfl, hr⟩ | ⟨rfl, ha⟩
        · have HRR := hide hr
          clear hr HO4
          go_wp2_with fail
          go_ret3
          exact ⟨v, P, x, rfl, by rw [HN.out]; exact HRR.out, HOW5.out, HBL5.out⟩
        · have HAT5 : Hid (At w5 gm g2 i (fun j => gs.getD j 0) fd (P ++ [⟨tk, tn⟩])) := ha.apart (S := fun _ => False) (Tn.of_below _ HB5.out) (fun _ _ h => h) (fun _ _ _ _ _ _ h => h)
          clear ha HO4 hgx
          obtain ⟨x0, x1⟩ := two_of HX5.out
          obtain ⟨g6, hg6⟩ : ∃ g, w5.heap.size = g := ⟨_, rfl⟩
          obtain ⟨w6, hw6⟩ : ∃ w6, w5.alloc (.cells #[.int .i64 tk, .int .i64 tn] 36) = w6 := ⟨_, rfl⟩
          have HB6 : Hid (Below w5.heap.size w5 w6) := by rw [← hw6]; exact (Below.refl _ _).alloc (Nat.le_refl _) _
          have HX6 : Hid (w6.heap[g6]? = some (.cells #[.int .i64 tk, .int .i64 tn] 36)) := by rw [← hw6, ← hg6]; exact heap_alloc_new _ _
          have HOW6 : Hid (OwnT w6 w.heap.size v P) := row_same HOW5.out (fun j hj => HB6.out.block j (row_blk HOW5.out j hj).2)
          have HAT6 : Hid (At w6 gm g2 i (fun j => gs.getD j 0) fd (P ++ [⟨tk, tn⟩])) := HAT5.out.apart (S := fun _ => False) (Tn.of_below _ HB6.out) (fun _ _ h => h) (fun _ _ _ _ _ _ h => h)
          have HBD : Hid ((P.length + 1) * 16 ≤ 140737488355328) := by have h1 := HPP.out; show _ * 16 ≤ _; rw [h1]; omega
          have HS6 : Hid (w.heap.size ≤ w6.heap.size ∧ w1.heap.size ≤ w6.heap.size) := ⟨Nat.le_trans HW5.out.2 HB6.out.size, Nat.le_trans HW5.out.1 HB6.out.size⟩
          have HFIN : Hid (∀ (V : World) (v' : Value) (g7 : Nat), w6.grownBy V v.ownBlock → v'.ownBlock = some g7 → (v.ownBlock = some g7 ∨ g7 = w6.heap.size) → At V gm g2 i (fun j => gs.getD j 0) fd (P ++ [⟨tk, tn⟩]) ∧ (∀ j, v'.ownBlock = some j → ¬ All i gm g2 (fun j => gs.getD j 0) j) ∧ Below lo w V ∧ w1.heap.size ≤ V.heap.size) := fun V v' g7 hg hv' hp7 => by
            have t : Tn w6 V (fun j => v.ownBlock = some j) := ⟨hg.os, hg.tape, hg.output, hg.size, fun j hj q => hg.block j hj (fun e => q e.symm)⟩
            have hlow : ∀ j, v.ownBlock = some j → lo ≤ j := fun j hj => Nat.le_trans hlo (row_blk HOW6.out j hj).1
            refine ⟨HAT6.out.apart t (fun j hj e => HAP.out j e hj) (fun j hj b off e1 e2 e3 => by have h1 := HLOW.out j hj b off e1 e2; have h2 := hlow b e3; omega), fun j hj hall => ?_, ?_, Nat.le_trans HS6.out.2 hg.size⟩
            · rw [hv'] at hj
              obtain rfl : g7 = j := Option.some.inj hj
              rcases hp7 with e | e
              · exact HAP.out g7 e hall
              · have h1 := (HALLO.out g7 hall).2; have h2 := HS6.out.2; omega
            · exact ⟨hg.os.trans (HB6.out.os.trans HBL5.out.os), hg.tape.trans (HB6.out.tape.trans HBL5.out.tape), hg.output.trans (HB6.out.output.trans HBL5.out.output), Nat.le_trans HS6.out.1 hg.size, fun k hk => (hg.block k (by have := HS6.out.1; omega) (fun e => by have := hlow k e.symm; omega)).trans ((HB6.out.block k (by have := HW5.out.2; omega)).trans (HBL5.out.block k hk))⟩
          go_wp2_with (at_builtin; refine pushTh _ rfl _ _ rfl w.heap.size v P rfl HOW6.out g6 ⟨tk, tn⟩ rfl HX6.out HBD.out HS6.out.1 ?_; intro g7 c7 w7 hr7 hg7 hv7; have HR7 := hide hr7; have HF7 := hide (HFIN.out w7 (.slice (some ⟨g7, 0, none⟩) (P.length + 1) c7) g7 hg7 rfl hv7); clear hr7 hg7 hv7)
          go_roundw
          case rel =>
            refine ⟨P ++ [(⟨tk, tn⟩ : Th)], _, rfl, ?_, hide HF7.out.1, HR7, hide HF7.out.2.1, hide HF7.out.2.2.1, hide HF7.out.2.2.2⟩
            rw [List.length_append, List.length_singleton, HPP.out]
            go_num
          case measure => simp [intOf]; omega
end Go.Proofs.Ytoobgocnooeojaa.Me
