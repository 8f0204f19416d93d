/-
  Lists that were told: each holds its own mark yet, when all have been added to once more.
-/
import Derived.Test.YtlbplicafcoifaaSoTail
import Derived.Test.YtlbplicafcoifaaSoMerged
namespace Go.Proofs.Ytlbplicafcoifaa.So
open Go.ChangeShapes Go.WideShapes Go.ChangeAt Go.RowKit
open Go.Proofs.Ytlbplicafcoifaa.Base
set_option linter.unusedVariables false
/-- A list that was told, and its mark. -/
structure Tl where
  v : Value
  n : Nat
  mark : Int
def tl0 : Tl := ⟨.slice none 0 0, 0, 0⟩
/-- It is written full with its mark. -/
def Tl.ok (w : World) (lo : Nat) (t : Tl) : Prop := OwnR w lo t.v (List.replicate t.n (ovR t.mark))
/-- The slice reads as such lists. -/
def RdT (w : World) (a : Option Addr) (m : Nat) (ts : List Tl) : Prop :=
  ts.length = m ∧ (0 < m → ∃ b off, a = some ⟨b, off, none⟩ ∧ b < w.heap.size ∧ ∀ j, j < m → w.cell? ⟨b, off + j * 2, none⟩ = some (ts.getD j tl0).v ∧ w.cell? ⟨b, off + j * 2 + 1, none⟩ = some (.int .i64 (ts.getD j tl0).mark))
/-- Only the told lists' blocks have turned. -/
structure KT (w w' : World) (m : Nat) (ts : List Tl) : Prop where
  os : w'.os = w.os
  tape : w'.tape = w.tape
  output : w'.output = w.output
  size : w.heap.size ≤ w'.heap.size
  block : ∀ i, i < w.heap.size → (∀ j, j < m → (ts.getD j tl0).v.ownBlock ≠ some i) → w'.heap[i]? = w.heap[i]?
theorem KT.refl (w : World) (m : Nat) (ts : List Tl) : KT w w m ts := ⟨rfl, rfl, rfl, Nat.le_refl _, fun _ _ _ => rfl⟩
theorem KT.below {w w1 w2 : World} {m : Nat} {ts : List Tl} (h : KT w w1 m ts) (hb : Below w1.heap.size w1 w2) : KT w w2 m ts :=
  ⟨hb.os.trans h.os, hb.tape.trans h.tape, hb.output.trans h.output, Nat.le_trans h.size hb.size, fun i hi q => (hb.block i (Nat.lt_of_lt_of_le hi h.size)).trans (h.block i hi q)⟩
theorem KT.grown {w w1 w2 : World} {m : Nat} {ts : List Tl} (h : KT w w1 m ts) {q : Option Nat} (hg : w1.grownBy w2 q) (hq : ∀ i, q = some i → ∃ j, j < m ∧ (ts.getD j tl0).v.ownBlock = some i) : KT w w2 m ts :=
  ⟨hg.os.trans h.os, hg.tape.trans h.tape, hg.output.trans h.output, Nat.le_trans h.size hg.size, fun i hi p => (hg.block i (Nat.lt_of_lt_of_le hi h.size) (fun e => by obtain ⟨j, h1, h2⟩ := hq i e.symm; exact p j h1 h2)).trans (h.block i hi p)⟩
/-- A list of the call's own whose first cells stay. -/
theorem own_pre {w w' : World} {lo g n c : Nat} {rs : List Rec} (h : OwnR w lo (.slice (some ⟨g, 0, none⟩) n c) rs) (hp : Pre w w' g (n * 3)) : OwnR w' lo (.slice (some ⟨g, 0, none⟩) n c) rs := by
  obtain ⟨h1, h2⟩ := h
  refine ⟨h1, ?_⟩
  rcases h2 with ⟨h2, _⟩ | ⟨g', cap, cur, e1, e2, e3, e4, e5, e6, e7⟩
  · cases h2
  · simp only [Value.slice.injEq, Option.some.injEq, Addr.mk.injEq] at e1
    obtain ⟨⟨rfl, _⟩, hn, rfl⟩ := e1
    obtain ⟨cur', k1, k2, k3⟩ := hp cur e3
    refine .inr ⟨g, c, cur', by rw [hn], e2, k1, e4, e5, by omega, ?_⟩
    rw [← e7]
    apply List.ext_getElem?
    intro j
    by_cases hj : j < rs.length * 3
    · rw [List.getElem?_take_of_lt hj, List.getElem?_take_of_lt hj, Array.getElem?_toList, Array.getElem?_toList]
      exact k3 j (by omega)
    · rw [List.getElem?_eq_none (by rw [List.length_take]; omega), List.getElem?_eq_none (by rw [List.length_take]; omega)]
theorem cell_same {w w' : World} {b o : Nat} (h : w'.heap[b]? = w.heap[b]?) : w'.cell? ⟨b, o, none⟩ = w.cell? ⟨b, o, none⟩ := by
  unfold World.cell?
  simp only [h]
/-- What lies behind it. -/
theorem tail_cut (g n c : Nat) (h : n ≤ c) : ∃ a' : Option Addr, (∀ W, (Instr.sliceAt 38 (.slice (some ⟨g, 0, none⟩) n c) (some (.int .i64 (n : Int))) none none).run Try.prog W = .ok (.slice a' 0 (c - n)) W) ∧ (0 < c - n → a' = some ⟨g, n * 3, none⟩) := by
  obtain ⟨la, h1, h2, _⟩ := cutR_l ⟨g, 0, none⟩ rfl n c n (Nat.le_refl _) h
  refine ⟨some la, fun W => ?_, fun hp => ?_⟩
  · have := h1 W; rw [Nat.sub_self] at this; exact this
  · rw [h2 (by omega)]; simp
theorem getD_rep (n k : Nat) (x d : Rec) (h : k < n) : (List.replicate n x).getD k d = x := by
  rw [List.getD_eq_getElem?_getD, List.getElem?_replicate]
  simp [h]
theorem tn_le {w : World} {lo tn : Nat} {v : Value} {x : Rec} (h : OwnR w lo v (List.replicate tn x)) : tn ≤ 9223372036854775807 := by
  rcases h.2 with ⟨_, h2⟩ | ⟨g, cap, cur, e1, e2, e3, e4, e5, e6, e7⟩
  · simp at h2; omega
  · simp at e4; unfold maxLen at e5; omega
set_option maxHeartbeats 8000000 in
set_option maxRecDepth 100000 in
theorem whole_any (lo : Nat) (a : Option Addr) (m c : Nat) (ts : List Tl) (w : World) (hR : RdT w a m ts) (hO : ∀ j, j < m → (ts.getD j tl0).ok w lo) (hap : ∀ i j, i < m → j < m → i ≠ j → ∀ b, (ts.getD i tl0).v.ownBlock = some b → (ts.getD j tl0).v.ownBlock ≠ some b)
    (hrow : ∀ j, j < m → ∀ b off, a = some ⟨b, off, none⟩ → (ts.getD j tl0).v.ownBlock ≠ some b) (hm : m ≤ 140737488355328) (hlo : lo ≤ w.heap.size) :
    Calls Try.prog 16 #[.slice a m c] w fun e w' => e = .returned (.bool true) ∧ (∀ j, j < m → (ts.getD j tl0).ok w' lo) ∧ KT w w' m ts := by
  have HR := hide hR
  have HO := hide hO
  have HAP := hide hap
  have HRW := hide hrow
  clear hR hO hap hrow
  go_enter Try.func16, Try.ntmps16
  go_wp2_with fail
  go_loopw [3] (fun si wr => ∃ i : Nat, i ≤ m ∧ .int .i64 (i : Int) = si ∧ Hid (RdT wr a m ts) ∧ Hid (∀ j, j < m → (ts.getD j tl0).ok wr lo) ∧ Hid (KT w wr m ts)) (fun si _ => m - (intOf si).toNat)
  case atStart => exact ⟨0, by omega, rfl, HR, HO, KT.refl _ _ _⟩
  case round =>
    clear HR HO
    obtain ⟨i, hi, rfl, HR, HO, HK⟩ := hrel
    by_cases hin : i < m
    · have hii : (i : Int) < (m : Int) := by omega
      obtain ⟨b, off, rfl, hbl, hcs⟩ := HR.out.2 (by omega)
      obtain ⟨c0, c1⟩ := hcs i hin
      have HOI := hide (HO.out i hin)
      have HRI : Hid ((ts.getD i tl0).v.ownBlock ≠ some b) := HRW.out i hin b off rfl
      have HAI : Hid (∀ j, j < m → j ≠ i → ∀ x, (ts.getD i tl0).v.ownBlock = some x → (ts.getD j tl0).v.ownBlock ≠ some x) := fun j hj hne x h1 => HAP.out i j hin hj (fun e => hne e.symm) x h1
      have HIX : Hid (∀ x, (ts.getD i tl0).v.ownBlock = some x → ∃ j, j < m ∧ (ts.getD j tl0).v.ownBlock = some x) := fun x h => ⟨i, hin, h⟩
      have HCS := hide hcs
      have HTI : Hid (∀ W, OwnR W lo (ts.getD i tl0).v (List.replicate (ts.getD i tl0).n (ovR (ts.getD i tl0).mark)) → (ts.getD i tl0).ok W lo) := fun W h => h
      unfold Tl.ok at HOI
      generalize hti : ts.getD i tl0 = t at c0 c1 HOI HRI HAI HIX HTI
      have HTE := hide hti
      clear hcs hti c1
      obtain ⟨tv, tn, tm⟩ := t
      simp only at c0 HOI HRI HAI HIX HTI
      obtain ⟨la, lc, hsh, hlc⟩ := own_shape HOI.out
      rw [List.length_replicate] at hsh hlc
      subst hsh
      have B0 : Hid (Below wr.heap.size wr wr.drew) := (Below.refl _ _).drew
      -- behind the call: what each way of it leaves
      have HEND : Hid (∀ W : World, wr.drew.grownBy W (Value.slice la tn lc).ownBlock → OwnR W lo (.slice la tn lc) (List.replicate tn (ovR tm)) → RdT W (some ⟨b, off, none⟩) m ts ∧ (∀ j, j < m → (ts.getD j tl0).ok W lo) ∧ KT w W m ts) := fun W hg how => by
        refine ⟨⟨HR.out.1, fun _ => ⟨b, off, rfl, Nat.lt_of_lt_of_le hbl hg.size, fun j hj => ?_⟩⟩, fun j hj => ?_, (HK.out.below B0.out).grown hg (fun x e => HIX.out x e)⟩
        · obtain ⟨x0, x1⟩ := HCS.out j hj
          have hblk : W.heap[b]? = wr.heap[b]? := hg.block b hbl (fun e => HRI.out e.symm)
          exact ⟨(cell_same hblk).trans x0, (cell_same hblk).trans x1⟩
        · by_cases e : j = i
          · subst e
            rw [HTE.out]
            exact how
          · have h1 := HO.out j hj
            unfold Tl.ok at h1 ⊢
            exact h1.same (fun x hx => hg.block x (h1.blk x hx).2 (fun e2 => HAI.out j hj e x e2.symm hx))
      rcases HOI.out.2 with ⟨hq, hn0⟩ | ⟨g, cap', cur, hq, hlg, hcu, hnc, hcm, hcz, _⟩
      · simp only [Value.slice.injEq] at hq
        obtain ⟨rfl, rfl, rfl⟩ := hq
        have hsl : ∀ W, (Instr.sliceAt 38 (.slice none 0 0) (some (.int .i64 0)) none none).run Try.prog W = .ok (.slice none 0 0) W := fun W => by
          obtain ⟨a', q1, _, _⟩ := cutR_any none 0 0 0 (Nat.le_refl _) (Nat.le_refl _) (fun _ => ⟨rfl, rfl⟩)
          rw [run_sliceAt_slice (h := elR), run_slice_l (ht := elR) (h0 := by omega) (h1 := by omega), szR]
          rfl
        have HSP := hide (spoil_any wr.drew.heap.size none 0 0 [] 5 wr.drew (own_nil _ _) (Nat.le_refl _) (by omega) (by omega) (by omega))
        go_wp2_with fail
        go_region_held_law (fun V => V.cell? ⟨b, off + i * 2, none⟩ = some (.slice none 0 0)) (first | exact E6.out | go_keep) (first
          | (go_at_call 11; refine HSP.out.mono ?_; rintro e w6 ⟨rfl, hg6⟩; have HG6 := hide hg6; have E6 : Hid (w6.cell? ⟨b, off + i * 2, none⟩ = some (.slice none 0 0)) := (cell_same (hg6.block b hbl (by simp [Value.ownBlock]))).trans c0; clear hg6))
        all_goals
          go_wp2_with fail
          go_roundw
          case rel =>
            obtain ⟨r1, r2, r3⟩ := HEND.out w6 HG6.out (own_nil _ _)
            exact ⟨i + 1, by omega, by go_num, r1, r2, r3⟩
          case measure => simp [intOf]; omega
      · simp only [Value.slice.injEq] at hq
        obtain ⟨rfl, hnn, rfl⟩ := hq
        rw [List.length_replicate] at hnc
        obtain ⟨a', hsl, ha'⟩ := tail_cut g tn lc hlc
        have HSP := hide (spoil_tail g tn (lc - tn) a' 5 wr.drew ha' (lt_row hcu) (fun _ => ⟨cur, hcu, by omega⟩) (by omega) (by omega))
        have HNB : Hid (g ≠ b) := fun e => HRI.out (by rw [e]; rfl)
        clear ha' hcu hcz hcm hlg hnn hnc
        go_wp2_with fail
        go_region_held_law (fun V => V.cell? ⟨b, off + i * 2, none⟩ = some (.slice (some ⟨g, 0, none⟩) tn lc)) (first | exact E6.out | go_keep) (first
          | (go_at_call 11; refine HSP.out.mono ?_; rintro e w6 ⟨rfl, hg6, hp6⟩; have HG6 := hide hg6; have HP6 := hide hp6; have E6 : Hid (w6.cell? ⟨b, off + i * 2, none⟩ = some (.slice (some ⟨g, 0, none⟩) tn lc)) := (cell_same (hg6.block b hbl (by simpa using fun e => HNB.out e.symm))).trans c0; clear hg6 hp6))
        all_goals
          go_wp2_with fail
          go_roundw
          case rel =>
            obtain ⟨r1, r2, r3⟩ := HEND.out w6 HG6.out (own_pre (HOI.out.below B0.out) HP6.out)
            exact ⟨i + 1, by omega, by go_num, r1, r2, r3⟩
          case measure => simp [intOf]; omega
    · obtain rfl : i = m := by omega
      obtain ⟨W1, hW1⟩ : ∃ W1, W1 = wr := ⟨_, rfl⟩
      rw [← hW1] at HR HO HK
      have HW1 := hide hW1
      clear hW1
      go_wp2_with fail
      go_loopw [4] (fun sj wx => ∃ j : Nat, j ≤ i ∧ .int .i64 (j : Int) = sj ∧ Hid (Below W1.heap.size W1 wx)) (fun sj _ => i - (intOf sj).toNat)
      case atStart => exact ⟨0, by omega, rfl, by rw [HW1.out]; exact Below.refl _ _⟩
      case round =>
        obtain ⟨j, hj, rfl, HB⟩ := hrel
        by_cases hjn : j < i
        · have hjj : (j : Int) < (i : Int) := by omega
          obtain ⟨b, off, rfl, hbl, hcs⟩ := HR.out.2 (by omega)
          obtain ⟨c0, c1⟩ := hcs j hjn
          have HOJ := hide (HO.out j hjn)
          unfold Tl.ok at HOJ
          generalize ts.getD j tl0 = t at c0 c1 HOJ
          clear hcs
          obtain ⟨tv, tn, tm⟩ := t
          simp only at c0 c1 HOJ
          obtain ⟨la, lc, hsh, hlc⟩ := own_shape HOJ.out
          have HTN : Hid (tn ≤ 9223372036854775807) := by
            have h1 := HOJ.out
            exact tn_le h1
          rw [List.length_replicate] at hsh hlc
          subst hsh
          have HX := hide (own_rdr HOJ.out)
          clear HOJ
          have HC0 := hide c0
          have HC1 := hide c1
          clear c0 c1
          go_wp2_with fail
          go_loopw [5] (fun sk wy => ∃ k : Nat, k ≤ tn ∧ .int .i64 (k : Int) = sk ∧ Hid (Below W1.heap.size W1 wy)) (fun sk _ => tn - (intOf sk).toNat)
          case atStart => exact ⟨0, by omega, rfl, HB⟩
          case round =>
            clear HB
            obtain ⟨k, hk, rfl, HB⟩ := hrel
            have r0 := (HB.out.cell (p := ⟨b, off + j * 2, none⟩) hbl).trans HC0.out
            have r1 := (HB.out.cell (p := ⟨b, off + j * 2 + 1, none⟩) hbl).trans HC1.out
            by_cases hkn : k < tn
            · have hkk : (k : Int) < (tn : Int) := by omega
              have htn := HTN.out
              obtain ⟨b1, o1, rfl, hl1, hc1⟩ := HX.out.2 (by omega)
              obtain ⟨d0, d1, d2⟩ := hc1 k hkn
              rw [getD_rep _ _ _ _ hkn] at d0 d1 d2
              have p0 := (HB.out.cell (p := ⟨b1, o1 + k * 3, none⟩) hl1).trans d0
              have p1 := (HB.out.cell (p := ⟨b1, o1 + k * 3 + 1, none⟩) hl1).trans d1
              have p2 := (HB.out.cell (p := ⟨b1, o1 + k * 3 + 2, none⟩) hl1).trans d2
              unfold ovR at p0 p1 p2
              simp only at p0 p1 p2
              clear hc1 d0 d1 d2
              go_wp2_with fail
              go_quiet (fail)
              go_wp2_with fail
              go_roundw
              case rel => exact ⟨k + 1, by omega, by go_num, below_trans HB.out (below_drewN' _ _ _)⟩
              case measure => simp [intOf]; omega
            · obtain rfl : k = tn := by omega
              go_wp2_with fail
              go_roundw
              case rel => exact ⟨j + 1, by omega, by go_num, HB.out⟩
              case measure => simp [intOf]; omega
        · obtain rfl : j = i := by omega
          go_wp2_with fail
          go_ret
          exact ⟨rfl, fun x hx => by have h1 := HO.out x hx; unfold Tl.ok at h1 ⊢; exact h1.below HB.out, HK.out.below HB.out⟩
end Go.Proofs.Ytlbplicafcoifaa.So
