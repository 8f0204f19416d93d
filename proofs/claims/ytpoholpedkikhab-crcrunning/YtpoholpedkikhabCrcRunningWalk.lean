/-
  The walk of the statement CrcRunning.
-/
import Derived.Test.YtpoholpedkikhabCrcRunBeyond
import Derived.Test.YtpoholpedkikhabCrcMem
import Derived.Test.YtpoholpedkikhabCrcFrame
import Derived.Deep.DeepCutAuto
import Derived.Deep.CutRange
import Derived.Deep.CutBlock
import Derived.Deep.RegionHeld
namespace Go.Proofs.Ytpoholpedkikhab.crcRunning
open Go.ChangeShapes Go.WideShapes Go.ChangeAt Go.RowKit
open Go.Proofs.Ytpoholpedkikhab.Crc Go.Proofs.Ytpoholpedkikhab.Run
set_option linter.unusedVariables false
theorem Rd.cut' {w : World} {a : Option Addr} {len : Nat} {bs : List (BitVec 8)} (h : Rd w a len bs) (m : Nat) (hm : m ≤ len) : Rd w a m (bs.take m) := Base.Rd.cut (show Base.Rd w a len bs from h) m hm
theorem Off.updV {gr gq m : Nat} {p q : Nat → Nat} {v : Nat → Value} {r : Option Nat} {u : Value} (h : Off gr gq p q v r) (hu : ∀ b, u.ownBlock = some b → r ≠ some b) : Off gr gq p q (upd v m u) r := by
  refine ⟨h.1, h.2.1, fun j hj => ⟨(h.2.2 j hj).1, (h.2.2 j hj).2.1, fun b hb => ?_⟩⟩
  by_cases e : j = m
  · subst e; rw [upd_same] at hb; exact hu b hb
  · rw [upd_other _ _ _ _ e] at hb; exact (h.2.2 j hj).2.2 b hb
theorem Off.updP {gr gq m g : Nat} {p q : Nat → Nat} {v : Nat → Value} {r : Option Nat} (h : Off gr gq p q v r) (hu : r ≠ some g) : Off gr gq (upd p m g) q v r := by
  refine ⟨h.1, h.2.1, fun j hj => ⟨?_, (h.2.2 j hj).2.1, (h.2.2 j hj).2.2⟩⟩
  by_cases e : j = m
  · subst e; rw [upd_same]; exact hu
  · rw [upd_other _ _ _ _ e]; exact (h.2.2 j hj).1
theorem Off.updQ {gr gq m g : Nat} {p q : Nat → Nat} {v : Nat → Value} {r : Option Nat} (h : Off gr gq p q v r) (hu : r ≠ some g) : Off gr gq p (upd q m g) v r := by
  refine ⟨h.1, h.2.1, fun j hj => ⟨(h.2.2 j hj).1, ?_, (h.2.2 j hj).2.2⟩⟩
  by_cases e : j = m
  · subst e; rw [upd_same]; exact hu
  · rw [upd_other _ _ _ _ e]; exact (h.2.2 j hj).2.1
theorem len_upd {X : Nat → List (BitVec 8)} {m T T' : Nat} {L : List (BitVec 8)} (h : (X 0).length ≤ T ∧ (X 1).length ≤ T) (hT : T ≤ T') (hL : L.length ≤ T') : (upd X m L 0).length ≤ T' ∧ (upd X m L 1).length ≤ T' := by
  constructor
  · by_cases e : 0 = m
    · subst e; rw [upd_same]; exact hL
    · rw [upd_other _ _ _ _ e]; omega
  · by_cases e : 1 = m
    · subst e; rw [upd_same]; exact hL
    · rw [upd_other _ _ _ _ e]; omega
theorem len_at {X : Nat → List (BitVec 8)} {m T : Nat} (h : (X 0).length ≤ T ∧ (X 1).length ≤ T) (hm : m < 2) : (X m).length ≤ T := by
  rcases m with _ | _ | m
  · exact h.1
  · exact h.2
  · omega
theorem Kept2.after {w0 w w' : World} {p q : Option Nat} (hb : Below w0.heap.size w0 w) (h : Base.Kept2 w w' p q) : Base.Kept2 w0 w' p q :=
  ⟨h.os.trans hb.os, h.tape.trans hb.tape, h.output.trans hb.output, Nat.le_trans hb.size h.size, fun i hi hp hq => (h.block i (Nat.lt_of_lt_of_le hi hb.size) hp hq).trans (hb.block i hi)⟩
theorem grown_after {w0 w w' : World} {r : Option Nat} (hb : Below w0.heap.size w0 w) (h : w.grownBy w' r) : w0.grownBy w' r :=
  ⟨h.os.trans hb.os, h.tape.trans hb.tape, h.output.trans hb.output, Nat.le_trans hb.size h.size, fun i hi hp => (h.block i (Nat.lt_of_lt_of_le hi hb.size) hp).trans (hb.block i hi)⟩
theorem kept_of_grown {w w' : World} {g : Nat} (h : w.grownBy w' (some g)) (q : Option Nat) : Base.Kept2 w w' (some g) q := ⟨h.os, h.tape, h.output, h.size, fun i hi hp _ => h.block i hi hp⟩
theorem own_kept {w w' : World} {base : Nat} {v : Value} {bs : List (BitVec 8)} {p q : Option Nat} (h : Own w base v bs) (k : Base.Kept2 w w' p q) (hp : ∀ i, v.ownBlock = some i → p ≠ some i) (hq : ∀ i, v.ownBlock = some i → q ≠ some i) : Own w' base v bs :=
  Base.Own.kept2 (show Base.Own w base v bs from h) k hp hq
theorem kept_cell {w w' : World} {p q : Option Nat} {a : Addr} {x : Value} (k : Base.Kept2 w w' p q) (h : w.cell? a = some x) (h1 : some a.block ≠ p) (h2 : some a.block ≠ q) : w'.cell? a = some x :=
  (World.cell?_of_block (k.block a.block (World.block_lt_of_cell? w a h) h1 h2)).trans h
theorem runs_grow {w : World} {g : Nat} {A B : List (BitVec 8)} {n : Nat} (h : Runs w g (extend (sum A) B) n) : Runs w g (sum (A ++ B)) n := by rw [sum_append]; exact h
theorem padded_rd {w : World} {base gf xl : Nat} {B : List (BitVec 8)} (h : Own w base (.slice (some ⟨gf, 0, none⟩) (xl + 64) (xl + 64)) (padded B)) (hl : B.length = xl) (hx : xl ≤ 140737488351232) : Rd w (some ⟨gf, 0, none⟩) xl B := by
  have h1 := Rd.cut' (h.rd (by rw [length_padded]; omega)) xl (by omega)
  have e : (padded B).take xl = B := by subst hl; simp [padded]
  rw [e] at h1
  exact h1
def two {α : Type} (a b : α) : Nat → α := fun j => if j = 0 then a else b
theorem ActsAt.below {w w' : World} {a : Option Addr} {len : Nat} {op who : Nat → Int} {sa : Nat → Option Addr} {sl sc : Nat → Nat} (h : ActsAt w a len op who sa sl sc) (hb : Below w.heap.size w w') : ActsAt w' a len op who sa sl sc := by
  intro hp
  obtain ⟨b, off, rfl, hlt, hc⟩ := h hp
  refine ⟨b, off, rfl, Nat.lt_of_lt_of_le hlt hb.size, fun i hi => ?_⟩
  obtain ⟨c0, c1, c2⟩ := hc i hi
  exact ⟨by rw [hb.cell (p := ⟨b, off + i * 3, none⟩) hlt]; exact c0, by rw [hb.cell (p := ⟨b, off + i * 3 + 1, none⟩) hlt]; exact c1, by rw [hb.cell (p := ⟨b, off + i * 3 + 2, none⟩) hlt]; exact c2⟩
set_option maxHeartbeats 4000000 in
set_option maxRecDepth 100000 in
theorem walk (a : Option Addr) (len cap : Nat) (op who : Nat → Int) (sa : Nat → Option Addr) (sl sc : Nat → Nat) (bs : Nat → List (BitVec 8)) (w : World) (h : ActsAt w a len op who sa sl sc) (hm : len ≤ 140737488351232)
    (hs : ∀ i, i < len → Rd w (sa i) (sl i) (bs i) ∧ sl i ≤ sc i ∧ sc i ≤ 140737488351232 ∧ (sa i = none → sl i = 0 ∧ sc i = 0)) :
    Calls Try.prog 6 #[.slice a len cap] w fun e w' => e = .returned (.bool true) ∧ Below w.heap.size w w' := by
  have H := hide h
  have HS := hide hs
  have hbz := beyond_any a len cap op who sa sl sc w h (fun i hi => by have := hs i hi; omega) hm
  have HBZ := hide hbz
  clear h hs hbz
  go_enter Try.func6, Try.ntmps6
  go_wp2_with fail
  refine HBZ.out.mono ?_
  rintro e w1 ⟨rfl, hw1⟩
  by_cases hbig : 2147483647 < tot sl len
  · rw [decide_eq_true hbig]
    have HW := hide hw1
    clear hw1
    go_wp2
    go_ret
    exact ⟨rfl, by rw [HW.out]; exact Below.refl _ _⟩
  · rw [decide_eq_false hbig]
    have htot : tot sl len ≤ 2147483647 := by omega
    obtain ⟨HB1⟩ : Hid (Below w.heap.size w w1) ∧ True := ⟨by rw [hw1]; exact Below.refl _ _, trivial⟩
    clear hw1 hbig HBZ
    go_wp2_with fail
    refine (write_nil _ _ _ _).mono ?_
    rintro e w2 ⟨rfl, rfl⟩
    go_wp2_with fail
    refine (reset_nil _).mono ?_
    rintro e w2 ⟨rfl, rfl⟩
    have hs1 := HB1.out.size
    have HBa : Hid (Below w.heap.size w (w1.alloc (.cells #[.int .u8 1] 5))) := HB1.out.alloc hs1 _
    go_wp2_with fail
    refine (new_any _).mono ?_
    rintro e w3 ⟨p0, rfl, hp0, hr, hb⟩
    have HR0 := hide hr
    have HB3 := hide (below_trans HBa.out hb)
    have hl0 : p0 < w3.heap.size := hr.lt
    have hp0' : w.heap.size ≤ p0 := by rw [hp0]; exact HBa.out.size
    clear hr hb hp0 HBa
    go_wp2_with fail
    have HR1 : Hid (Runs (w3.alloc (.cells #[.int .u32 0, .int .i64 0] 69)) w3.heap.size (BitVec.ofNat 32 0) 0) := heap_alloc_new _ _
    have hs3 : w.heap.size ≤ w3.heap.size := HB3.out.size
    have HB4 : Hid (Below w.heap.size w ((w3.alloc (.cells #[.int .u32 0, .int .i64 0] 69)).alloc (.cells #[ptr p0, ptr w3.heap.size] 70))) := (HB3.out.alloc hs3 _).alloc (by simp; omega) _
    have HRA : Hid (Row2 ((w3.alloc (.cells #[.int .u32 0, .int .i64 0] 69)).alloc (.cells #[ptr p0, ptr w3.heap.size] 70)) 70 (w3.heap.size + 1) (two p0 w3.heap.size)) := by
      have h := heap_alloc_new (w3.alloc (.cells #[.int .u32 0, .int .i64 0] 69)) (.cells #[ptr p0, ptr w3.heap.size] 70)
      show _ = _
      rw [show w3.heap.size + 1 = (w3.alloc (.cells #[.int .u32 0, .int .i64 0] 69)).heap.size by simp]
      exact h
    refine (refNew_any _ w.heap.size).mono ?_
    rintro e w4 ⟨q0, rfl, hq0, hr, hb, hz4⟩
    have HQ0 := hide hr
    have HB5 := hide (below_trans HB4.out hb)
    have HBx := hide hb
    simp at hq0 hz4
    have HE0 := hide hq0
    have HE4 := hide hz4
    clear hr hb hq0 hz4
    go_wp2_with fail
    refine (refNew_any _ w.heap.size).mono ?_
    rintro e w5 ⟨q1, rfl, hq1, hr, hb, hz5⟩
    have HQ1 := hide hr
    have HB6 := hide (below_trans HB5.out hb)
    have HBy := hide hb
    clear hr hb
    have hq0 := HE0.out
    have hz4 := HE4.out
    have HB37 : Hid (Below w3.heap.size w3 (w5.alloc (.cells #[ptr q0, ptr q1] 73))) := by
      have b1 : Below w3.heap.size w3 (w3.alloc (.cells #[.int .u32 0, .int .i64 0] 69)) := (Below.refl _ _).alloc (Nat.le_refl _) _
      have b2 := b1.alloc (by simp) (.cells #[ptr p0, ptr w3.heap.size] 70)
      exact (below_trans b2 (below_trans HBx.out HBy.out)).alloc (by rw [hz5, hz4]; omega) _
    have HB17 : Hid (Below (w3.alloc (.cells #[.int .u32 0, .int .i64 0] 69)).heap.size (w3.alloc (.cells #[.int .u32 0, .int .i64 0] 69)) (w5.alloc (.cells #[ptr q0, ptr q1] 73))) := by
      have b2 : Below _ _ ((w3.alloc (.cells #[.int .u32 0, .int .i64 0] 69)).alloc (.cells #[ptr p0, ptr w3.heap.size] 70)) := (Below.refl _ (w3.alloc (.cells #[.int .u32 0, .int .i64 0] 69))).alloc (Nat.le_refl _) _
      exact (below_trans b2 (below_trans HBx.out HBy.out)).alloc (by rw [hz5, hz4]; simp) _
    have HB27 : Hid (Below ((w3.alloc (.cells #[.int .u32 0, .int .i64 0] 69)).alloc (.cells #[ptr p0, ptr w3.heap.size] 70)).heap.size ((w3.alloc (.cells #[.int .u32 0, .int .i64 0] 69)).alloc (.cells #[ptr p0, ptr w3.heap.size] 70)) (w5.alloc (.cells #[ptr q0, ptr q1] 73))) :=
      (below_trans HBx.out HBy.out).alloc (by rw [hz5, hz4]; simp) _
    have HB47 : Hid (Below w4.heap.size w4 (w5.alloc (.cells #[ptr q0, ptr q1] 73))) := HBy.out.alloc (by omega) _
    have HB57 : Hid (Below w5.heap.size w5 (w5.alloc (.cells #[ptr q0, ptr q1] 73))) := (Below.refl _ _).alloc (Nat.le_refl _) _
    have HST : Hid (St (w5.alloc (.cells #[ptr q0, ptr q1] 73)) w.heap.size (w3.heap.size + 1) w5.heap.size (two p0 w3.heap.size) (two q0 q1) (fun _ => .slice none 0 0) (fun _ => []) (fun _ => [])) := by
      refine ⟨HRA.out.grown (Crc.below_grown HB27.out) (by simp), heap_alloc_new _ _, fun j hj => ?_, fun j hj => ?_⟩
      · show Runs _ _ (sum []) 0
        rw [sum_none]
        by_cases e : j = 0
        · subst e; exact HR0.out.below HB37.out
        · have e1 : j = 1 := by omega
          subst e1; exact HR1.out.below HB17.out
      · by_cases e : j = 0
        · subst e; exact HQ0.out.grown (Crc.below_grown HB47.out) (by simp) (fun b hb => by cases hb)
        · have e1 : j = 1 := by omega
          subst e1; exact HQ1.out.grown (Crc.below_grown HB57.out) (by simp) (fun b hb => by cases hb)
    have HAP : Hid (Apart w.heap.size (w3.heap.size + 1) w5.heap.size (two p0 w3.heap.size) (two q0 q1) (fun _ => .slice none 0 0)) := by
      have t0 : ∀ {α : Type} (a b : α), two a b 0 = a := fun a b => rfl
      have t1 : ∀ {α : Type} (a b : α), two a b 1 = b := fun a b => rfl
      have cs : ∀ j, j < 2 → j = 0 ∨ j = 1 := fun j hj => by omega
      refine ⟨by omega, fun j hj => ?_, fun i hi j hj => ?_, fun i hi j hj hij => ?_, fun i hi j hj hij => ?_, fun j hj b hb => (by cases hb), fun i hi j hj hij b hb => (by cases hb), by omega, by omega, fun j hj => ?_⟩
      · rcases cs j hj with rfl | rfl
        · simp only [t0]; omega
        · simp only [t1]; omega
      · rcases cs i hi with rfl | rfl <;> rcases cs j hj with rfl | rfl <;> simp only [t0, t1] <;> omega
      · rcases cs i hi with rfl | rfl <;> rcases cs j hj with rfl | rfl <;> simp only [t0, t1] <;> omega
      · rcases cs i hi with rfl | rfl <;> rcases cs j hj with rfl | rfl <;> simp only [t0, t1] <;> omega
      · rcases cs j hj with rfl | rfl
        · simp only [t0]; omega
        · simp only [t1]; omega
    have HB7 : Hid (Below w.heap.size w (w5.alloc (.cells #[ptr q0, ptr q1] 73))) := HB6.out.alloc HB6.out.size _
    clear HB37 HB17 HB27 HB47 HB57 HRA HR0 HR1 HQ0 HQ1 HBx HBy HB1 HB3 HB4 HB5 hq0 hz4 hq1 hz5 HE0 HE4
    go_wp2_with fail
    obtain ⟨gr, hgr⟩ : ∃ gr, gr = w3.heap.size + 1 := ⟨_, rfl⟩
    obtain ⟨gq, hgq⟩ : ∃ gq, gq = w5.heap.size := ⟨_, rfl⟩
    rw [← hgr, ← hgq] at HST HAP ⊢
    clear hgr hgq hl0 hp0' hs3 hs1
    go_loopw [6] (fun i wr => ∃ (k : Nat) (p q : Nat → Nat) (v : Nat → Value) (X : Nat → List (BitVec 8)), k ≤ len ∧ i = .int .i64 (k : Int) ∧ Hid (St wr w.heap.size gr gq p q v X X) ∧ Hid (Apart w.heap.size gr gq p q v) ∧ Hid (Below w.heap.size w wr) ∧ Hid ((X 0).length ≤ tot sl k ∧ (X 1).length ≤ tot sl k)) (fun i _ => len - (intOf i).toNat)
    case atStart => exact ⟨0, _, _, _, _, Nat.zero_le _, rfl, HST, HAP, HB7, ⟨Nat.le_refl _, Nat.le_refl _⟩⟩
    case round =>
      clear HST HAP HB7
      obtain ⟨k, p, q, v, X, hk, rfl, HT, HA, HB, HX⟩ := hrel
      by_cases hlt : k < len
      · obtain ⟨b, off, rfl, hbw, hc⟩ := (ActsAt.below H.out HB.out) (by omega)
        obtain ⟨c0, c1, c2⟩ := hc k hlt
        obtain ⟨rk, lk, mk, zk⟩ := HS.out k hlt
        clear hc
        have RK := hide rk
        have ZK := hide zk
        have HTK : Hid (tot sl (k + 1) = tot sl k + 1 + sl k) := rfl
        have hlk : tot sl (k + 1) ≤ 2147483647 := by have := tot_le sl (k + 1) len (by omega); omega
        clear rk zk
        generalize bs k = B at RK
        generalize sa k = xa at RK ZK c2
        generalize sl k = xl at RK ZK c2 lk HTK
        generalize sc k = xc at ZK c2 lk mk
        generalize op k = o at c0
        generalize who k = u at c1
        have hki : (k : Int) < (len : Int) := by omega
        go_upto_if 39 with fail
        go_cut [8] from 26 to 122 (fun i wx => ∃ m : Nat, m < 2 ∧ i = .int .i64 (m : Int) ∧ wx = wr.alloc (.cells #[.int .i64 o, .int .i64 u, .slice xa xl xc] 75))
        case first =>
          by_cases hu : u.tmod 2 = 0
          · have hub : (u.tmod 2 != 0) = false := by rw [hu]; rfl
            go_wp2
            go_meet
            exact ⟨0, by omega, rfl, rfl⟩
          · have hub : (u.tmod 2 != 0) = true := by rw [bne_iff_ne]; exact hu
            go_wp2
            go_meet
            exact ⟨1, by omega, rfl, rfl⟩
        case rest =>
          obtain ⟨m, hm2, rfl, rfl⟩ := hcut
          clear c0 c1 c2
          have hsw := HB.out.size
          have HBx : Hid (Below w.heap.size w (wr.alloc (.cells #[.int .i64 o, .int .i64 u, .slice xa xl xc] 75))) := HB.out.alloc hsw _
          have HTx := hide (HT.out.below ((Below.refl _ _).alloc (Nat.le_refl _) (.cells #[.int .i64 o, .int .i64 u, .slice xa xl xc] 75)))
          have HRow : Hid ((wr.alloc (.cells #[.int .i64 o, .int .i64 u, .slice xa xl xc] 75)).heap[wr.heap.size]? = some (.cells #[.int .i64 o, .int .i64 u, .slice xa xl xc] 75)) := heap_alloc_new _ _
          have HOx := hide (HT.out.off (Nat.le_refl wr.heap.size))
          go_wp2_with fail
          refine (roomy_any _ _ _ B _ (RK.out.below HBx.out) (by omega)).mono ?_
          rintro e W ⟨gf, rfl, hgf, hof, hb⟩
          simp at hgf
          have HBW := hide (below_trans HBx.out hb)
          have HTW := hide (HTx.out.below hb)
          have HRW : Hid (W.heap[wr.heap.size]? = some (.cells #[.int .i64 o, .int .i64 u, .slice xa xl xc] 75)) := by
            show _ = _
            rw [hb.block wr.heap.size (by simp)]; exact HRow.out
          have HOF := hide (hof.mono (show w.heap.size ≤ _ by simp; omega))
          have HOf := hide (HT.out.off (show wr.heap.size ≤ gf by omega))
          have hgx : W.heap.size > wr.heap.size := by have := hb.size; simp at this; omega
          have hgfW : gf < W.heap.size := (HOF.out.lt').2
          clear hof hb HBx HTx HRow HT HB
          generalize wr.heap.size = gx at HRW HOx hgf hgx hsw
          have x0 : W.cell? ⟨gx, 0, none⟩ = some (.int .i64 o) := by rw [cell_of_row _ _ _ _ _ _ HRW.out]; rfl
          have x2 : W.cell? ⟨gx, 2, none⟩ = some (.slice xa xl xc) := by rw [cell_of_row _ _ _ _ _ _ HRW.out]; rfl
          have HXL : Hid (B.length = xl) := RK.out.1
          go_upto_block 2 with fail
          go_cut [9] from 26 to 122 (fun f wx => f = .slice (some ⟨gf, 0, none⟩) (xl + 64) (xl + 64) ∧ ∃ (p' q' : Nat → Nat) (v' : Nat → Value) (X' : Nat → List (BitVec 8)), Hid (St wx w.heap.size gr gq p' q' v' X' X') ∧ Hid (Apart w.heap.size gr gq p' q' v') ∧ Hid (Below w.heap.size w wx) ∧ Hid ((X' 0).length ≤ tot sl (k + 1) ∧ (X' 1).length ≤ tot sl (k + 1)) ∧
              Hid (wx.heap[gx]? = some (.cells #[.int .i64 o, .int .i64 u, .slice xa xl xc] 75)) ∧ Hid (Own wx w.heap.size (.slice (some ⟨gf, 0, none⟩) (xl + 64) (xl + 64)) (padded B)) ∧ Hid (Off gr gq p' q' v' (some gf)) ∧ Hid (Off gr gq p' q' v' (some gx)))
          case first =>
            by_cases o0 : o = 0
            · subst o0
              have hmi : (m : Int) < 2 := by omega
              have cr : W.cell? ⟨gr, m, none⟩ = some (.pointer (some ⟨p m, 0, none⟩)) := HTW.out.r.cell m hm2
              have hxc : xl ≤ xl + 64 := by omega
              have HLm : Hid ((X m).length ≤ tot sl k) := len_at HX.out hm2
              have CW : Hid (∀ V, Below W.heap.size W V → Calls Try.prog 25 #[.pointer (some ⟨p m, 0, none⟩), .slice (some ⟨gf, 0, none⟩) xl (xl + 64)] V fun e w' => e = .returned (.tuple #[]) ∧ Runs w' (p m) (sum (X m ++ B)) (X m ++ B).length ∧ W.grownBy w' (some (p m))) := by
                intro V hV
                refine (write_any (p m) _ _ _ _ _ B V ((HTW.out.below hV).runs m hm2) (padded_rd (HOF.out.below hV) HXL.out (by omega)) (by have := HLm.out; have := HTK.out; omega)).mono ?_
                rintro e w' ⟨rfl, hr, hg⟩
                refine ⟨rfl, ?_, grown_after hV hg⟩
                rw [List.length_append, HXL.out]; exact runs_grow hr
              have hxi : (xl : Int) ≤ (xl : Int) + 64 := by omega
              go_upto_region 18 with fail
              go_cut [9] from 26 to 122 (fun f wx => f = .slice (some ⟨gf, 0, none⟩) (xl + 64) (xl + 64) ∧ Hid (Runs wx (p m) (sum (X m ++ B)) (X m ++ B).length) ∧ Hid (W.grownBy wx (some (p m))))
              case first =>
                go_region_held (fun V => V.cell? ⟨gr, m, none⟩ = some (.pointer (some ⟨p m, 0, none⟩)) ∧ V.cell? ⟨gx, 2, none⟩ = some (.slice xa xl xc)) (go_keep) (first
                  | (go_at_call 25; refine (CW.out _ (by first | exact Below.refl _ _ | exact (Below.refl _ _).drew | exact (Below.refl _ _).drew.drew)).mono ?_; rintro e w2 ⟨rfl, hr2, hg2⟩; have HR2 := hide hr2; have HG2 := hide hg2; have a1 := hg2.cell cr (fun e => (HA.out.pp m hm2).1 (Option.some.inj e).symm); have a2 := hg2.cell x2 (fun e => (HOx.out.2.2 m hm2).1 e); clear hr2 hg2))
                all_goals
                  go_wp2_with fail
                  go_meet
                  exact ⟨rfl, HR2, HG2⟩
              case rest =>
                obtain ⟨rfl, HR2, HG2⟩ := hcut
                have hpm := (HA.out.lo.2.2 m hm2)
                have HT2 := hide (HTW.out.putR HA.out hm2 HG2.out HR2.out rfl)
                have HB2 : Hid (Below w.heap.size w wc) := HBW.out.grown HG2.out HBW.out.size (fun k e => by cases e; exact hpm.1)
                have HRow2 : Hid (wc.heap[gx]? = some (.cells #[.int .i64 0, .int .i64 u, .slice xa xl xc] 75)) := by
                  show _ = _
                  rw [HG2.out.block gx hgx (fun e => (HOx.out.2.2 m hm2).1 e)]; exact HRW.out
                have HOF2 : Hid (Own wc w.heap.size (.slice (some ⟨gf, 0, none⟩) (xl + 64) (xl + 64)) (padded B)) := own_kept HOF.out (kept_of_grown HG2.out none) (fun i e e2 => (HOf.out.2.2 m hm2).1 (by rw [e2, ← e]; rfl)) (fun i e e2 => by cases e2)
                have hsz2 : W.heap.size ≤ wc.heap.size := HG2.out.size
                have y2 : wc.cell? ⟨gx, 2, none⟩ = some (.slice xa xl xc) := by rw [cell_of_row _ _ _ _ _ _ HRow2.out]; rfl
                have cq : wc.cell? ⟨gq, m, none⟩ = some (.pointer (some ⟨q m, 0, none⟩)) := HT2.out.s.cell m hm2
                have CQ : Hid (∀ V, Below wc.heap.size wc V → Calls Try.prog 35 #[.pointer (some ⟨q m, 0, none⟩), .slice xa xl xc] V fun e w' => e = .returned (.tuple #[]) ∧ ∃ v', RefAt w' w.heap.size (q m) v' (X m ++ B) ∧ Base.Kept2 wc w' (some (q m)) (v m).ownBlock ∧ ((v' : Value).ownBlock = (v m).ownBlock ∨ ∃ b, v'.ownBlock = some b ∧ wc.heap.size ≤ b)) := by
                  intro V hV
                  have hsv := hV.size
                  refine (refWrite_any w.heap.size (q m) (v m) (X m) xa xl xc B V ((HT2.out.below hV).refs m hm2) (RK.out.below (below_trans HB2.out hV)) ZK.out (by have := HLm.out; have := HTK.out; omega) (by have := HB2.out.size; omega) (fun e => ((HA.out.vb m hm2 _ e).2.2 m hm2).2 rfl)).mono ?_
                  rintro e w' ⟨rfl, v', h1, h2, h3⟩
                  exact ⟨rfl, v', h1, Kept2.after hV h2, h3.imp id (fun ⟨b, e, hb⟩ => ⟨b, e, by omega⟩)⟩
                go_wp2_with fail
                go_region_held (fun V => V.cell? ⟨gq, m, none⟩ = some (.pointer (some ⟨q m, 0, none⟩)) ∧ V.cell? ⟨gx, 2, none⟩ = some (.slice xa xl xc)) (go_keep) (first
                  | (go_at_call 35; refine (CQ.out _ (by first | exact Below.refl _ _ | exact (Below.refl _ _).drew | exact (Below.refl _ _).drew.drew)).mono ?_; rintro e w3 ⟨rfl, v3, hr3, hk3, hv3⟩; have HR3 := hide hr3; have HK3 := hide hk3; have HV3 := hide hv3; have a1 := kept_cell hk3 cq (fun e => (HA.out.pp m hm2).2.2.2 (Option.some.inj e).symm) (fun e => (HA.out.vb m hm2 gq e.symm).2.1 rfl); have a2 := kept_cell hk3 y2 (fun e => (HOx.out.2.2 m hm2).2.1 e) (fun e => (HOx.out.2.2 m hm2).2.2 gx e.symm rfl); clear hr3 hk3 hv3))
                all_goals
                  go_wp2_with fail
                  go_meet
                  have hpq := HT2.out.putQ HA.out hm2 HK3.out HR3.out (fun b e => by
                    rcases HV3.out with h | ⟨b', e', hb'⟩
                    · exact .inl (by rw [← h]; exact e)
                    · rw [e'] at e; cases e; exact .inr hb')
                  refine ⟨rfl, p, q, upd v m v3, upd X m (X m ++ B), hpq.1, hpq.2, ?_, ?_, ?_, ?_, ?_, ?_⟩
                  · exact HK3.out.below HB2.out (fun i e => by cases e; exact hpm.2) (fun i e => (Base.blk (HT2.out.refs m hm2).2 i e).1)
                  · exact len_upd HX.out (by have := HTK.out; omega) (by rw [List.length_append, HXL.out]; have := HLm.out; have := HTK.out; omega)
                  · show _ = _
                    rw [HK3.out.block gx (by omega) (fun e => (HOx.out.2.2 m hm2).2.1 e) (fun e => (HOx.out.2.2 m hm2).2.2 gx e.symm rfl)]; exact HRow2.out
                  · exact own_kept HOF2.out HK3.out (fun i e e2 => (HOf.out.2.2 m hm2).2.1 (by rw [e2, ← e]; rfl)) (fun i e e2 => (HOf.out.2.2 m hm2).2.2 i e2 (by rw [← e]; rfl))
                  · refine Off.updV HOf.out (fun b e e2 => ?_)
                    rcases HV3.out with h | ⟨b', e', hb'⟩
                    · exact (HOf.out.2.2 m hm2).2.2 b (by rw [← h]; exact e) e2
                    · rw [e'] at e; cases e; cases e2; omega
                  · refine Off.updV HOx.out (fun b e e2 => ?_)
                    rcases HV3.out with h | ⟨b', e', hb'⟩
                    · exact (HOx.out.2.2 m hm2).2.2 b (by rw [← h]; exact e) e2
                    · rw [e'] at e; cases e; cases e2; omega
            · have d0 : (o == 0) = false := by rw [beq_eq_false_iff_ne]; exact o0
              by_cases o1 : o = 1
              · subst o1
                have hmi : (m : Int) < 2 := by omega
                have cr : W.cell? ⟨gr, m, none⟩ = some (.pointer (some ⟨p m, 0, none⟩)) := HTW.out.r.cell m hm2
                go_wp2_with fail
                refine (reset_any _ _ _ _ (HTW.out.runs m hm2)).mono ?_
                rintro e w2 ⟨rfl, hr2, hg2⟩
                have HR2 := hide hr2
                have HG2 := hide hg2
                clear hr2 hg2
                have HT2 := hide (HTW.out.putR HA.out hm2 HG2.out HR2.out rfl)
                have hpm := (HA.out.lo.2.2 m hm2)
                have HB2 : Hid (Below w.heap.size w w2) := HBW.out.grown HG2.out HBW.out.size (fun k e => by cases e; exact hpm.1)
                have HRow2 : Hid (w2.heap[gx]? = some (.cells #[.int .i64 1, .int .i64 u, .slice xa xl xc] 75)) := by
                  show _ = _
                  rw [HG2.out.block gx hgx (fun e => (HOx.out.2.2 m hm2).1 e)]; exact HRW.out
                have HOF2 : Hid (Own w2 w.heap.size (.slice (some ⟨gf, 0, none⟩) (xl + 64) (xl + 64)) (padded B)) := own_kept HOF.out (kept_of_grown HG2.out none) (fun i e e2 => (HOf.out.2.2 m hm2).1 (by rw [e2, ← e]; rfl)) (fun i e e2 => by cases e2)
                have hsz2 : W.heap.size ≤ w2.heap.size := HG2.out.size
                have cq : w2.cell? ⟨gq, m, none⟩ = some (.pointer (some ⟨q m, 0, none⟩)) := HT2.out.s.cell m hm2
                go_wp2_with fail
                refine (refReset_any _ _ _ _ _ (HT2.out.refs m hm2)).mono ?_
                rintro e w3 ⟨rfl, hr3, hg3⟩
                have HR3 := hide hr3
                have HK3 := hide (kept_of_grown hg3 (v m).ownBlock)
                clear hr3 hg3
                go_wp2_with fail
                go_meet
                have hpq := HT2.out.putQ HA.out hm2 HK3.out HR3.out (fun b e => by cases e)
                refine ⟨rfl, p, q, upd v m (.slice none 0 0), upd X m [], hpq.1, hpq.2, ?_, ?_, ?_, ?_, ?_, ?_⟩
                · exact HK3.out.below HB2.out (fun i e => by cases e; exact hpm.2) (fun i e => (Base.blk (HT2.out.refs m hm2).2 i e).1)
                · exact len_upd HX.out (by have := HTK.out; omega) (by simp)
                · show _ = _
                  rw [HK3.out.block gx (by omega) (fun e => (HOx.out.2.2 m hm2).2.1 e) (fun e => (HOx.out.2.2 m hm2).2.2 gx e.symm rfl)]; exact HRow2.out
                · exact own_kept HOF2.out HK3.out (fun i e e2 => (HOf.out.2.2 m hm2).2.1 (by rw [e2, ← e]; rfl)) (fun i e e2 => (HOf.out.2.2 m hm2).2.2 i e2 (by rw [← e]; rfl))
                · exact Off.updV HOf.out (fun b e => by cases e)
                · exact Off.updV HOx.out (fun b e => by cases e)
              · have d1 : (o == 1) = false := by rw [beq_eq_false_iff_ne]; exact o1
                by_cases o2 : o = 2
                · subst o2
                  have hmi : (m : Int) < 2 := by omega
                  have hsW : w.heap.size ≤ W.heap.size := HBW.out.size
                  go_wp2_with fail
                  refine (new_any _).mono ?_
                  rintro e w2 ⟨g2, rfl, hg2, hr2, hb2⟩
                  have HT1 := hide (HTW.out.below hb2)
                  have cr : w2.cell? ⟨gr, m, none⟩ = some (.pointer (some ⟨p m, 0, none⟩)) := HT1.out.r.cell m hm2
                  have fr : w2.frozen? ⟨gr, m, none⟩ = false := HT1.out.r.frozen m
                  have HNR := hide (HTW.out.newR HA.out hm2 hb2 hg2 hsW hr2)
                  have hgl : W.heap.size ≤ g2 := by omega
                  have HC2 : Hid (w2.grownBy (w2.setCell ⟨gr, m, none⟩ (ptr g2)) (some gr)) := grown_cell (World.grownBy.refl _ _) m _
                  have HB2' : Hid (Below w.heap.size w w2) := below_trans HBW.out hb2
                  have HB2 : Hid (Below w.heap.size w (w2.setCell ⟨gr, m, none⟩ (ptr g2))) := HB2'.out.grown HC2.out HB2'.out.size (fun i e => by cases e; exact HA.out.lo.1)
                  have HRow2 : Hid ((w2.setCell ⟨gr, m, none⟩ (ptr g2)).heap[gx]? = some (.cells #[.int .i64 2, .int .i64 u, .slice xa xl xc] 75)) := by
                    show _ = _
                    rw [HC2.out.block gx (by have := hb2.size; omega) (fun e => HOx.out.1 e), hb2.block gx hgx]; exact HRW.out
                  have HOF2 : Hid (Own (w2.setCell ⟨gr, m, none⟩ (ptr g2)) w.heap.size (.slice (some ⟨gf, 0, none⟩) (xl + 64) (xl + 64)) (padded B)) := own_kept (HOF.out.below hb2) (kept_of_grown HC2.out none) (fun i e e2 => HOf.out.1 (by rw [e2, ← e]; rfl)) (fun i e e2 => by cases e2)
                  have hsz2 : W.heap.size ≤ (w2.setCell ⟨gr, m, none⟩ (ptr g2)).heap.size := Nat.le_trans hb2.size HC2.out.size
                  clear hr2 hb2 hg2 HT1 HB2'
                  go_wp2_with fail
                  refine (refNew_any _ w.heap.size).mono ?_
                  rintro e w3 ⟨g3, rfl, hg3, hr3, hb3, hz3⟩
                  have hb3' : Below (w2.setCell ⟨gr, m, none⟩ (ptr g2)).heap.size (w2.setCell ⟨gr, m, none⟩ (ptr g2)) w3 := hb3
                  have hg3' : g3 = (w2.setCell ⟨gr, m, none⟩ (ptr g2)).heap.size := hg3
                  have HT3 := hide (HNR.out.1.below hb3')
                  have cq : w3.cell? ⟨gq, m, none⟩ = some (.pointer (some ⟨q m, 0, none⟩)) := HT3.out.s.cell m hm2
                  have fq : w3.frozen? ⟨gq, m, none⟩ = false := HT3.out.s.frozen m
                  have HNQ := hide (HNR.out.1.newQ HNR.out.2 hm2 hb3' hg3' (by omega) hr3)
                  have HG3 : Hid (W.heap.size ≤ g3) := by show _ ≤ _; omega
                  have HC3 : Hid (w3.grownBy (w3.setCell ⟨gq, m, none⟩ (ptr g3)) (some gq)) := grown_cell (World.grownBy.refl _ _) m _
                  have HB3' : Hid (Below w.heap.size w w3) := below_trans HB2.out hb3'
                  have HB3 : Hid (Below w.heap.size w (w3.setCell ⟨gq, m, none⟩ (ptr g3))) := HB3'.out.grown HC3.out HB3'.out.size (fun i e => by cases e; exact HA.out.lo.2.1)
                  have HRow3 : Hid ((w3.setCell ⟨gq, m, none⟩ (ptr g3)).heap[gx]? = some (.cells #[.int .i64 2, .int .i64 u, .slice xa xl xc] 75)) := by
                    show _ = _
                    rw [HC3.out.block gx (by have := hb3'.size; omega) (fun e => HOx.out.2.1 e), hb3'.block gx (by omega)]; exact HRow2.out
                  have HOF3 : Hid (Own (w3.setCell ⟨gq, m, none⟩ (ptr g3)) w.heap.size (.slice (some ⟨gf, 0, none⟩) (xl + 64) (xl + 64)) (padded B)) := own_kept (HOF2.out.below hb3') (kept_of_grown HC3.out none) (fun i e e2 => HOf.out.2.1 (by rw [e2, ← e]; rfl)) (fun i e e2 => by cases e2)
                  clear hr3 hb3 hb3' hg3 hg3' hz3 HT3 HB3'
                  go_wp2_with fail
                  go_meet
                  refine ⟨rfl, upd p m g2, upd q m g3, upd v m (.slice none 0 0), upd X m [], HNQ.out.1, HNQ.out.2, HB3, ?_, HRow3, HOF3, ?_, ?_⟩
                  · exact len_upd HX.out (by have := HTK.out; omega) (by simp)
                  · exact Off.updV (Off.updQ (Off.updP HOf.out (fun e => by cases e; omega)) (fun e => by have := HG3.out; cases e; omega)) (fun b e => by cases e)
                  · exact Off.updV (Off.updQ (Off.updP HOx.out (fun e => by cases e; omega)) (fun e => by have := HG3.out; cases e; omega)) (fun b e => by cases e)
                · have d2 : (o == 2) = false := by rw [beq_eq_false_iff_ne]; exact o2
                  go_wp2_with fail
                  go_meet
                  exact ⟨rfl, p, q, v, X, HTW, HA, HBW, ⟨by have := HX.out.1; have := HTK.out; omega, by have := HX.out.2; have := HTK.out; omega⟩, HRW, HOF, HOf, HOx⟩
          case rest =>
            obtain ⟨rfl, p', q', v', X', HT', HA', HB', HXB0, HR', HOF', HOf', HOx'⟩ := hcut
            clear HTW HA HBW HX HRW HOF HOf HOx x0 x2 hgfW
            have x2 : wc.cell? ⟨gx, 2, none⟩ = some (.slice xa xl xc) := by rw [cell_of_row _ _ _ _ _ _ HR'.out]; rfl
            have hgxc : gx < wc.heap.size := block_lt_of_cell x2
            go_wp2_with fail
            refine (roomy_any _ _ _ B _ (RK.out.below HB'.out) (by omega)).mono ?_
            rintro e w5 ⟨g5, rfl, hg5, ho5, hb5⟩
            have HO5 := hide ho5
            have HB5 := hide hb5
            have hg5' : wc.heap.size ≤ g5 := hg5
            clear ho5 hb5 hg5
            go_wp2_with fail
            have HPL : Hid ((padded B).length ≤ 140737488355328) := by show _ ≤ _; rw [length_padded, HXL.out]; omega
            refine (same_any _ _ _ _ _ _ _ _ _ ((HOF'.out.below HB5.out).rd HPL.out) (HO5.out.rd HPL.out)).mono ?_
            rintro e w6 ⟨rfl, hb6⟩
            rw [show decide (padded B = padded B) = true from by simp]
            have HB6 := hide (below_trans HB5.out hb6)
            clear hb6 HB5 HO5
            go_wp2_with fail
            refine (next_any w.heap.size gf _ _ (padded B) w6 (HOF'.out.below HB6.out) (by omega)).mono ?_
            rintro e w7 ⟨rfl, ho7, hg7⟩
            have HG7 := hide hg7
            have HS7 := hide ((HT'.out.below HB6.out).keep hg7 HOf'.out)
            have hs6 := HB6.out.size
            have HBw7 : Hid (Below w.heap.size w w7) := (below_trans HB'.out HB6.out).grown hg7 (Nat.le_trans HB'.out.size hs6) (fun i e => by cases e; exact (HOF'.out.lt').1)
            have HR7 : Hid (w7.heap[gx]? = some (.cells #[.int .i64 o, .int .i64 u, .slice xa xl xc] 75)) := by
              show _ = _
              rw [hg7.block gx (by omega) (fun e => by have := Option.some.inj e; omega), HB6.out.block gx hgxc]; exact HR'.out
            clear ho7 hg7 x2 hgxc HB6 HG7 hs6 HT' HB' HR' HOF' HOf' HOx' HPL
            have x0 : w7.cell? ⟨gx, 0, none⟩ = some (.int .i64 o) := by rw [cell_of_row _ _ _ _ _ _ HR7.out]; rfl
            by_cases ho : 2 < o
            · have do1 : decide ((2 : Int) < o) = true := by simpa using ho
              have HXB : Hid ((X' 0).length ≤ 2147483647 ∧ (X' 1).length ≤ 2147483647) := ⟨by have := HXB0.out.1; omega, by have := HXB0.out.2; omega⟩
              have r0 : w7.cell? ⟨gr, 0, none⟩ = some (.pointer (some ⟨p' 0, 0, none⟩)) := HS7.out.r.cell 0 (by omega)
              have r1 : w7.cell? ⟨gr, 1, none⟩ = some (.pointer (some ⟨p' 1, 0, none⟩)) := HS7.out.r.cell 1 (by omega)
              have rm : w7.cell? ⟨gr, m, none⟩ = some (.pointer (some ⟨p' m, 0, none⟩)) := HS7.out.r.cell m hm2
              have s0 : w7.cell? ⟨gq, 0, none⟩ = some (.pointer (some ⟨q' 0, 0, none⟩)) := HS7.out.s.cell 0 (by omega)
              have s1 : w7.cell? ⟨gq, 1, none⟩ = some (.pointer (some ⟨q' 1, 0, none⟩)) := HS7.out.s.cell 1 (by omega)
              have sm : w7.cell? ⟨gq, m, none⟩ = some (.pointer (some ⟨q' m, 0, none⟩)) := HS7.out.s.cell m hm2
              have hmi : (m : Int) < 2 := by omega
              have CR0 : Hid (∀ V, Below w7.heap.size w7 V → Calls Try.prog 29 #[.pointer (some ⟨p' 0, 0, none⟩)] V fun e w' => e = .returned (.int .u32 ((sum (X' 0)).toNat : Int)) ∧ w' = V) := fun V hV => rsum_any _ _ _ _ ((HS7.out.below hV).runs 0 (by omega))
              have CR1 : Hid (∀ V, Below w7.heap.size w7 V → Calls Try.prog 29 #[.pointer (some ⟨p' 1, 0, none⟩)] V fun e w' => e = .returned (.int .u32 ((sum (X' 1)).toNat : Int)) ∧ w' = V) := fun V hV => rsum_any _ _ _ _ ((HS7.out.below hV).runs 1 (by omega))
              have CQ0 : Hid (∀ V, Below w7.heap.size w7 V → Calls Try.prog 39 #[.pointer (some ⟨q' 0, 0, none⟩)] V fun e w' => e = .returned (.int .u32 ((sum (X' 0)).toNat : Int)) ∧ w' = V) := fun V hV => refSumOf_any _ _ _ _ _ ((HS7.out.below hV).refs 0 (by omega)) (by have := HXB.out.1; omega)
              have CQ1 : Hid (∀ V, Below w7.heap.size w7 V → Calls Try.prog 39 #[.pointer (some ⟨q' 1, 0, none⟩)] V fun e w' => e = .returned (.int .u32 ((sum (X' 1)).toNat : Int)) ∧ w' = V) := fun V hV => refSumOf_any _ _ _ _ _ ((HS7.out.below hV).refs 1 (by omega)) (by have := HXB.out.2; omega)
              have CLm : Hid (∀ V, Below w7.heap.size w7 V → Calls Try.prog 30 #[.pointer (some ⟨p' m, 0, none⟩)] V fun e w' => e = .returned (.int .i64 ((X' m).length : Nat)) ∧ w' = V) := fun V hV => rlen_any _ _ _ _ ((HS7.out.below hV).runs m hm2)
              have CNm : Hid (∀ V, Below w7.heap.size w7 V → Calls Try.prog 40 #[.pointer (some ⟨q' m, 0, none⟩)] V fun e w' => e = .returned (.int .i64 ((X' m).length : Nat)) ∧ w' = V) := fun V hV => refLen_any _ _ _ _ _ ((HS7.out.below hV).refs m hm2)
              generalize hS0 : sum (X' 0) = S0 at CR0 CQ0
              generalize hS1 : sum (X' 1) = S1 at CR1 CQ1
              generalize hLm : (X' m).length = Lm at CLm CNm
              clear hS0 hS1 hLm
              have t0 : ((S0.toNat : Int) != (S0.toNat : Int)) = false := by simp
              have t1 : ((S1.toNat : Int) != (S1.toNat : Int)) = false := by simp
              have t2 : ((Lm : Int) != (Lm : Int)) = false := by simp
              go_wp2_with fail
              go_quiet (first
                | (go_at_call_of 29 (Value.pointer (some ⟨p' 0, 0, none⟩)); exact Calls.quiet_of_same (CR0.out _ (below_drewN' _ _ _)))
                | (go_at_call_of 39 (Value.pointer (some ⟨q' 0, 0, none⟩)); exact Calls.quiet_of_same (CQ0.out _ (below_drewN' _ _ _)))
                | (go_at_call_of 29 (Value.pointer (some ⟨p' 1, 0, none⟩)); exact Calls.quiet_of_same (CR1.out _ (below_drewN' _ _ _)))
                | (go_at_call_of 39 (Value.pointer (some ⟨q' 1, 0, none⟩)); exact Calls.quiet_of_same (CQ1.out _ (below_drewN' _ _ _)))
                | (go_at_call_of 30 (Value.pointer (some ⟨p' m, 0, none⟩)); exact Calls.quiet_of_same (CLm.out _ (below_drewN' _ _ _)))
                | (go_at_call_of 40 (Value.pointer (some ⟨q' m, 0, none⟩)); exact Calls.quiet_of_same (CNm.out _ (below_drewN' _ _ _))))
              go_wp2_with fail
              go_roundw
              case rel => exact ⟨k + 1, p', q', v', X', by omega, by go_num, HS7.out.below (below_drewN' _ _ _), HA', HBw7.out.trans (below_drewN (Below.refl _ _) _), HXB0⟩
              case measure => simp [intOf]; omega
            · have do1 : decide ((2 : Int) < o) = false := by simpa using ho
              go_wp2_with fail
              go_quiet (fail)
              go_wp2_with fail
              go_roundw
              case rel => exact ⟨k + 1, p', q', v', X', by omega, by go_num, HS7.out.below (below_drewN' _ _ _), HA', HBw7.out.trans (below_drewN (Below.refl _ _) _), HXB0⟩
              case measure => simp [intOf]; omega
      · have hk' : k = len := by omega
        subst hk'
        have HXB : Hid ((X 0).length ≤ 2147483647 ∧ (X 1).length ≤ 2147483647) := ⟨by have := HX.out.1; omega, by have := HX.out.2; omega⟩
        have r0 : wr.cell? ⟨gr, 0, none⟩ = some (.pointer (some ⟨p 0, 0, none⟩)) := HT.out.r.cell 0 (by omega)
        have r1 : wr.cell? ⟨gr, 1, none⟩ = some (.pointer (some ⟨p 1, 0, none⟩)) := HT.out.r.cell 1 (by omega)
        have s0 : wr.cell? ⟨gq, 0, none⟩ = some (.pointer (some ⟨q 0, 0, none⟩)) := HT.out.s.cell 0 (by omega)
        have s1 : wr.cell? ⟨gq, 1, none⟩ = some (.pointer (some ⟨q 1, 0, none⟩)) := HT.out.s.cell 1 (by omega)
        have CR0 : Hid (∀ V, Below wr.heap.size wr V → Calls Try.prog 29 #[.pointer (some ⟨p 0, 0, none⟩)] V fun e w' => e = .returned (.int .u32 ((sum (X 0)).toNat : Int)) ∧ w' = V) := fun V hV => rsum_any _ _ _ _ ((HT.out.below hV).runs 0 (by omega))
        have CQ0 : Hid (∀ V, Below wr.heap.size wr V → Calls Try.prog 39 #[.pointer (some ⟨q 0, 0, none⟩)] V fun e w' => e = .returned (.int .u32 ((sum (X 0)).toNat : Int)) ∧ w' = V) := fun V hV => refSumOf_any _ _ _ _ _ ((HT.out.below hV).refs 0 (by omega)) (by have := HXB.out.1; omega)
        have CL0 : Hid (∀ V, Below wr.heap.size wr V → Calls Try.prog 30 #[.pointer (some ⟨p 0, 0, none⟩)] V fun e w' => e = .returned (.int .i64 ((X 0).length : Nat)) ∧ w' = V) := fun V hV => rlen_any _ _ _ _ ((HT.out.below hV).runs 0 (by omega))
        have CN0 : Hid (∀ V, Below wr.heap.size wr V → Calls Try.prog 40 #[.pointer (some ⟨q 0, 0, none⟩)] V fun e w' => e = .returned (.int .i64 ((X 0).length : Nat)) ∧ w' = V) := fun V hV => refLen_any _ _ _ _ _ ((HT.out.below hV).refs 0 (by omega))
        have CR1 : Hid (∀ V, Below wr.heap.size wr V → Calls Try.prog 29 #[.pointer (some ⟨p 1, 0, none⟩)] V fun e w' => e = .returned (.int .u32 ((sum (X 1)).toNat : Int)) ∧ w' = V) := fun V hV => rsum_any _ _ _ _ ((HT.out.below hV).runs 1 (by omega))
        have CQ1 : Hid (∀ V, Below wr.heap.size wr V → Calls Try.prog 39 #[.pointer (some ⟨q 1, 0, none⟩)] V fun e w' => e = .returned (.int .u32 ((sum (X 1)).toNat : Int)) ∧ w' = V) := fun V hV => refSumOf_any _ _ _ _ _ ((HT.out.below hV).refs 1 (by omega)) (by have := HXB.out.2; omega)
        have CL1 : Hid (∀ V, Below wr.heap.size wr V → Calls Try.prog 30 #[.pointer (some ⟨p 1, 0, none⟩)] V fun e w' => e = .returned (.int .i64 ((X 1).length : Nat)) ∧ w' = V) := fun V hV => rlen_any _ _ _ _ ((HT.out.below hV).runs 1 (by omega))
        have CN1 : Hid (∀ V, Below wr.heap.size wr V → Calls Try.prog 40 #[.pointer (some ⟨q 1, 0, none⟩)] V fun e w' => e = .returned (.int .i64 ((X 1).length : Nat)) ∧ w' = V) := fun V hV => refLen_any _ _ _ _ _ ((HT.out.below hV).refs 1 (by omega))
        generalize hS0 : sum (X 0) = S0 at CR0 CQ0
        generalize hS1 : sum (X 1) = S1 at CR1 CQ1
        generalize hL0 : (X 0).length = L0 at CL0 CN0
        generalize hL1 : (X 1).length = L1 at CL1 CN1
        clear hS0 hS1 hL0 hL1
        have t0 : ((S0.toNat : Int) == (S0.toNat : Int)) = true := by simp
        have t1 : ((S1.toNat : Int) == (S1.toNat : Int)) = true := by simp
        have t2 : ((L0 : Int) == (L0 : Int)) = true := by simp
        have t3 : ((L1 : Int) == (L1 : Int)) = true := by simp
        go_wp2_with fail
        go_quiet (first
          | (go_at_call_of 29 (Value.pointer (some ⟨p 0, 0, none⟩)); exact Calls.quiet_of_same (CR0.out _ (below_drewN' _ _ _)))
          | (go_at_call_of 39 (Value.pointer (some ⟨q 0, 0, none⟩)); exact Calls.quiet_of_same (CQ0.out _ (below_drewN' _ _ _)))
          | (go_at_call_of 30 (Value.pointer (some ⟨p 0, 0, none⟩)); exact Calls.quiet_of_same (CL0.out _ (below_drewN' _ _ _)))
          | (go_at_call_of 40 (Value.pointer (some ⟨q 0, 0, none⟩)); exact Calls.quiet_of_same (CN0.out _ (below_drewN' _ _ _)))
          | (go_at_call_of 29 (Value.pointer (some ⟨p 1, 0, none⟩)); exact Calls.quiet_of_same (CR1.out _ (below_drewN' _ _ _)))
          | (go_at_call_of 39 (Value.pointer (some ⟨q 1, 0, none⟩)); exact Calls.quiet_of_same (CQ1.out _ (below_drewN' _ _ _)))
          | (go_at_call_of 30 (Value.pointer (some ⟨p 1, 0, none⟩)); exact Calls.quiet_of_same (CL1.out _ (below_drewN' _ _ _)))
          | (go_at_call_of 40 (Value.pointer (some ⟨q 1, 0, none⟩)); exact Calls.quiet_of_same (CN1.out _ (below_drewN' _ _ _))))
        go_wp2_with fail
        refine (sum_nil _).mono ?_
        rintro e z1 ⟨rfl, rfl⟩
        go_wp2_with fail
        refine (len_nil _).mono ?_
        rintro e z1 ⟨rfl, rfl⟩
        go_wp2_with fail
        go_ret
        exact ⟨rfl, HB.out.trans (below_drewN (Below.refl _ _) _)⟩
end Go.Proofs.Ytpoholpedkikhab.crcRunning
