/-
  The document's View: a number, a word.
-/
import Derived.Test.YtbmbhcjocgbbpabFaRDecM
import Derived.Test.YtbmbhcjocgbbpabFaRGet
import Derived.Test.YtbmbhcjocgbbpabCut
namespace Go.Proofs.Ytbmbhcjocgbbpab.Fa
open Go.ChangeShapes Go.WideShapes Go.ChangeAt Go.RowKit
open Go.Proofs.Ytbmbhcjocgbbpab.Base Go.Proofs.Ytbmbhcjocgbbpab.Nums Go.Proofs.Ytbmbhcjocgbbpab.Curs
set_option linter.unusedVariables false
/-- A View in memory. -/
def VB (w : World) (g : Nat) (v : Value) (p : Int) : Prop := w.heap[g]? = some (.cells #[v, .int .i64 p] 53)
theorem VB.c0 {w : World} {g : Nat} {v : Value} {p : Int} (h : VB w g v p) : w.cell? ⟨g, 0, none⟩ = some v := by rw [cell_of_row _ _ _ _ _ _ h]; rfl
theorem VB.c1 {w : World} {g : Nat} {v : Value} {p : Int} (h : VB w g v p) : w.cell? ⟨g, 1, none⟩ = some (.int .i64 p) := by rw [cell_of_row _ _ _ _ _ _ h]; rfl
theorem VB.fr {w : World} {g : Nat} {v : Value} {p : Int} (h : VB w g v p) (k : Nat) : w.frozen? ⟨g, k, none⟩ = false := frozen_of_row _ _ _ _ _ h
theorem VB.lt {w : World} {g : Nat} {v : Value} {p : Int} (h : VB w g v p) : g < w.heap.size := (Array.getElem?_eq_some_iff.1 h).1
theorem VB.put {w : World} {g : Nat} {v : Value} {p q : Int} (h : VB w g v p) : VB (w.setCell ⟨g, 1, none⟩ (.int .i64 q)) g v q := heap_setCell_same _ _ 1 _ _ _ h
theorem VB.grown {w w' : World} {g : Nat} {v : Value} {p : Int} {r : Option Nat} (h : VB w g v p) (hg : w.grownBy w' r) (hr : r ≠ some g) : VB w' g v p := (hg.block g h.lt (fun e => hr e.symm)).trans h
theorem rd_grown {w w' : World} {a : Option Addr} {n : Nat} {bs : List (BitVec 8)} {q : Option Nat} (h : Rd w a n bs) (hg : w.grownBy w' q) (hne : 0 < n → ∀ ad, a = some ad → q ≠ some ad.block) : Rd w' a n bs := by
  by_cases h0 : n = 0
  · subst h0
    have : bs = [] := List.length_eq_zero_iff.1 h.1
    subst this
    exact rd_zero _ _
  · exact h.grown hg (hne (by omega))
/-- A View of these bytes, at p. -/
structure Vw (w : World) (g : Nat) (a : Option Addr) (n c : Nat) (bs : List (BitVec 8)) (p : Nat) : Prop where
  row : VB w g (.slice a n c) (p : Int)
  rd : Rd w a n bs
  le : n ≤ c
  room : c ≤ 9223372036854775807
  ne : 0 < n → ∀ ad, a = some ad → ad.block ≠ g
theorem Vw.below {w w' : World} {g : Nat} {a : Option Addr} {n c : Nat} {bs : List (BitVec 8)} {p : Nat} (h : Vw w g a n c bs p) (hb : Below w.heap.size w w') : Vw w' g a n c bs p :=
  ⟨h.row.grown (below_grown hb) (by simp), h.rd.below hb, h.le, h.room, h.ne⟩
theorem Vw.grown {w w' : World} {g b : Nat} {a : Option Addr} {n c : Nat} {bs : List (BitVec 8)} {p : Nat} (h : Vw w g a n c bs p) (hg : w.grownBy w' (some b)) (hne : b ≠ g) (hna : 0 < n → ∀ ad, a = some ad → ad.block ≠ b) : Vw w' g a n c bs p :=
  ⟨h.row.grown hg (fun e => hne (Option.some.inj e)), rd_grown h.rd hg (fun h0 ad e e2 => hna h0 ad e (Option.some.inj e2).symm), h.le, h.room, h.ne⟩
theorem Vw.put {w : World} {g : Nat} {a : Option Addr} {n c : Nat} {bs : List (BitVec 8)} {p q : Nat} (h : Vw w g a n c bs p) : Vw (w.setCell ⟨g, 1, none⟩ (.int .i64 (q : Int))) g a n c bs q :=
  ⟨h.row.put, rd_grown (q := some g) h.rd (grown_cell (World.grownBy.refl _ _) _ _) (fun h0 ad e e2 => h.ne h0 ad e (Option.some.inj e2).symm), h.le, h.room, h.ne⟩
theorem Vw.putI {w : World} {g : Nat} {a : Option Addr} {n c : Nat} {bs : List (BitVec 8)} {p : Nat} (h : Vw w g a n c bs p) (q : Nat) (z : Int) (e : z = (q : Int)) : Vw (w.setCell ⟨g, 1, none⟩ (.int .i64 z)) g a n c bs q ∧ w.grownBy (w.setCell ⟨g, 1, none⟩ (.int .i64 z)) (some g) := by
  subst e
  exact ⟨h.put, grown_cell (World.grownBy.refl _ _) _ _⟩
set_option maxHeartbeats 4000000 in
set_option maxRecDepth 100000 in
theorem number_any (g : Nat) (a : Option Addr) (n c : Nat) (bs : List (BitVec 8)) (p z : Nat) (w : World) (h : Vw w g a n c bs p) (hz : p ≤ bs.length + z) (hz2 : z ≤ 4611686018427387904) :
    Calls Try.prog 25 #[.pointer (some ⟨g, 0, none⟩)] w fun e w' => e = .returned (.int .i64 ((numV (bs.drop p)).1 : Nat)) ∧ (∃ q, Vw w' g a n c bs q ∧ bs.drop q = (numV (bs.drop p)).2 ∧ q ≤ bs.length + z) ∧ w.grownBy w' (some g) := by
  have HL := hide h.rd.1
  have HM := hide h.rd.2.1
  have H := hide h
  have c0 := h.row.c0
  have c1 := h.row.c1
  have f1 := h.row.fr 1
  have hle := h.le
  have hroom := h.room
  clear h
  by_cases hp : n ≤ p
  · have hpi : (n : Int) ≤ (p : Int) := by omega
    have HD : Hid (bs.drop p = []) := List.drop_eq_nil_of_le (by rw [HL.out]; exact hp)
    go_enter Try.func25, Try.ntmps25
    go_wp2_with fail
    go_quiet (fail)
    go_wp2_with fail
    go_ret
    rw [HD.out]
    exact ⟨rfl, ⟨p, H.out.below (below_drewN' _ _ _), HD.out, hz⟩, grown_any (below_grown (below_drewN' _ _ _)) _⟩
  · have hpn : p < n := by omega
    have hpi : ¬ (n : Int) ≤ (p : Int) := by omega
    obtain ⟨b, off, rfl, hbw, _⟩ := H.out.rd.2.2 (by omega)
    have HRF := hide (H.out.rd.from p (by omega))
    obtain ⟨la, hsl, hla, _, _⟩ := cut_l b off n c p (by omega) hle
    obtain rfl := hla hpn
    clear hla
    go_enter Try.func25, Try.ntmps25
    go_wp2_with fail
    go_quiet (fail)
    go_wp2_with fail
    have HGET : Hid (∀ W, Below w.heap.size w W → Calls Try.prog 36 #[.slice (some ⟨b, off + p, none⟩) (n - p) (c - p)] W fun e w' => e = .returned (.tuple #[.int .i64 ((get (bs.drop p)).1 : Nat), .int .i64 ((get (bs.drop p)).2.1 : Nat), .int .i64 ((get (bs.drop p)).2.2 : Nat)]) ∧ w' = W) := fun W hW => refGet_same _ _ _ _ _ (HRF.out.below hW)
    have HNV : Hid (numV (bs.drop p) = if (get (bs.drop p)).2.2 = 0 then ((get (bs.drop p)).1, (bs.drop p).drop (get (bs.drop p)).2.1) else (0, [])) := by
      show _ = _
      unfold numV
      rw [if_neg (by rw [List.length_drop, HL.out]; omega)]
    have HGL := hide (get_len (bs.drop p))
    generalize get (bs.drop p) = q at HGET HNV HGL
    obtain ⟨q1, q2, q3⟩ := q
    simp only at HGET HNV HGL
    have HV1 := hide (H.out.below (below_drewN' w.heap.size w nq))
    have HG1 : Hid (w.grownBy (w.drewN nq) (some g)) := grown_any (below_grown (below_drewN' _ _ _)) _
    have HGE1 : Hid (∀ W, Below (w.drewN nq).heap.size (w.drewN nq) W → Below w.heap.size w W) := fun W hW => below_trans (below_drewN' _ _ _) hW
    generalize w.drewN nq = w1 at HV1 HG1 HGE1
    have c0 := HV1.out.row.c0
    have c1 := HV1.out.row.c1
    have f1 := HV1.out.row.fr 1
    go_region_held (fun V => V.cell? ⟨g, 0, none⟩ = some (.slice (some ⟨b, off, none⟩) n c) ∧ V.cell? ⟨g, 1, none⟩ = some (.int .i64 (p : Int))) (go_keep) (first
      | (go_at_call 36; refine (HGET.out _ (HGE1.out _ (by first | exact (Below.refl _ _).drew | exact Below.refl _ _))).mono ?_; rintro e w2 ⟨rfl, rfl⟩))
    by_cases h3 : q3 = 0
    · subst h3
      have hq3 : ((0 : Int) != 0) = false := rfl
      have hwp : IntKind.i64.wrap ((p : Int) + (q2 : Int)) = (((p + q2 : Nat)) : Int) := by rw [IntKind.wrap_i64]; have := HGL.out; rw [List.length_drop] at this; have h5 := HM.out; have h6 := HL.out; omega
      have HQL : Hid (p + q2 ≤ bs.length) := by have := HGL.out; rw [List.length_drop] at this; show _ ≤ _; have h6 := HL.out; omega
      have HV2 := hide (HV1.out.putI (p + q2) ((p : Int) + (q2 : Int)) (by omega))
      clear HGET HGE1 HRF hsl
      go_wp2_with fail
      go_ret
      rw [HNV.out, if_pos trivial]
      exact ⟨rfl, ⟨p + q2, HV2.out.1.below (b0 _).drew, by rw [List.drop_drop], by have := HQL.out; omega⟩, grown_trans (grown_trans HG1.out HV2.out.2) (grown_any (below_grown (b0 _).drew) _)⟩
    · have hq3 : ((q3 : Int) != 0) = true := by rw [bne_iff_ne]; omega
      have HV2 := hide (HV1.out.putI n (n : Int) rfl)
      clear HGET HGE1 HRF hsl
      go_wp2_with fail
      go_ret
      rw [HNV.out, if_neg h3]
      exact ⟨rfl, ⟨n, HV2.out.1.below (b0 _).drew, List.drop_eq_nil_of_le (by rw [HL.out]; exact Nat.le_refl _), by rw [HL.out]; omega⟩, grown_trans (grown_trans HG1.out HV2.out.2) (grown_any (below_grown (b0 _).drew) _)⟩
set_option maxHeartbeats 4000000 in
set_option maxRecDepth 100000 in
theorem word_any (g : Nat) (a : Option Addr) (n c : Nat) (bs : List (BitVec 8)) (p z m : Nat) (w : World) (h : Vw w g a n c bs p) (hz : p ≤ bs.length + z) (hz2 : z ≤ 4611686018427387904) (hm : m ≤ 8) :
    Calls Try.prog 26 #[.pointer (some ⟨g, 0, none⟩), .int .i64 (m : Int)] w fun e w' => e = .returned (.int .u64 ((wordV (bs.drop p) m).1 : Nat)) ∧ Vw w' g a n c bs (p + m) ∧ w.grownBy w' (some g) := by
  have HL := hide h.rd.1
  have HM := hide h.rd.2.1
  have H := hide h
  have hle := h.le
  have hroom := h.room
  clear h
  go_enter Try.func26, Try.ntmps26
  go_wp2_with fail
  go_loopw [5, 6] (fun sx si wr => ∃ (k V : Nat), k ≤ m ∧ .int .u64 (V : Int) = sx ∧ .int .i64 (k : Int) = si ∧ Hid (V < 256 ^ k) ∧ Hid (V = wordFrom 0 ((bs.drop p).take k)) ∧ Hid (Vw wr g a n c bs (p + k)) ∧ Hid (w.grownBy wr (some g))) (fun _ si _ => m - (intOf si).toNat)
  case atStart => exact ⟨0, 0, by omega, rfl, rfl, (show 0 < 256 ^ 0 by decide), rfl, H, World.grownBy.refl _ _⟩
  case round =>
    clear H
    obtain ⟨k, V, hk, rfl, rfl, HV, HG, H, HW⟩ := hrel
    by_cases hkm : k < m
    · have hkmi : (k : Int) < (m : Int) := by omega
      have c0 := H.out.row.c0
      have c1 := H.out.row.c1
      have f1 := H.out.row.fr 1
      by_cases hp : p + k < n
      · have hpi : (p : Int) + (k : Int) < (n : Int) := by omega
        have hpd : decide ((p : Int) + (k : Int) < (n : Int)) = true := decide_eq_true hpi
        obtain ⟨b, off, rfl, hbw, hcs⟩ := H.out.rd.2.2 (by omega)
        have g1 := hcs (p + k) hp
        have HS := hide (word_take (bs.drop p) k (by rw [List.length_drop, HL.out]; omega))
        rw [show (bs.drop p).getD k 0 = bs.getD (p + k) 0 by rw [List.getD_eq_getElem?_getD, List.getD_eq_getElem?_getD, List.getElem?_drop]] at HS
        generalize bs.getD (p + k) 0 = d at g1 HS
        obtain ⟨X, V', q3, q4, q5, HV', HVL, q6⟩ := word_step d k V (by omega) HV.out
        have hVX : IntKind.u64.wrap ((V : Int) + (X : Int)) = (V' : Int) := by
          have e : (X : Int) = ((d.toNat * 256 ^ k : Nat) : Int) := by
            rw [← q3, show (256 : Nat) ^ k = 2 ^ (8 * k) by rw [Nat.pow_mul], Int.natCast_mul, Int.natCast_pow]; rfl
          have e2 := HV'.out
          rw [IntKind.wrap_u64]
          omega
        have HE : Hid (V' = wordFrom 0 ((bs.drop p).take (k + 1))) := by
          show V' = _
          rw [HS.out, HV'.out, HG.out]
        have hw8 : IntKind.i64.wrap (8 * (k : Int)) = 8 * (k : Int) := by rw [IntKind.wrap_i64]; omega
        have hw1 : IntKind.i64.wrap ((p : Int) + (k : Int) + 1) = (p : Int) + (k : Int) + 1 := by rw [IntKind.wrap_i64]; have h5 := HM.out; have h6 := HL.out; omega
        have hpn : ((p : Int) + (k : Int)).toNat = p + k := by omega
        have hp0 : (0 : Int) ≤ (p : Int) + (k : Int) := by omega
        clear hcs q5
        go_wp2_with fail
        go_quiet (fail)
        go_wp2_with fail
        go_quiet (fail)
        have HV2 : Hid (∀ q, Vw ((wr.drewN q).setCell ⟨g, 1, none⟩ (.int .i64 ((p : Int) + (k : Int) + 1))) g (some ⟨b, off, none⟩) n c bs (p + (k + 1)) ∧ (wr.drewN q).grownBy ((wr.drewN q).setCell ⟨g, 1, none⟩ (.int .i64 ((p : Int) + (k : Int) + 1))) (some g)) := fun q => (H.out.below (below_drewN' _ wr q)).putI (p + (k + 1)) ((p : Int) + (k : Int) + 1) (by omega)
        go_wp2_with fail
        go_roundw
        case rel => exact ⟨k + 1, V', by omega, rfl, by go_num, HVL, HE, (HV2.out _).1, grown_trans HW.out (grown_trans (grown_any (below_grown (below_drewN' _ _ _)) _) (HV2.out _).2)⟩
        case measure => simp [intOf]; omega
      · have hpd : decide ((p : Int) + (k : Int) < (n : Int)) = false := decide_eq_false (by omega)
        have HE : Hid (V = wordFrom 0 ((bs.drop p).take (k + 1))) := by
          show V = _
          rw [HG.out, List.take_of_length_le (by rw [List.length_drop, HL.out]; omega), List.take_of_length_le (by rw [List.length_drop, HL.out]; omega)]
        have HVL : Hid (V < 256 ^ (k + 1)) := by
          show V < _
          have := HV.out
          rw [Nat.pow_succ]; omega
        have hw1 : IntKind.i64.wrap ((p : Int) + (k : Int) + 1) = (p : Int) + (k : Int) + 1 := by rw [IntKind.wrap_i64]; have h5 := HM.out; have h6 := HL.out; omega
        go_wp2_with fail
        go_quiet (fail)
        have HV2 : Hid (∀ q, Vw ((wr.drewN q).setCell ⟨g, 1, none⟩ (.int .i64 ((p : Int) + (k : Int) + 1))) g a n c bs (p + (k + 1)) ∧ (wr.drewN q).grownBy ((wr.drewN q).setCell ⟨g, 1, none⟩ (.int .i64 ((p : Int) + (k : Int) + 1))) (some g)) := fun q => (H.out.below (below_drewN' _ wr q)).putI (p + (k + 1)) ((p : Int) + (k : Int) + 1) (by omega)
        go_wp2_with fail
        go_roundw
        case rel => exact ⟨k + 1, V, by omega, rfl, by go_num, HVL, HE, (HV2.out _).1, grown_trans HW.out (grown_trans (grown_any (below_grown (below_drewN' _ _ _)) _) (HV2.out _).2)⟩
        case measure => simp [intOf]; omega
    · obtain rfl : k = m := by omega
      have HE : Hid ((wordV (bs.drop p) k).1 = V) := HG.out.symm
      go_wp2_with fail
      go_ret
      exact ⟨ret_int (by rw [HE.out]), H.out, HW.out⟩
end Go.Proofs.Ytbmbhcjocgbbpab.Fa
