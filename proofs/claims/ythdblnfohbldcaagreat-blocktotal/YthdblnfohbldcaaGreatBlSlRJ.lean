/-
  unpack: the raw bytes of a payload with its flag behind it.
-/
import Derived.Test.YthdblnfohbldcaaGreatBlCodeJ
import Derived.Test.YthdblnfohbldcaaGreatLzC5J
import Derived.Test.YthdblnfohbldcaaGreatHuffC5J
import Derived.Laws.EntriesVeiled
import Derived.Test.YthdblnfohbldcaaGreatCzTileJ
namespace Go.Proofs.YthdblnfohbldcaaGreat.Bl
open Go.ChangeShapes Go.WideShapes Go.ChangeAt Go.RowKit
open Go.Proofs.YthdblnfohbldcaaGreat.Base Go.Proofs.YthdblnfohbldcaaGreat.Nums
set_option linter.unusedVariables false
set_option maxRecDepth 100000 in
theorem decRaw_any (a : Option Addr) (n cap : Nat) (raw : Int) (w : World) :
    Calls Tryz.prog 128 #[.slice a n cap, .int .i64 raw] w fun e w' => ((n : Int) = raw ∧ e = .returned (.tuple #[.slice a n cap, .int .i64 0]) ∨ (n : Int) ≠ raw ∧ e = .returned (.tuple #[.slice none 0 0, .int .i64 60])) ∧ w' = w := by
  by_cases h : (n : Int) = raw
  · have hb : ((n : Int) != raw) = false := by simpa using h
    go_enter Tryz.func128, Tryz.ntmps128
    go_wp2_with fail
    go_ret2
    exact ⟨.inl ⟨h, rfl⟩, rfl⟩
  · have hb : ((n : Int) != raw) = true := by simpa using h
    go_enter Tryz.func128, Tryz.ntmps128
    go_wp2_with fail
    go_ret2
    exact ⟨.inr ⟨h, rfl⟩, rfl⟩
theorem codes_cell (w : World) (g k : Nat) (h : w.heap[g]? = some codesO) : w.cell? ⟨g, k, none⟩ = [fnv 127, fnv 128, fnv 14, fnv 12, fnv 15, fnv 13][k]? := by
  rw [cell_of_row _ _ _ _ _ _ h]
  simp
/-- What the codes answer. -/
def unpE (k : Nat) (p : List (BitVec 8)) (raw : Int) : List (BitVec 8) × Int :=
  if k = 0 then (if (p.length : Int) = raw then (p, 0) else ([], 60)) else if k = 1 then ((Lz.decoded p raw).1, ((Lz.decoded p raw).2 : Nat)) else Huff.decoded p raw
/-- Whether a payload with its flag behind it tells raw bytes. -/
def unpOk (bs : List (BitVec 8)) (raw : Int) : Bool :=
  decide (0 < bs.length ∧ raw ≤ 64 * ((bs.length - 1 : Nat) : Int) ∧ (bs.getD (bs.length - 1) 0).toNat < 3 ∧ (unpE (bs.getD (bs.length - 1) 0).toNat (bs.take (bs.length - 1)) raw).2 = 0)
/-- They. -/
def unpT (bs : List (BitVec 8)) (raw : Int) : List (BitVec 8) := (unpE (bs.getD (bs.length - 1) 0).toNat (bs.take (bs.length - 1)) raw).1
set_option maxHeartbeats 4000000 in
set_option maxRecDepth 100000 in
theorem unpack_any (a : Option Addr) (n cap : Nat) (bs : List (BitVec 8)) (raw : Int) (w : World) (hr : Rd w a n bs) (hcap : n ≤ cap) (hm : cap ≤ 9223372036854775807) :
    Calls Tryz.prog 36 #[.slice a n cap, .int .i64 raw] w fun e w' => ∃ v, e = .returned (.tuple #[v, .bool (unpOk bs raw)]) ∧ (unpOk bs raw = true → (∃ ta tn tc, v = .slice ta tn tc ∧ tn ≤ tc ∧ tc ≤ 9223372036854775807 ∧ (ta = none → tc = 0) ∧ Rd w' ta tn (unpT bs raw)) ∨ Own w' w.heap.size v (unpT bs raw)) ∧ Below w.heap.size w w' := by
  have HR := hide hr
  have hn := hr.2.1
  have hl := hr.1
  rcases Nat.eq_zero_or_pos n with rfl | hpos
  · have HU : Hid (unpOk bs raw = false) := by show _ = _; unfold unpOk; rw [decide_eq_false_iff_not]; omega
    clear hr hl
    go_enter Tryz.func36, Tryz.ntmps36
    go_wp2_with fail
    go_ret2
    rw [HU.out]
    exact ⟨_, rfl, (fun e => nomatch e), Below.refl _ _⟩
  obtain ⟨s, rfl⟩ : ∃ s, n = s + 1 := ⟨n - 1, by omega⟩
  have hs : bs.length - 1 = s := by omega
  by_cases hd : 64 * (s : Int) < raw
  · have HU : Hid (unpOk bs raw = false) := by show _ = _; unfold unpOk; rw [decide_eq_false_iff_not, hs]; omega
    have hdd : decide (64 * (s : Int) < raw) = true := by simpa using hd
    clear hr hl hs hpos
    go_enter Tryz.func36, Tryz.ntmps36
    go_wp2_with (go_at_call 81; refine (dense_any (s : Int) raw _ (by omega) (by omega)).mono ?_; rintro e w2 ⟨rfl, rfl⟩)
    go_ret2
    rw [HU.out]
    exact ⟨_, rfl, (fun e => nomatch e), Below.refl _ _⟩
  have hdd : decide (64 * (s : Int) < raw) = false := by simpa using hd
  obtain ⟨f, hf⟩ : ∃ f, (bs.getD s 0).toNat = f := ⟨_, rfl⟩
  obtain ⟨p, hp⟩ : ∃ p, bs.take s = p := ⟨_, rfl⟩
  have HU : Hid (unpOk bs raw = decide (f < 3 ∧ (unpE f p raw).2 = 0)) := by
    show _ = _
    unfold unpOk
    rw [hs, hf, hp]
    exact decide_eq_decide.2 ⟨fun h => h.2.2, fun h => ⟨by omega, by omega, h⟩⟩
  have HT : Hid (unpT bs raw = (unpE f p raw).1) := by show _ = _; unfold unpT; rw [hs, hf, hp]
  have HP : Hid (Rd w a s p) := by rw [← hp]; exact hr.cut s (by omega)
  obtain ⟨b, off, rfl, hb, hc⟩ := hr.2.2 (by omega)
  have hck := hc s (by omega)
  have hf8 : f < 256 := by rw [← hf]; exact (bs.getD s 0).isLt
  rw [hf] at hck
  have HCK := hide (fun W (hW : Below w.heap.size w W) => (hW.cell (p := ⟨b, off + s, none⟩) hb).trans hck)
  clear hr hl hs hpos hc hp hf hd
  go_enter Tryz.func36, Tryz.ntmps36
  go_upto_region 4 with (go_at_call 81; refine (dense_any (s : Int) raw _ (by omega) (by omega)).mono ?_; rintro e w ⟨rfl, rfl⟩)
  have hwf : IntKind.i64.wrap (f : Int) = (f : Int) := by rw [IntKind.wrap_i64]; omega
  go_cut [7, 8] from 21 to 26 (fun s7 s8 wx => ∃ g, s7 = .slice (some ⟨g, 0, none⟩) 3 3 ∧ s8 = .int .i64 (f : Int) ∧ Hid (wx.heap[g]? = some codesO) ∧ Hid (Below w.heap.size w wx))
  case first =>
    go_region_held_law (fun V => V.cell? ⟨b, off + s, none⟩ = some (.int .u8 (f : Int))) (first | exact E1.out | go_keep) (first
      | (go_at_call 82; refine (codes_any _).mono ?_; rintro e w1 ⟨rfl, hw1⟩; have HB1 : Hid (Below w.heap.size w w1) := (by rw [hw1]; exact ((Below.refl _ _).drew).alloc (Nat.le_refl _) _); have HC1 : Hid (w1.heap[w.heap.size]? = some codesO) := (by rw [hw1]; exact heap_alloc_new _ _); have E1 := hide (HCK.out w1 HB1.out); clear hw1))
    all_goals
      go_wp2_with fail
      go_meet
      case rel => exact ⟨w.heap.size, rfl, (by first | rfl | rw [hwf]), HC1.out, HB1.out⟩
  case rest =>
    obtain ⟨g, rfl, rfl, HC, HB⟩ := hcut
    by_cases hf3 : 3 ≤ f
    · have HV : Hid (unpOk bs raw = false) := by show _ = _; rw [HU.out, decide_eq_false_iff_not]; omega
      have hf3i : (3 : Int) ≤ (f : Int) := by omega
      go_wp2_with fail
      go_ret2
      rw [HV.out]
      exact ⟨_, rfl, (fun e => nomatch e), HB.out⟩
    have hfi : ¬ (3 : Int) ≤ (f : Int) := by omega
    have hk3 : f = 0 ∨ f = 1 ∨ f = 2 := by omega
    clear hwf
    have HPC := hide (HP.out.below HB.out)
    have HDR : Hid (f = 0 → ∀ W, Below wc.heap.size wc W → Calls Tryz.prog 128 #[.slice (some ⟨b, off, none⟩) s cap, .int .i64 raw] W fun e w' => ∃ v, e = .returned (.tuple #[v, .int .i64 (unpE f p raw).2]) ∧ ((unpE f p raw).2 = 0 → (∃ ta tn tc, v = .slice ta tn tc ∧ tn ≤ tc ∧ tc ≤ 9223372036854775807 ∧ (ta = none → tc = 0) ∧ Rd w' ta tn (unpE f p raw).1) ∨ Own w' w.heap.size v (unpE f p raw).1) ∧ Below wc.heap.size wc w') := by
      rintro rfl W hW
      refine (decRaw_any (some ⟨b, off, none⟩) s cap raw W).mono ?_
      rintro e w' ⟨he, rfl⟩
      have hpl := HPC.out.1
      rcases he with ⟨h1, rfl⟩ | ⟨h1, rfl⟩
      · have hu : unpE 0 p raw = (p, 0) := by unfold unpE; rw [if_pos rfl, if_pos (by omega)]
        rw [hu]
        exact ⟨_, rfl, fun _ => .inl ⟨_, _, _, rfl, by omega, hm, (fun e => nomatch e), HPC.out.below hW⟩, hW⟩
      · have hu : unpE 0 p raw = ([], 60) := by unfold unpE; rw [if_pos rfl, if_neg (by omega)]
        rw [hu]
        exact ⟨_, rfl, fun h => absurd h (by decide), hW⟩
    have HDL : Hid (f = 1 → ∀ W, Below wc.heap.size wc W → Calls Tryz.prog 12 #[.slice (some ⟨b, off, none⟩) s cap, .int .i64 raw] W fun e w' => ∃ v, e = .returned (.tuple #[v, .int .i64 (unpE f p raw).2]) ∧ ((unpE f p raw).2 = 0 → (∃ ta tn tc, v = .slice ta tn tc ∧ tn ≤ tc ∧ tc ≤ 9223372036854775807 ∧ (ta = none → tc = 0) ∧ Rd w' ta tn (unpE f p raw).1) ∨ Own w' w.heap.size v (unpE f p raw).1) ∧ Below wc.heap.size wc w') := by
      rintro rfl W hW
      refine (Lz.decode_any (some ⟨b, off, none⟩) s cap p raw W (HPC.out.below hW) (by omega) hm).mono ?_
      rintro e w' ⟨v, rfl, ho, hb⟩
      exact ⟨v, rfl, fun _ => .inr (ho.mono (Nat.le_trans HB.out.size hW.size)), below_trans hW hb⟩
    have HDH : Hid (f = 2 → ∀ W, Below wc.heap.size wc W → Calls Tryz.prog 13 #[.slice (some ⟨b, off, none⟩) s cap, .int .i64 raw] W fun e w' => ∃ v, e = .returned (.tuple #[v, .int .i64 (unpE f p raw).2]) ∧ ((unpE f p raw).2 = 0 → (∃ ta tn tc, v = .slice ta tn tc ∧ tn ≤ tc ∧ tc ≤ 9223372036854775807 ∧ (ta = none → tc = 0) ∧ Rd w' ta tn (unpE f p raw).1) ∨ Own w' w.heap.size v (unpE f p raw).1) ∧ Below wc.heap.size wc w') := by
      rintro rfl W hW
      refine (Huff.decode_any (some ⟨b, off, none⟩) s cap p raw W (HPC.out.below hW) (by omega) hm).mono ?_
      rintro e w' ⟨v, rfl, ho, hb⟩
      exact ⟨v, rfl, fun _ => .inr (ho.mono (Nat.le_trans HB.out.size hW.size)), below_trans hW hb⟩
    have HUV : Hid (unpOk bs raw = ((unpE f p raw).2 == 0)) := by
      show _ = _
      rw [HU.out]
      by_cases h0 : (unpE f p raw).2 = 0
      · rw [h0]; simp; omega
      · rw [decide_eq_false (by omega)]; symm; rw [beq_eq_false_iff_ne]; exact h0
    obtain ⟨er, her⟩ : ∃ er, (unpE f p raw).2 = er := ⟨_, rfl⟩
    obtain ⟨T, hT⟩ : ∃ T, (unpE f p raw).1 = T := ⟨_, rfl⟩
    rw [her, hT] at HDR HDL HDH
    rw [her] at HUV
    rw [hT] at HT
    clear her hT HU
    go_upto_region 7 with fail
    go_cut [9, 10] from 31 to 43 (fun s9 s10 wx => s10 = .int .i64 er ∧ Hid (er = 0 → (∃ ta tn tc, s9 = .slice ta tn tc ∧ tn ≤ tc ∧ tc ≤ 9223372036854775807 ∧ (ta = none → tc = 0) ∧ Rd wx ta tn T) ∨ Own wx w.heap.size s9 T) ∧ Hid (Below wc.heap.size wc wx))
    case first =>
      rcases hk3 with rfl | rfl | rfl
      · have HCF : Hid (∀ W, Below wc.heap.size wc W → W.cell? ⟨g, 1, none⟩ = some (.func (Fn.func 128) #[] #[])) := fun W hW => codes_cell W g 1 ((hW.block g (Array.getElem?_eq_some_iff.1 HC.out).1).trans HC.out)
        have c1 := HCF.out wc (Below.refl _ _)
        have HDX := hide (HDR.out rfl)
        clear hfi hf3 hf8
        go_region_held_law (fun V => V.cell? ⟨g, 1, none⟩ = some (.func (Fn.func 128) #[] #[])) (first | exact E1.out | go_keep) (first
          | (go_at_call 128; refine (HDX.out _ (Below.refl _ _).drew).mono ?_; rintro e w5 ⟨v5, rfl, hv5, hb5⟩; have HV5 := hide hv5; have HB5 := hide hb5; have E1 := hide (HCF.out w5 hb5); clear hv5 hb5))
        all_goals
          go_wp2_with fail
          go_meet
          case rel => exact ⟨rfl, HV5.out, HB5.out⟩
      · have HCF : Hid (∀ W, Below wc.heap.size wc W → W.cell? ⟨g, 3, none⟩ = some (.func (Fn.func 12) #[] #[])) := fun W hW => codes_cell W g 3 ((hW.block g (Array.getElem?_eq_some_iff.1 HC.out).1).trans HC.out)
        have c1 := HCF.out wc (Below.refl _ _)
        have HDX := hide (HDL.out rfl)
        clear hfi hf3 hf8
        go_region_held_law (fun V => V.cell? ⟨g, 3, none⟩ = some (.func (Fn.func 12) #[] #[])) (first | exact E1.out | go_keep) (first
          | (go_at_call 12; refine (HDX.out _ (Below.refl _ _).drew).mono ?_; rintro e w5 ⟨v5, rfl, hv5, hb5⟩; have HV5 := hide hv5; have HB5 := hide hb5; have E1 := hide (HCF.out w5 hb5); clear hv5 hb5))
        all_goals
          go_wp2_with fail
          go_meet
          case rel => exact ⟨rfl, HV5.out, HB5.out⟩
      · have HCF : Hid (∀ W, Below wc.heap.size wc W → W.cell? ⟨g, 5, none⟩ = some (.func (Fn.func 13) #[] #[])) := fun W hW => codes_cell W g 5 ((hW.block g (Array.getElem?_eq_some_iff.1 HC.out).1).trans HC.out)
        have c1 := HCF.out wc (Below.refl _ _)
        have HDX := hide (HDH.out rfl)
        clear hfi hf3 hf8
        go_region_held_law (fun V => V.cell? ⟨g, 5, none⟩ = some (.func (Fn.func 13) #[] #[])) (first | exact E1.out | go_keep) (first
          | (go_at_call 13; refine (HDX.out _ (Below.refl _ _).drew).mono ?_; rintro e w5 ⟨v5, rfl, hv5, hb5⟩; have HV5 := hide hv5; have HB5 := hide hb5; have E1 := hide (HCF.out w5 hb5); clear hv5 hb5))
        all_goals
          go_wp2_with fail
          go_meet
          case rel => exact ⟨rfl, HV5.out, HB5.out⟩
    case rest =>
      obtain ⟨rfl, HV, HBX⟩ := hcut
      go_wp2_with fail
      go_ret2
      rw [HUV.out, HT.out]
      exact ⟨_, rfl, fun h => HV.out (by simpa using h), below_trans HB.out HBX.out⟩
end Go.Proofs.YthdblnfohbldcaaGreat.Bl
/-
  Open: its ways out ahead of the cut.
-/
namespace Go.Proofs.YthdblnfohbldcaaGreat.Bl
open Go.ChangeShapes Go.WideShapes Go.ChangeAt Go.RowKit
open Go.Proofs.YthdblnfohbldcaaGreat.Base Go.Proofs.YthdblnfohbldcaaGreat.Nums Go.Proofs.YthdblnfohbldcaaGreat.Crc
set_option linter.unusedVariables false
theorem own_le0 {w : World} {base cap : Nat} {a : Option Addr} {bs : List (BitVec 8)} (h : Own w base (.slice a bs.length cap) bs) : bs.length ≤ cap := by
  rcases h.2 with ⟨h1, h2⟩ | ⟨g, c, cur, h1, _⟩
  · omega
  · have h2 := h1
    simp only [Value.slice.injEq] at h2
    obtain ⟨rfl, _, rfl⟩ := h2
    exact Own.cap h
set_option maxRecDepth 100000 in
theorem open_range (t : Value) (raw : Int) (w : World) (h : raw < 1 ∨ 65536 < raw) :
    Calls Tryz.prog 10 #[t, .int .i64 raw] w fun e w' => e = .returned (.tuple #[.pointer none, .int .i64 3]) ∧ w' = w := by
  by_cases h1 : raw < 1
  · go_enter Tryz.func10, Tryz.ntmps10
    go_wp2_with fail
    go_ret2
    exact ⟨rfl, rfl⟩
  · have h2 : 65536 < raw := by omega
    go_enter Tryz.func10, Tryz.ntmps10
    go_wp2_with fail
    go_ret2
    exact ⟨rfl, rfl⟩
set_option maxHeartbeats 2000000 in
set_option maxRecDepth 100000 in
/-- A tile whose sum is not right, or that is too short. -/
theorem open_sum (a : Option Addr) (n cap : Nat) (bs : List (BitVec 8)) (raw : Int) (w : World) (hr : Rd w a n bs) (hcap : n ≤ cap) (hm : cap ≤ 9223372036854775807) (h1 : 1 ≤ raw) (h2 : raw ≤ 65536) (he : openErr bs ≠ 0) :
    Calls Tryz.prog 10 #[.slice a n cap, .int .i64 raw] w fun e w' => e = .returned (.tuple #[.pointer none, .int .i64 (openErr bs : Nat)]) ∧ Below w.heap.size w w' := by
  have HO := hide (Crc.open_any a n cap bs w hr hcap hm)
  have h1n : ¬ raw < 1 := by omega
  have h2n : ¬ 65536 < raw := by omega
  obtain ⟨E, hE⟩ : ∃ E, openErr bs = E := ⟨_, rfl⟩
  rw [hE] at HO he ⊢
  have hne : ((E : Int) != 0) = true := by simpa using he
  clear hE hr
  go_enter Tryz.func10, Tryz.ntmps10
  go_wp2_with (go_at_call 11; refine HO.out.mono ?_; rintro e w1 ⟨v, rfl, hg, hb⟩; have HB := hide hb; clear hg hb)
  go_ret2
  exact ⟨rfl, HB.out⟩
set_option maxHeartbeats 2000000 in
set_option maxRecDepth 100000 in
/-- A tile whose payload tells no such raw bytes. -/
theorem open_payload (a : Option Addr) (n cap : Nat) (bs : List (BitVec 8)) (raw : Int) (w : World) (hr : Rd w a n bs) (hcap : n ≤ cap) (hm : cap ≤ 9223372036854775807) (h1 : 1 ≤ raw) (h2 : raw ≤ 65536) (he : openErr bs = 0) (hl : (openBody bs).length ≤ 140737488355328) (hu : unpOk (openBody bs) raw = false) :
    Calls Tryz.prog 10 #[.slice a n cap, .int .i64 raw] w fun e w' => e = .returned (.tuple #[.pointer none, .int .i64 60]) ∧ Below w.heap.size w w' := by
  have HO := hide (Crc.open_any a n cap bs w hr hcap hm)
  rw [he] at HO
  have h1n : ¬ raw < 1 := by omega
  have h2n : ¬ 65536 < raw := by omega
  obtain ⟨P, hP⟩ : ∃ P, openBody bs = P := ⟨_, rfl⟩
  rw [hP] at HO hl hu
  have HU := hide hu
  clear hP hr hu
  go_enter Tryz.func10, Tryz.ntmps10
  go_wp2_with (first
    | (go_at_call 11; refine HO.out.mono ?_; rintro e w1 ⟨v, rfl, ⟨ga, gn, gc, rfl, hgn, hg⟩, hb⟩; have HB := hide hb; have HG := hide hg; have HGN := hide hgn; clear hg hb hgn)
    | (go_at_call 36; refine (unpack_any ga gn gc P raw _ (by rw [HGN.out] at HG ⊢; exact Got.rd HG.out hl) (by rw [HGN.out] at HG ⊢; exact own_le0 HG.out) (Own.room HG.out)).mono ?_; rintro e w2 ⟨v2, rfl, _, hb2⟩; rw [HU.out]; have HB2 := hide (below_trans HB.out hb2); clear hb2))
  go_ret2
  exact ⟨rfl, HB2.out⟩
end Go.Proofs.YthdblnfohbldcaaGreat.Bl
/-
  A slice that reads as bytes, with its room.
-/
namespace Go.Proofs.YthdblnfohbldcaaGreat.Bl
open Go.ChangeShapes Go.WideShapes Go.ChangeAt Go.RowKit
open Go.Proofs.YthdblnfohbldcaaGreat.Base
set_option linter.unusedVariables false
def SlR (w : World) (a : Option Addr) (n c : Nat) (bs : List (BitVec 8)) : Prop := bs.length = n ∧ Rd w a n bs ∧ n ≤ c ∧ c ≤ 9223372036854775807 ∧ (a = none → n = 0 ∧ c = 0)
theorem SlR.below {w w' : World} {a : Option Addr} {n c : Nat} {bs : List (BitVec 8)} (h : SlR w a n c bs) (hb : Below w.heap.size w w') : SlR w' a n c bs := ⟨h.1, h.2.1.below hb, h.2.2⟩
theorem slr_own {w : World} {base : Nat} {v : Value} {bs : List (BitVec 8)} (h : Own w base v bs) (hl : bs.length ≤ 140737488355328) : ∃ a c, v = .slice a bs.length c ∧ SlR w a bs.length c bs := by
  obtain ⟨a, c, rfl⟩ := h.shape
  exact ⟨a, c, rfl, rfl, Got.rd h hl, own_le0 h, Own.room h, Got.nil h⟩
end Go.Proofs.YthdblnfohbldcaaGreat.Bl
