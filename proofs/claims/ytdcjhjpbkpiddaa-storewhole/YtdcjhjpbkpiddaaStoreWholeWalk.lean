/-
  StoreWhole: blobs written side by side.
-/
import Derived.Test.YtdcjhjpbkpiddaaStRs2
import Derived.Deep.Cut
import Derived.Deep.CutRange
import Derived.Deep.RegionHeldLaw
import Derived.Test.YtdcjhjpbkpiddaaStHead
import Derived.Test.YtdcjhjpbkpiddaaStSame
namespace Go.Proofs.Ytdcjhjpbkpiddaa.St
open Go.ChangeShapes Go.WideShapes Go.ChangeAt Go.RowKit
open Go.Proofs.Ytdcjhjpbkpiddaa.Base
set_option linter.unusedVariables false
theorem lbf_zero (w : World) : LBF (w.alloc (.cells #[.slice none 0 0, .bool false, .bool false, .bool false, .int .i64 0, .slice none 0 0, .bool false, .bool false, .bool false, .int .i64 0, .slice none 0 0, .bool false, .bool false, .bool false, .int .i64 0, .slice none 0 0, .bool false, .bool false, .bool false, .int .i64 0] 28)) w.heap.size (fun _ c => bookF (.slice none 0 0) zeroBk c) := by
  refine ⟨_, heap_alloc_new _ _, rfl, fun k c hk hc => ?_⟩
  match k, hk, c, hc with
  | 0, _, 0, _ => rfl
  | 0, _, 1, _ => rfl
  | 0, _, 2, _ => rfl
  | 0, _, 3, _ => rfl
  | 0, _, 4, _ => rfl
  | 1, _, 0, _ => rfl
  | 1, _, 1, _ => rfl
  | 1, _, 2, _ => rfl
  | 1, _, 3, _ => rfl
  | 1, _, 4, _ => rfl
  | 2, _, 0, _ => rfl
  | 2, _, 1, _ => rfl
  | 2, _, 2, _ => rfl
  | 2, _, 3, _ => rfl
  | 2, _, 4, _ => rfl
  | 3, _, 0, _ => rfl
  | 3, _, 1, _ => rfl
  | 3, _, 2, _ => rfl
  | 3, _, 3, _ => rfl
  | 3, _, 4, _ => rfl
set_option maxHeartbeats 20000000 in
set_option maxRecDepth 100000 in
theorem walk (b off len cap : Nat) (T : Nat → Pc) (a : Option Addr) (w : World) (ha : 0 < len → a = some ⟨b, off, none⟩ ∧ b < w.heap.size) (hT : ∀ i, i < len → PcAt w w.heap.size b off i (T i)) (hlen : len ≤ 140737488351232) :
    Calls Try.prog 3 #[.slice a len cap] w fun e w' => e = .returned (.bool true) ∧ Below w.heap.size w w' := by
  have HA := hide ha
  have HT := hide hT
  clear ha hT
  go_enter Try.func3, Try.ntmps3
  go_wp2_with (go_at_call 4; refine (new_any _).mono ?_; rintro e w1 ⟨s, bm, rfl, hs, h1, h2, hb1⟩; have HS1 := hide hs; have HLS := hide (And.intro h1 h2); have HB1 := hide hb1; clear hs h1 h2 hb1)
  obtain ⟨w2, hw2⟩ : ∃ w2, w1.alloc (.cells #[.slice none 0 0, .bool false, .bool false, .bool false, .int .i64 0, .slice none 0 0, .bool false, .bool false, .bool false, .int .i64 0, .slice none 0 0, .bool false, .bool false, .bool false, .int .i64 0, .slice none 0 0, .bool false, .bool false, .bool false, .int .i64 0] 28) = w2 := ⟨_, rfl⟩
  obtain ⟨lb, hlb⟩ : ∃ lb, w1.heap.size = lb := ⟨_, rfl⟩
  have HLB : Hid (LBF w2 lb (fun _ c => bookF (.slice none 0 0) zeroBk c)) := by rw [← hw2, ← hlb]; exact lbf_zero w1
  have HB12 : Hid (Below w1.heap.size w1 w2) := by rw [← hw2]; exact (Below.refl _ _).alloc (Nat.le_refl _) _
  have HB2 : Hid (Below w.heap.size w w2) := below_trans HB1.out HB12.out
  have HMK : Hid (Mk w2 w.heap.size s bm lb 0 (.map []) (fun _ => 0)) := ⟨⟨HS1.out.at_.grown (below_grown HB12.out) (by simp), HS1.out.map.grown (below_grown HB12.out) (by simp), HS1.out.ne⟩, fun j hj => by omega, fun kl e => by simp [Maps.has] at e, by simp [Maps.size], Maps.tidy_empty, HLB.out, ⟨HLS.out.1, HLS.out.2, by rw [← hlb]; exact HB1.out.size⟩, ⟨by have := HS1.out.at_.lt; omega, by have := HS1.out.map.lt; omega⟩, fun j hj => by omega, fun j hj => by omega, fun i j hi => by omega⟩
  rw [hw2, hlb]
  clear hw2 hlb HS1 HLB HB12 HB1 HLS
  go_loopw [5] (fun sk wr => ∃ (k : Nat) (D : DataW Unit) (bl : Nat → Nat), k ≤ 4 ∧ .int .i64 (k : Int) = sk ∧ Hid (Mk wr w.heap.size s bm lb k D bl) ∧ Hid (Below w.heap.size w wr)) (fun sk _ => 4 - (intOf sk).toNat)
  case atStart => exact ⟨0, _, _, by omega, rfl, HMK, HB2⟩
  case round =>
    clear HMK HB2
    obtain ⟨k, D, bl, hk4, rfl, H, HB⟩ := hrel
    by_cases hk : k < 4
    · have hki : (k : Int) < 4 := by omega
      go_wp2_with (first
        | (go_at_call 6; refine (name_any k hk _).mono ?_; rintro e w5 ⟨rfl, hb5⟩; have HM5 := hide (H.out.below hb5); have HB5 : Hid (Below w.heap.size w w5) := below_trans HB.out hb5; have HCR := hide (create_any s bm k D 0 0 0 (nameOf k) w5 HM5.out.store (okNameOf k hk) (by rw [name_size]; omega) (HM5.out.none hk) (by omega)); clear hb5)
        | (go_at_call 5; refine HCR.out.mono ?_; rintro e w6 ⟨b6, rfl, hs6, hb6, hl6, hk6⟩; have HM6 := hide (HM5.out.add hk HB5.out.size hs6 hb6 hl6 hk6); have HB6 : Hid (Below w.heap.size w w6) := Kept2.below HB5.out hk6 (fun i e => by have := Option.some.inj e; have := HM5.out.low.1; omega) (fun i e => by have := Option.some.inj e; have := HM5.out.low.2.1; omega); clear hs6 hb6 hl6 hk6))
      go_roundw
      case rel => exact ⟨k + 1, _, _, by omega, by go_num, HM6, HB6⟩
      case measure => simp [intOf]; omega
    · obtain rfl : k = 4 := by omega
      obtain ⟨hf, hi⟩ := H.out.inv HB.out.size
      have HF := hide hf
      have HI := hide hi
      obtain ⟨base, hbase⟩ : ∃ base, wr.heap.size = base := ⟨_, rfl⟩
      rw [hbase] at HF HI
      clear hf hi H hbase
      go_wp2_with fail
      go_loopw [6, 7] (fun sm si wr => ∃ (m i : Nat) (u : Nat → Value) (X : Nat → Bk), i ≤ len ∧ m ≤ 268435456 ∧ .int .i64 (m : Int) = sm ∧ .int .i64 (i : Int) = si ∧ Hid (Inv wr s bm lb base D bl u X X) ∧ Hid (∀ k, k < 4 → (X k).xs.length ≤ m) ∧ Hid (Below w.heap.size w wr)) (fun _ si _ => len - (intOf si).toNat)
      case atStart => exact ⟨0, 0, _, _, by omega, by omega, rfl, rfl, HI, fun k hk => Nat.le_refl _, HB⟩
      case round =>
        clear HI HB
        obtain ⟨m, i, u, X, hi4, hm4, rfl, rfl, HI, HX, HB⟩ := hrel
        by_cases hi : i < len
        · have hii : (i : Int) < (len : Int) := by omega
          obtain ⟨rfl, hbw⟩ := HA.out (by omega)
          obtain ⟨c0, c1, c2, c3, c4, c5, c6, c7, c8, c9, c10⟩ := HT.out i hi
          have k0 := (HB.out.cell (p := ⟨b, off + i * 5, none⟩) hbw).trans c0
          have k1 := (HB.out.cell (p := ⟨b, off + i * 5 + 1, none⟩) hbw).trans c1
          have k2 := (HB.out.cell (p := ⟨b, off + i * 5 + 2, none⟩) hbw).trans c2
          have k3 := (HB.out.cell (p := ⟨b, off + i * 5 + 3, none⟩) hbw).trans c3
          have k4 := (HB.out.cell (p := ⟨b, off + i * 5 + 4, none⟩) hbw).trans c4
          have HRD := hide c5
          have HLO := hide c6
          have HNIL := hide c7
          have HCAP := hide c8
          generalize T i = t at *
          obtain ⟨wh, da, dl, dc, bs, stp, att, pb⟩ := t
          simp only at k0 k1 k2 k3 k4 HRD HLO HNIL HCAP c9 c10
          clear c0 c1 c2 c3 c4 c5 c6 c7 c8
          go_wp2_with fail
          obtain ⟨g, hg⟩ : ∃ g, wr.heap.size = g := ⟨_, rfl⟩
          obtain ⟨w3, hw3⟩ : ∃ w3, wr.alloc (.cells #[.int .i64 wh, .slice da dl dc, .bool stp, .int .i64 att, .bool pb] 33) = w3 := ⟨_, rfl⟩
          have HP3 : Hid (PB w3 g wh (.slice da dl dc) stp att pb) := by rw [← hw3, ← hg]; exact heap_alloc_new _ _
          have HB3 : Hid (Below wr.heap.size wr w3) := by rw [← hw3]; exact (Below.refl _ _).alloc (Nat.le_refl _) _
          have HW3 : Hid (Below w.heap.size w w3) := below_trans HB.out HB3.out
          have HGW : Hid (w.heap.size ≤ g) := by rw [← hg]; exact HB.out.size
          rw [hw3]
          refine (fit_any da dl dc bs w3 (HRD.out.below HW3.out) HCAP.out.1 HCAP.out.2 HNIL.out).mono ?_
          rintro e w4 ⟨dl', rfl, hrd', hdl', hdll, rfl⟩
          obtain ⟨w5, hw5⟩ : ∃ w5, w4.setCell ⟨g, 1, none⟩ (.slice da dl' dc) = w5 := ⟨_, rfl⟩
          have HG5 : Hid (w4.grownBy w5 (some g)) := by rw [← hw5]; exact grown_cell (World.grownBy.refl _ _) _ _
          have HP5 : Hid (PB w5 g wh (.slice da dl' dc) stp att pb) := by rw [← hw5]; exact HP3.out.set _
          obtain ⟨p0, p1, p2, p3, p4⟩ := HP3.out.cells
          have f1 := HP3.out.frozen 1
          obtain ⟨q0, q1, q2, q3, q4⟩ := HP5.out.cells
          have hdi : (dl' : Int) ≤ 268435456 := by omega
          rw [hg]
          clear k0 k1 k2 k3 k4 hw3
          by_cases hmm : m + dl' ≤ 268435456
          · have hmi : ¬ (268435456 : Int) < (m : Int) + (dl' : Int) := by omega
            obtain ⟨k, hk, hrem⟩ := rem_four wh
            have HRS : Hid (Rs w w5 s bm lb base D bl u X X g wh (.slice da dl' dc) stp att pb) := by
              have hI3 := HI.out.below HB3.out
              have hgb : base ≤ g := by rw [← hg]; exact HI.out.size
              have hgl : g < w4.heap.size := by
                by_cases h : g < w4.heap.size
                · exact h
                · have := HP3.out; unfold PB at this; rw [Array.getElem?_eq_none (by omega)] at this; cases this
              have hfar : ∀ j, j < 8 → (u j).ownBlock ≠ some g := fun j hj e => by obtain ⟨xs, hx⟩ := HI.out.own8 j hj; have := (blk hx g e).2; omega
              obtain ⟨R, B, G, hs, hG⟩ := hI3.store
              have f := HF.out
              have hK : ∀ i, i < w4.heap.size → i ≠ g → w5.heap[i]? = w4.heap[i]? := fun i hi hne => HG5.out.block i hi (by simpa using hne)
              have hlt := f.lt
              refine ⟨⟨⟨R, B, G, ⟨hs.at_.grown HG5.out (by simp; omega), hs.map.grown HG5.out (by simp; omega), hs.ne⟩, hG⟩, fun k hk => (hI3.blob k hk).grown HG5.out (by have := f.ltb k hk; simp; omega), hI3.book.grown HG5.out (by simp; omega), fun k hk => own_block (hI3.ownb k hk) (fun i e => hK i (blk (hI3.ownb k hk) i e).2 (fun e2 => hfar k (by omega) (e2 ▸ e))), fun k hk => own_block (hI3.ownl k hk) (fun i e => hK i (blk (hI3.ownl k hk) i e).2 (fun e2 => hfar (4 + k) (by omega) (e2 ▸ e))), hI3.apart, Nat.le_trans hI3.size HG5.out.size, hI3.okX⟩, HP5.out, hgb, Nat.lt_of_lt_of_le hgl HG5.out.size, hfar, HW3.out.grown HG5.out HW3.out.size (fun i e => by have := Option.some.inj e; have := HGW.out; omega)⟩
            have HRW : Hid (Rd w da dl' (fitted bs)) := by
              have h := hrd'.1
              have h2 := HRD.out.cut dl' hdll
              have e : fitted bs = bs.take dl' := by
                unfold fitted at h ⊢
                rw [List.length_take] at h
                have h3 := HRD.out.1
                by_cases hx : bs.length ≤ 268435456
                · rw [List.take_of_length_le hx, List.take_of_length_le (by omega)]
                · rw [show dl' = 268435456 by omega]
              rw [e]
              exact h2
            have HLOW : Hid (0 < dl' → ∀ ad, da = some ad → ad.block < w.heap.size) := fun h ad e => HLO.out (by omega) ad e
            have HNI : Hid (da = none → dl' = 0 ∧ dc = 0) := fun e => ⟨by have := (HNIL.out e).1; omega, (HNIL.out e).2⟩
            have HMC : Hid (dl' ≤ dc) := by have := HCAP.out.1; show _ ≤ _; omega
            have HFL : Hid ((fitted bs).length = dl') := hrd'.1
            go_upto_if 56 with fail
            go_cut [9] from 30 to 218 (fun s9 wx => .int .i64 (k : Int) = s9 ∧ w5 = wx)
            case first =>
              rcases hrem with ⟨hr0, hr⟩ | ⟨hr0, hr⟩
              · go_wp2_with fail
                go_meet
                case rel => exact ⟨by rw [hr], rfl⟩
              · go_wp2_with fail
                go_meet
                case rel => exact ⟨by go_num, rfl⟩
            case rest =>
              obtain ⟨rfl, rfl⟩ := hcut
              clear hrem
              go_upto_if 60 with fail
              go_cut [10] from 30 to 218 (fun s10 wx => ∃ X', Hid (Rs w wx s bm lb base D bl u X' X' g wh (.slice da dl' dc) stp att pb) ∧ Hid (∀ j, j < 4 → (X' j).xs.length ≤ m))
              case first =>
                as_aux_lemma =>
                  cases stp with
                  | false =>
                    go_wp2_with fail
                    go_meet
                    case rel => exact ⟨X, HRS, HX⟩
                  | true =>
                    obtain ⟨O, V, E, hO, hV, hE, hcase⟩ := stop_cases (X k) att
                    have HO := hide hO
                    have HV := hide hV
                    have HE := hide hE
                    have HCA := hide hcase
                    clear hO hV hE hcase
                    go_wp2_with fail
                    go_region_held_law (fun V => V.cell? ⟨g, 3, none⟩ = some (.int .i64 att)) (first | exact E7.out | exact E6.out | go_keep) (first
                      | (go_at_call 6; refine (name_any k hk _).mono ?_; rintro e w6 ⟨rfl, hb6⟩; have HR6 := hide (HRS.out.below (below_trans ((Below.refl _ _).drew) hb6)); have E6 : Hid (w6.cell? ⟨g, 3, none⟩ = some (.int .i64 att)) := HR6.out.pb.cells.2.2.2.1; have HST := hide (HR6.out.stop HF.out k hk att); rw [HE.out] at HST; clear hb6)
                      | (go_at_call 9; refine HST.out.mono ?_; rintro e w7 ⟨rfl, hr7⟩; have HR7 := hide hr7; have E7 : Hid (w7.cell? ⟨g, 3, none⟩ = some (.int .i64 att)) := HR7.out.pb.cells.2.2.2.1; clear hr7))
                    all_goals
                      obtain ⟨b0, b1, b2, b3, b4⟩ := HR7.out.inv.book.five hk (bookAt u X k)
                      rw [HO.out] at b1
                      rw [HV.out] at b2
                      have f3 := HR7.out.inv.book.frozen (k * 5 + 3)
                      generalize decide ((X k).sp ≠ -1) = S at b3
                      generalize (if (X k).sp = -1 then 0 else (X k).sp) = A at b4
                      clear b0 HST HR6 E6
                      rcases HCA.out with ⟨rfl, rfl, hx⟩ | ⟨rfl, rfl, rfl, hx⟩ | ⟨rfl, rfl, rfl, hx⟩
                      · rw [hx, updX_self] at HR7
                        clear hx
                        go_wp2_with fail
                        go_meet
                        case rel => exact ⟨X, HR7, HX⟩
                      · rw [hx, updX_self] at HR7
                        clear hx
                        go_wp2_with fail
                        go_meet
                        case rel => exact ⟨X, HR7, HX⟩
                      · rw [hx] at HR7
                        clear hx
                        obtain ⟨w8, hw8⟩ : ∃ w8, w7.setCell ⟨lb, k * 5 + 3, none⟩ (.bool true) = w8 := ⟨_, rfl⟩
                        obtain ⟨w9, hw9⟩ : ∃ w9, w8.setCell ⟨lb, k * 5 + 4, none⟩ (.int .i64 att) = w9 := ⟨_, rfl⟩
                        have HL8 : Hid (LBF w8 lb (setF (fun k c => bookF (u (4 + k)) (X k) c) k 3 (.bool true))) := by rw [← hw8]; exact HR7.out.inv.book.set k 3 hk (by omega) _
                        have HL9 : Hid (LBF w9 lb (setF (setF (fun k c => bookF (u (4 + k)) (X k) c) k 3 (.bool true)) k 4 (.int .i64 att))) := by rw [← hw9]; exact HL8.out.set k 4 hk (by omega) _
                        have c84 : w8.cell? ⟨lb, k * 5 + 4, none⟩ = some (.int .i64 A) := by rw [← hw8]; exact lbf_other HR7.out.inv.book k 3 4 hk (by omega) (by omega) (by omega) _ _ b4
                        have f84 := HL8.out.frozen (k * 5 + 4)
                        have c94 : w9.cell? ⟨lb, k * 5 + 4, none⟩ = some (.int .i64 att) := by rw [← hw9]; exact lbf_same HL8.out k 4 hk (by omega) _
                        have f94 := HL9.out.frozen (k * 5 + 4)
                        have HP8 : Hid (PB w8 g wh (.slice da dl' dc) true att pb) := by rw [← hw8]; exact HR7.out.piece HF.out _ _
                        have HP9 : Hid (PB w9 g wh (.slice da dl' dc) true att pb) := by rw [← hw9]; exact pb_book HP8.out (by have h1 := HR7.out.gb; have h2 := HF.out.lt.2.2; omega)
                        have p8 := HP8.out.cells.2.2.2.1
                        have p9 := HP9.out.cells.2.2.2.1
                        by_cases hA : att < 0
                        · have HR9 : Hid (Rs w (w9.setCell ⟨lb, k * 5 + 4, none⟩ (.int .i64 0)) s bm lb base D bl u (updX X k ⟨(X k).xs, (X k).st, max att 0, (X k).sd⟩) (updX X k ⟨(X k).xs, (X k).st, max att 0, (X k).sd⟩) g wh (.slice da dl' dc) true att pb) := by rw [← hw9, ← hw8]; exact HR7.out.stopBook0 HF.out k hk hA
                          go_wp2_with fail
                          go_meet
                          case rel => exact ⟨_, HR9, len_upd X k m _ HX.out (HX.out k hk)⟩
                        · have HR9 : Hid (Rs w w9 s bm lb base D bl u (updX X k ⟨(X k).xs, (X k).st, max att 0, (X k).sd⟩) (updX X k ⟨(X k).xs, (X k).st, max att 0, (X k).sd⟩) g wh (.slice da dl' dc) true att pb) := by rw [← hw9, ← hw8]; exact HR7.out.stopBook HF.out k hk hA
                          go_wp2_with fail
                          go_meet
                          case rel => exact ⟨_, HR9, len_upd X k m _ HX.out (HX.out k hk)⟩
              case rest =>
                obtain ⟨X2, HRS2, HX2⟩ := hcut
                clear HRS HX HI q0 q1 q2 q3 q4
                have HLL : Hid ((X2 k).xs.length + dl' ≤ 268435456) := by have := HX2.out k hk; show _ ≤ _; omega
                have HOK : Hid ((X2 k).ok) := HRS2.out.inv.okX k hk
                obtain ⟨r, hre⟩ : ∃ r, appE (X2 k) (fitted bs) = r := ⟨_, rfl⟩
                have hrr : (r != r) = false := by simp
                go_upto_region 31 with fail
                go_cut [109] from 30 to 218 (fun s109 wx => .bool false = s109 ∧ ∃ u3 X3, Hid (Rs w wx s bm lb base D bl u3 X3 X3 g wh (.slice da dl' dc) stp att pb) ∧ Hid (∀ j, j < 4 → (X3 j).xs.length ≤ m + dl'))
                case first =>
                  as_aux_lemma =>
                    have q1 := HRS2.out.pb.cells.2.1
                    go_region_held_law (fun V => V.cell? ⟨g, 1, none⟩ = some (.slice da dl' dc)) (first | exact E8.out | exact E7.out | exact E6.out | go_keep) (first
                      | (go_at_call 6; refine (name_any k hk _).mono ?_; rintro e w6 ⟨rfl, hb6⟩; have HR6 := hide (HRS2.out.below (below_trans ((Below.refl _ _).drew) hb6)); have E6 : Hid (w6.cell? ⟨g, 1, none⟩ = some (.slice da dl' dc)) := HR6.out.pb.cells.2.1; have HAP := hide (HR6.out.append HF.out k hk da dl' dc (fitted bs) HRW.out HLOW.out HNI.out HMC.out HLL.out); rw [hre] at HAP; clear hb6)
                      | (go_at_call 10; refine HAP.out.mono ?_; rintro e w7 ⟨rfl, u7, hr7⟩; have HR7 := hide hr7; have E7 : Hid (w7.cell? ⟨g, 1, none⟩ = some (.slice da dl' dc)) := HR7.out.pb.cells.2.1; have HWA := hide (HR7.out.wants HF.out k hk HOK.out da dl' dc (fitted bs) HRW.out HNI.out HMC.out HLL.out); rw [hre] at HWA; clear hr7)
                      | (go_at_call 11; refine HWA.out.mono ?_; rintro e w8 ⟨rfl, u8, hr8⟩; have HR8 := hide hr8; have E8 : Hid (w8.cell? ⟨g, 1, none⟩ = some (.slice da dl' dc)) := HR8.out.pb.cells.2.1; clear hr8))
                    all_goals
                      go_wp2_with fail
                      go_meet
                      case rel => exact ⟨rfl, u8, _, HR8, len_upd X2 k (m + dl') _ (fun j hj => by have := HX2.out j hj; omega) (by have h1 := appX_len (X2 k) (fitted bs); have h2 := HX2.out k hk; rw [HFL.out] at h1; omega)⟩
                case rest =>
                  obtain ⟨rfl, u3, X3, HRS3, HX3⟩ := hcut
                  clear HRS2 HX2 hre hrr HLL HOK
                  have h111 := HRS3.out.pb.cells.2.2.2.2
                  go_upto_if 111 with fail
                  go_cut [11] from 30 to 218 (fun s11 wx => ∃ X4, Hid (Rs w wx s bm lb base D bl u3 X4 X4 g wh (.slice da dl' dc) stp att pb) ∧ Hid (∀ j, j < 4 → (X4 j).xs.length ≤ m + dl'))
                  case first =>
                    as_aux_lemma =>
                      cases pb with
                      | false =>
                        go_wp2_with fail
                        go_meet
                        case rel => exact ⟨X3, HRS3, HX3⟩
                      | true =>
                        obtain ⟨O, V, S, E, c2, c1, hO, hV, hS, hE, h2, h1, hsp, hxs, hcase⟩ := pub_cases (X3 k) (HRS3.out.inv.okX k hk)
                        have HO := hide hO
                        have HV := hide hV
                        have HS := hide hS
                        have HE := hide hE
                        have HY := hide (And.intro h2 (And.intro h1 (And.intro hsp hxs)))
                        clear hO hV hS hE h2 h1 hsp hxs
                        rcases hcase with ⟨rfl, rfl, rfl, rfl, rfl, rfl⟩ | ⟨rfl, rfl, rfl, rfl, rfl⟩ | ⟨rfl, rfl, rfl, rfl, rfl, rfl⟩ | ⟨rfl, rfl, rfl, rfl, rfl, rfl⟩
                        all_goals
                          go_wp2_with (first
                            | (go_at_call 6; refine (name_any k hk _).mono ?_; rintro e w6 ⟨rfl, hb6⟩; have HR6 := hide (HRS3.out.below hb6); have HPU := hide (HR6.out.publish HF.out k hk); rw [HE.out] at HPU; clear hb6)
                            | (go_at_call 12; refine HPU.out.mono ?_; rintro e w7 ⟨rfl, hr7⟩
                               have HR7 := hide hr7
                               clear hr7
                               obtain ⟨b0, b1, b2, b3, b4⟩ := HR7.out.inv.book.five hk (bookAt u3 X3 k)
                               rw [HO.out] at b1
                               rw [HV.out] at b2
                               rw [HS.out] at b3
                               have f2 := HR7.out.inv.book.frozen (k * 5 + 2)
                               obtain ⟨w8, hw8⟩ : ∃ w8, w7.setCell ⟨lb, k * 5 + 2, none⟩ (.bool (pubX (X3 k)).sd) = w8 := ⟨_, rfl⟩
                               have HR9 : Hid (Rs w (w8.setCell ⟨lb, k * 5 + 1, none⟩ (.bool (decide ((pubX (X3 k)).st = 2)))) s bm lb base D bl u3 (updX X3 k (pubX (X3 k))) (updX X3 k (pubX (X3 k))) g wh (.slice da dl' dc) stp att true) := by rw [← hw8]; exact HR7.out.pubBook HF.out k hk (pubX (X3 k)) _ _ HY.out.2.2.2 HY.out.2.2.1 rfl rfl
                               rw [HY.out.2.1] at HR9
                               have HL8 : Hid (LBF w8 lb (setF (fun k c => bookF (u3 (4 + k)) (X3 k) c) k 2 (.bool (pubX (X3 k)).sd))) := by rw [← hw8]; exact HR7.out.inv.book.set k 2 hk (by omega) _
                               have c81 := lbf_other HR7.out.inv.book k 2 1 hk (by omega) (by omega) (by omega) (.bool (pubX (X3 k)).sd) _ b1
                               rw [hw8] at c81
                               have f81 := HL8.out.frozen (k * 5 + 1)
                               rw [HY.out.1] at hw8
                               clear b0 b4 HR6 HPU))
                          go_meet
                          case rel => exact ⟨_, HR9, len_upd X3 k (m + dl') _ HX3.out (by rw [HY.out.2.2.2]; exact HX3.out k hk)⟩
                  case rest =>
                    obtain ⟨X4, HRS4, HX4⟩ := hcut
                    clear HRS3 HX3 h111
                    go_wp2_with fail
                    go_loopw [12] (fun sn wr => ∃ n : Nat, n ≤ 4 ∧ .int .i64 (n : Int) = sn ∧ Hid (Rs w wr s bm lb base D bl u3 X4 X4 g wh (.slice da dl' dc) stp att pb)) (fun sn _ => 4 - (intOf sn).toNat)
                    case atStart => exact ⟨0, by omega, rfl, HRS4⟩
                    case round =>
                      clear HRS4
                      obtain ⟨n, hn4, rfl, HRN⟩ := hrel
                      by_cases hn : n < 4
                      · have hni : (n : Int) < 4 := by omega
                        obtain ⟨xa, xl, xc, hsh, hxl⟩ : ∃ (xa : Option Addr) (xl xc : Nat), u3 (4 + n) = .slice xa xl xc ∧ xl = (X4 n).xs.length := ⟨_, _, _, own_parts (HRN.out.inv.ownl n hn), rfl⟩
                        have hx28 : xl ≤ 268435456 := by rw [hxl]; exact Nat.le_trans (HX4.out n hn) hmm
                        have HWX : Hid (IntKind.i64.wrap ((xl : Int) + 9) = (xl : Int) + 9) := by show _ = _; rw [IntKind.wrap_i64]; omega
                        obtain ⟨O, hO⟩ : ∃ O, decide ((X4 n).st = 2) = O := ⟨_, rfl⟩
                        have HC : Hid (∀ V, Rs w V s bm lb base D bl u3 X4 X4 g wh (.slice da dl' dc) stp att pb → V.cell? ⟨lb, n * 5, none⟩ = some (.slice xa xl xc) ∧ V.cell? ⟨lb, n * 5 + 1, none⟩ = some (.bool O) ∧ Rd V xa xl (X4 n).xs) := by
                          intro V hV
                          obtain ⟨b0, b1, b2, b3, b4⟩ := hV.inv.book.five hn (bookAt u3 X4 n)
                          rw [hsh] at b0
                          rw [hO] at b1
                          have ho := hV.inv.ownl n hn
                          rw [hsh] at ho
                          exact ⟨b0, b1, Got.rd ho (by rw [← hxl]; omega)⟩
                        have HXE := hide hxl
                        have HOE := hide hO
                        clear hsh hxl hO
                        have b0 := (HC.out _ HRN.out).1
                        cases O with
                        | false =>
                          as_aux_lemma =>
                            have HST : Hid ((X4 n).st ≠ 2) := hide (by simpa using HOE.out)
                            go_wp2_with fail
                            go_region_held_law (fun V => V.cell? ⟨lb, n * 5, none⟩ = some (.slice xa xl xc)) (first | exact E7.out | exact E6.out | go_keep) (first
                              | (go_at_call 6; refine (name_any n hn _).mono ?_; rintro e w6 ⟨rfl, hb6⟩; have HR6 := hide (HRN.out.below (below_trans ((Below.refl _ _).drew) hb6)); have E6 := hide (HC.out _ HR6.out).1; have HRE := hide (HR6.out.readOpen HF.out n hn HST.out (IntKind.i64.wrap ((xl : Int) + 9)) (by rw [HWX.out]; omega)); clear hb6)
                              | (go_at_call 13; refine HRE.out.mono ?_; rintro e w7 ⟨rfl, hr7⟩; have HR7 := hide hr7; have E7 := hide (HC.out _ HR7.out).1; clear hr7))
                            all_goals
                              have b17 := (HC.out _ HR7.out).2.1
                              go_wp2_with fail
                              go_roundw
                              case rel => exact ⟨n + 1, by omega, by go_num, HR7⟩
                              case measure => simp [intOf]; omega
                        | true =>
                          as_aux_lemma =>
                            have HST : Hid ((X4 n).st = 2) := hide (by simpa using HOE.out)
                            go_wp2_with fail
                            go_region_held_law (fun V => V.cell? ⟨lb, n * 5, none⟩ = some (.slice xa xl xc)) (first | exact E7.out | exact E6.out | go_keep) (first
                              | (go_at_call 6; refine (name_any n hn _).mono ?_; rintro e w6 ⟨rfl, hb6⟩; have HR6 := hide (HRN.out.below (below_trans ((Below.refl _ _).drew) hb6)); have E6 := hide (HC.out _ HR6.out).1; have HRE := hide (HR6.out.readOut HF.out n hn HST.out (by have := HXE.out; omega) (IntKind.i64.wrap ((xl : Int) + 9)) (by rw [HWX.out]; have := HXE.out; omega)); clear hb6)
                              | (go_at_call 13; refine HRE.out.mono ?_; rintro e w7 ⟨v, rfl, ho7, hr7⟩; obtain ⟨va, vc, hv7⟩ := ho7.shape; subst hv7; have HRV := hide (Got.rd ho7 (by have := HXE.out; omega)); have HR7 := hide hr7; have E7 := hide (HC.out _ HR7.out).1; clear hr7 ho7))
                            all_goals
                              have b17 := (HC.out _ HR7.out).2.1
                              have b07 := (HC.out _ HR7.out).1
                              go_wp2_with (go_at_call 14; refine (same5_eq _ _ _ _ _ _ (X4 n).xs _ HRV.out (HC.out _ HR7.out).2.2).mono ?_; rintro e w8 ⟨rfl, hb8⟩; have HR8 := hide (HR7.out.below hb8); clear hb8)
                              go_roundw
                              case rel => exact ⟨n + 1, by omega, by go_num, HR8⟩
                              case measure => simp [intOf]; omega
                      · obtain rfl : n = 4 := by omega
                        go_wp2_with fail
                        go_roundw
                        case rel => exact ⟨m + dl', i + 1, u3, X4, by omega, hmm, by go_num, by go_num, HRN.out.inv, HX4, HRN.out.bel⟩
                        case measure => simp [intOf]; omega
          · have hmi : (268435456 : Int) < (m : Int) + (dl' : Int) := by omega
            go_wp2_with (go_at_call 8; refine (head_any _).mono ?_; rintro e w9 ⟨rfl, hb9⟩; have HB9 := hide hb9; clear hb9)
            go_ret
            exact ⟨rfl, below_trans (HW3.out.grown HG5.out HW3.out.size (fun i e => by have := Option.some.inj e; have := HGW.out; omega)) HB9.out⟩
        · obtain rfl : len = i := by omega
          as_aux_lemma =>
            have HL4 : Hid (∀ k, k < 4 → (X k).xs.length ≤ 268435456) := fun k hk => Nat.le_trans (HX.out k hk) hm4
            go_wp2_with (go_at_call 15; refine (inv_list HF.out HI.out HL4.out).mono ?_; rintro e w3 ⟨g, c, rfl, hg, hlb, hb3, hcs⟩; have HG := hide hg; have HLB := hide hlb; have HW3 : Hid (Below w.heap.size w w3) := ⟨hb3.os.trans HB.out.os, hb3.tape.trans HB.out.tape, hb3.output.trans HB.out.output, Nat.le_trans HB.out.size hb3.size, fun i hi => (hb3.block i hi).trans (HB.out.block i hi)⟩; have HCS := hide hcs; clear hg hlb hb3 hcs)
            go_loopw [16] (fun sn wr => ∃ n : Nat, n ≤ 4 ∧ .int .i64 (n : Int) = sn ∧ Hid (Below w3.heap.size w3 wr)) (fun sn _ => 4 - (intOf sn).toNat)
            case atStart => exact ⟨0, by omega, rfl, Below.refl _ _⟩
            case round =>
              obtain ⟨n, hn4, rfl, HN⟩ := hrel
              by_cases hn : n < 4
              · have hni : (n : Int) < 4 := by omega
                have HLB2 := hide (HLB.out.grown (below_grown HN.out) (by simp))
                obtain ⟨b0, b1, b2, b3, b4⟩ := HLB2.out.five hn (bookAt u X n)
                obtain ⟨s0, s1, s2⟩ := HCS.out n hn
                have hgl : g < w3.heap.size := block_lt_of_cell s0
                have t0 := (HN.out.cell (p := ⟨g, n * 3, none⟩) hgl).trans s0
                have t1 := (HN.out.cell (p := ⟨g, n * 3 + 1, none⟩) hgl).trans s1
                have t2 := (HN.out.cell (p := ⟨g, n * 3 + 2, none⟩) hgl).trans s2
                have hov := own_parts (HI.out.ownl n hn)
                rw [hov] at b0
                have HNM := hide (fun W => name_any n hn W)
                have hxl := HL4.out n hn
                have HST := hide ((HI.out.okX n hn).1)
                have HLL : Hid (lb < w3.heap.size) := HLB.out.lt
                generalize nameOf n = nm at HNM t0
                generalize addrOf (u (4 + n)) = xa at b0
                generalize capOf (u (4 + n)) = xc at b0
                generalize (X n).xs.length = xl at b0 t2 hxl
                generalize (X n).st = xst at b1 t1 HST
                clear s0 s1 s2 b2 b3 b4 hov
                rcases HST.out with hst | ⟨hst, _⟩
                · subst hst
                  have b1' := b1.trans (congrArg (fun z => some (Value.bool z)) (show decide ((1 : Int) = 2) = false from rfl))
                  clear b1
                  have HQ : Hid (wr.cell? ⟨g, n * 3, none⟩ = some (.string nm) ∧ wr.cell? ⟨g, n * 3 + 1, none⟩ = some (.int .i64 1) ∧ wr.cell? ⟨g, n * 3 + 2, none⟩ = some (.int .i64 (xl : Int)) ∧ wr.cell? ⟨lb, n * 5, none⟩ = some (.slice xa xl xc)) := ⟨t0, t1, t2, b0⟩
                  have HGL : Hid (g < wr.heap.size ∧ lb < wr.heap.size) := by have h1 := HN.out.size; have h2 := HLL.out; exact ⟨by omega, by omega⟩
                  go_wp2_with fail
                  go_region_held_law (fun V => V.cell? ⟨g, n * 3, none⟩ = some (.string nm) ∧ V.cell? ⟨g, n * 3 + 1, none⟩ = some (.int .i64 1) ∧ V.cell? ⟨g, n * 3 + 2, none⟩ = some (.int .i64 (xl : Int)) ∧ V.cell? ⟨lb, n * 5, none⟩ = some (.slice xa xl xc)) (first | exact E6.out | go_keep) (first
                    | (go_at_call 6; refine (HNM.out _).mono ?_; rintro e w6 ⟨rfl, hb6⟩; have hbw : Below wr.heap.size wr w6 := below_trans ((Below.refl _ _).drew) hb6; have HB6 := hide (below_trans HN.out hbw); have E6 : Hid (w6.cell? ⟨g, n * 3, none⟩ = some (.string nm) ∧ w6.cell? ⟨g, n * 3 + 1, none⟩ = some (.int .i64 1) ∧ w6.cell? ⟨g, n * 3 + 2, none⟩ = some (.int .i64 (xl : Int)) ∧ w6.cell? ⟨lb, n * 5, none⟩ = some (.slice xa xl xc)) := ⟨(hbw.cell (p := ⟨g, n * 3, none⟩) HGL.out.1).trans HQ.out.1, (hbw.cell (p := ⟨g, n * 3 + 1, none⟩) HGL.out.1).trans HQ.out.2.1, (hbw.cell (p := ⟨g, n * 3 + 2, none⟩) HGL.out.1).trans HQ.out.2.2.1, (hbw.cell (p := ⟨lb, n * 5, none⟩) HGL.out.2).trans HQ.out.2.2.2⟩; clear hb6 hbw))
                  go_wp2_with fail
                  go_roundw
                  case rel => exact ⟨n + 1, by omega, by go_num, HB6⟩
                  case measure => simp [intOf]; omega
                · subst hst
                  have b1' := b1.trans (congrArg (fun z => some (Value.bool z)) (show decide ((2 : Int) = 2) = true from rfl))
                  clear b1
                  have HQ : Hid (wr.cell? ⟨g, n * 3, none⟩ = some (.string nm) ∧ wr.cell? ⟨g, n * 3 + 1, none⟩ = some (.int .i64 2) ∧ wr.cell? ⟨g, n * 3 + 2, none⟩ = some (.int .i64 (xl : Int)) ∧ wr.cell? ⟨lb, n * 5, none⟩ = some (.slice xa xl xc)) := ⟨t0, t1, t2, b0⟩
                  have HGL : Hid (g < wr.heap.size ∧ lb < wr.heap.size) := by have h1 := HN.out.size; have h2 := HLL.out; exact ⟨by omega, by omega⟩
                  go_wp2_with fail
                  go_region_held_law (fun V => V.cell? ⟨g, n * 3, none⟩ = some (.string nm) ∧ V.cell? ⟨g, n * 3 + 1, none⟩ = some (.int .i64 2) ∧ V.cell? ⟨g, n * 3 + 2, none⟩ = some (.int .i64 (xl : Int)) ∧ V.cell? ⟨lb, n * 5, none⟩ = some (.slice xa xl xc)) (first | exact E6.out | go_keep) (first
                    | (go_at_call 6; refine (HNM.out _).mono ?_; rintro e w6 ⟨rfl, hb6⟩; have hbw : Below wr.heap.size wr w6 := below_trans ((Below.refl _ _).drew) hb6; have HB6 := hide (below_trans HN.out hbw); have E6 : Hid (w6.cell? ⟨g, n * 3, none⟩ = some (.string nm) ∧ w6.cell? ⟨g, n * 3 + 1, none⟩ = some (.int .i64 2) ∧ w6.cell? ⟨g, n * 3 + 2, none⟩ = some (.int .i64 (xl : Int)) ∧ w6.cell? ⟨lb, n * 5, none⟩ = some (.slice xa xl xc)) := ⟨(hbw.cell (p := ⟨g, n * 3, none⟩) HGL.out.1).trans HQ.out.1, (hbw.cell (p := ⟨g, n * 3 + 1, none⟩) HGL.out.1).trans HQ.out.2.1, (hbw.cell (p := ⟨g, n * 3 + 2, none⟩) HGL.out.1).trans HQ.out.2.2.1, (hbw.cell (p := ⟨lb, n * 5, none⟩) HGL.out.2).trans HQ.out.2.2.2⟩; clear hb6 hbw))
                  go_wp2_with fail
                  go_roundw
                  case rel => exact ⟨n + 1, by omega, by go_num, HB6⟩
                  case measure => simp [intOf]; omega
              · obtain rfl : n = 4 := by omega
                go_wp2_with (go_at_call 8; refine (head_any _).mono ?_; rintro e w9 ⟨rfl, hb9⟩; have HB9 := hide hb9; clear hb9)
                go_ret
                exact ⟨rfl, below_trans (below_trans HW3.out HN.out) HB9.out⟩
end Go.Proofs.Ytdcjhjpbkpiddaa.St
