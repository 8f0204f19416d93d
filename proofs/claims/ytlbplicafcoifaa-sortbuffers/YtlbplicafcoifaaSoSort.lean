/-
  Sorting by merging between two blocks.
-/
import Derived.Test.YtlbplicafcoifaaSoMerge
import Derived.Test.YtlbplicafcoifaaSoChunk
import Derived.Test.YtlbplicafcoifaaBase2
namespace Go.Proofs.Ytlbplicafcoifaa.So
open Go.ChangeShapes Go.WideShapes Go.ChangeAt Go.RowKit
open Go.Proofs.Ytlbplicafcoifaa.Base
set_option linter.unusedVariables false
theorem sortBetween_none (a b : Option Addr) (n cA cB m : Nat) (h : n ≤ 1) (fn : Value) (w : World) :
    Calls Try.prog 21 #[.slice a n cA, .slice b m cB, fn] w fun e w' => e = .returned (.slice a n cA) ∧ w' = w := by
  have h1 : ¬ (1 : Int) < (n : Int) := by omega
  go_enter Try.func21, Try.ntmps21
  go_wp2_with fail
  go_loopw [0, 7] (fun s0 s7 wr => .slice a n cA = s0 ∧ .int .i64 1 = s7 ∧ w = wr) (fun _ _ _ => 0)
  case atStart => exact ⟨rfl, rfl, rfl⟩
  case round =>
    obtain ⟨rfl, rfl, rfl⟩ := hrel
    go_wp2_with fail
    go_ret
    exact ⟨rfl, rfl⟩
set_option maxHeartbeats 8000000 in
set_option maxRecDepth 100000 in
theorem sortBetween_any (gA gB n cA cB : Nat) (L G0 : Nat → Rec) (w : World) (hA : RA w gA n L) (hB : RA w gB n G0) (hne : gA ≠ gB) (hcA : n ≤ cA) (hcB : n ≤ cB) (hn : n ≤ 140737488355328) (hKL : ∀ j, (L j).k.size ≤ 9223372036854775807) (hKG : ∀ j, (G0 j).k.size ≤ 9223372036854775807) (fn : Value) (hfn : fn = .func (.func 22) #[] #[]) :
    Calls Try.prog 21 #[.slice (some ⟨gA, 0, none⟩) n cA, .slice (some ⟨gB, 0, none⟩) n cB, fn] w fun e w' => ∃ g c F, e = .returned (.slice (some ⟨g, 0, none⟩) n c) ∧ ((g = gA ∧ c = cA) ∨ (g = gB ∧ c = cB)) ∧ RA w' g n F ∧ seg F 0 n = isort (seg L 0 n) ∧ (Kept2 w w' (some gA) (some gB) ∧ Shp w w' gA ∧ Shp w w' gB) := by
  subst hfn
  have HKL := hide hKL
  have HKG := hide hKG
  have HA := hide hA
  have HB := hide hB
  clear hKL hKG hA hB
  go_enter Try.func21, Try.ntmps21
  go_wp2_with fail
  go_loopw [0, 1, 7] (fun s0 s1 s7 wr => ∃ (x y cx cy wd : Nat) (F G : Nat → Rec), .slice (some ⟨x, 0, none⟩) n cx = s0 ∧ .slice (some ⟨y, 0, none⟩) n cy = s1 ∧ .int .i64 (wd : Int) = s7 ∧ 1 ≤ wd ∧ wd ≤ 2 * n + 1 ∧
      Hid ((x = gA ∧ cx = cA ∧ y = gB ∧ cy = cB) ∨ (x = gB ∧ cx = cB ∧ y = gA ∧ cy = cA)) ∧ Hid (RA wr x n F) ∧ Hid (RA wr y n G) ∧ Hid (CH wd n F L) ∧ Hid (∀ j, (F j).k.size ≤ 9223372036854775807) ∧ Hid (∀ j, (G j).k.size ≤ 9223372036854775807) ∧ Hid (Kept2 w wr (some gA) (some gB) ∧ Shp w wr gA ∧ Shp w wr gB)) (fun _ _ s7 _ => 2 * n - (intOf s7).toNat)
  case atStart => exact ⟨gA, gB, cA, cB, 1, L, G0, rfl, rfl, rfl, by omega, by omega, .inl ⟨rfl, rfl, rfl, rfl⟩, HA, HB, ch_one n L, HKL, HKG, ⟨Kept2.refl _ _ _, Shp.refl _ _, Shp.refl _ _⟩⟩
  case round =>
    clear HA HB HKG
    obtain ⟨x, y, cx, cy, wd, F, G, rfl, rfl, rfl, hw1, hw2, HS, HF, HG, HCH, HKF, HKG, HKP⟩ := hrel
    by_cases hw : wd < n
    · have hwi : (wd : Int) < (n : Int) := by omega
      have HXY : Hid (x ≠ y ∧ n ≤ cx ∧ n ≤ cy ∧ ((x = gA ∧ y = gB) ∨ (x = gB ∧ y = gA))) := by
        rcases HS.out with ⟨h1, h2, h3, h4⟩ | ⟨h1, h2, h3, h4⟩
        · exact ⟨by omega, by omega, by omega, .inl ⟨h1, h3⟩⟩
        · exact ⟨by omega, by omega, by omega, .inr ⟨h1, h3⟩⟩
      go_wp2_with fail
      go_loopw [8] (fun s8 wq => ∃ (q fr : Nat) (G : Nat → Rec), .int .i64 (fr : Int) = s8 ∧ fr < n + 2 * wd ∧ Hid (fr = q * (2 * wd)) ∧ Hid (RA wq x n F) ∧ Hid (RA wq y n G) ∧ Hid (∀ p, p < q → seg G (p * (2 * wd)) (min ((p + 1) * (2 * wd)) n) = isort (seg L (p * (2 * wd)) (min ((p + 1) * (2 * wd)) n))) ∧ Hid (∀ j, (G j).k.size ≤ 9223372036854775807) ∧ Hid (Kept2 w wq (some gA) (some gB) ∧ Shp w wq gA ∧ Shp w wq gB)) (fun s8 _ => n - (intOf s8).toNat)
      case atStart => exact ⟨0, 0, G, rfl, by omega, by show _ = _; omega, HF, HG, (fun p hp => by omega), HKG, HKP⟩
      case round =>
        clear HF HG HKG HKP
        obtain ⟨q, fr, G, rfl, hfr, HQ, HF, HG, HD, HKG, HKP⟩ := hrel
        by_cases hf : fr < n
        · have hfi : (fr : Int) < (n : Int) := by omega
          obtain ⟨mid, hmid⟩ : ∃ mid, mid = min (fr + wd) n := ⟨_, rfl⟩
          obtain ⟨en, hen⟩ : ∃ en, en = min (mid + wd) n := ⟨_, rfl⟩
          have HM := hide hmid
          have HEN := hide hen
          have hb1 : fr ≤ mid := by omega
          have hb2 : mid ≤ en := by omega
          have hb3 : en ≤ n := by omega
          have hb4 : fr < en := by omega
          clear hmid hen
          go_upto_region 7 with fail
          go_cut [9] from 17 to 50 (fun s9 wx => .int .i64 (mid : Int) = s9 ∧ wr = wx)
          case first =>
            go_wp2_with fail
            all_goals
              go_meet
              case rel => exact ⟨by have := HM.out; congr 1; omega, rfl⟩
          case rest =>
            obtain ⟨rfl, rfl⟩ := hcut
            go_upto_region 8 with fail
            go_cut [10] from 17 to 50 (fun s10 wx => .int .i64 (en : Int) = s10 ∧ wr = wx)
            case first =>
              go_wp2_with fail
              all_goals
                go_meet
                case rel => exact ⟨by have := HEN.out; congr 1; omega, rfl⟩
            case rest =>
              obtain ⟨rfl, rfl⟩ := hcut
              obtain ⟨hxy, hcx, hcy, hab⟩ := HXY.out
              obtain ⟨lo, hso, hlo, hlo2⟩ := cutR_lh ⟨y, 0, none⟩ rfl n cy fr en (by omega) (by omega)
              obtain ⟨la, hsl, hla, hla2⟩ := cutR_lh ⟨x, 0, none⟩ rfl n cx fr mid (by omega) (by omega)
              obtain ⟨ra, hsr, hra, hra2⟩ := cutR_lh ⟨x, 0, none⟩ rfl n cx mid en (by omega) (by omega)
              obtain rfl : lo = ⟨y, fr * 3, none⟩ := (hlo (by omega)).trans (addr_eq (by simp))
              have HRA : Hid (mid < en → ra = ⟨x, mid * 3, none⟩) := fun h => (hra (by omega)).trans (addr_eq (by simp))
              have HLA : Hid (fr < mid → la = ⟨x, fr * 3, none⟩) := fun h => (hla (by omega)).trans (addr_eq (by simp))
              have HMI := hide (fun W (h1 : RA W x n F) (h2 : RA W y n G) => mergeInto_any x y n fr mid en (cy - fr) (cx - fr) (cx - mid) la ra F G W h1 h2 hxy (by omega) (by omega) (by omega) hn hla2 HLA.out hra2 HRA.out (by omega) (by omega) (fun j _ => HKF.out j) _ rfl)
              have HCS := hide (ch_step wd n q F L HCH.out (by rw [← HQ.out]; omega) mid en (by rw [← HQ.out]; exact HM.out) HEN.out)
              clear hlo hla hra hlo2 hxy hab
              go_wp2_with fail
              go_region_with (go_at_call 25; refine (HMI.out _ HF.out.drew HG.out.drew).mono ?_; rintro e w6 ⟨rfl, hr6, hg6, hs6⟩; have HR6 := hide hr6; have HG6 := hide hg6; have HS6 := hide hs6; clear hr6 hg6 hs6)
              all_goals
                go_wp2_with fail
                go_roundw
                case rel =>
                  obtain ⟨hxy, hcx, hcy, hab⟩ := HXY.out
                  obtain ⟨hM, hE⟩ := HCS.out
                  rw [← HQ.out] at hM
                  have hlen : (mrg (seg F fr mid) (seg F mid en)).length = en - fr := by rw [length_mrg, length_seg, length_seg]; omega
                  have hq1 : fr + 2 * wd = (q + 1) * (2 * wd) := by rw [Nat.succ_mul q (2 * wd), ← HQ.out]
                  have hk : Kept2 w wr.drew (some gA) (some gB) := HKP.out.1.grown (below_grown (Below.refl _ _).drew) (fun i e => by cases e)
                  have hsh : ∀ g, g = x ∨ g = y → Shp w wr g → Shp w w6 g := fun g hg hs => by
                    have hd : (wr.drew).heap[g]? = wr.heap[g]? := (Below.refl _ _).drew.block g (by rcases hg with rfl | rfl; · exact HF.out.lt
                                                                                                    · exact HG.out.lt)
                    by_cases e : g = y
                    · subst e; exact (hs.same hd).trans HS6.out
                    · refine (hs.same hd).same (HG6.out.block g ?_ (by simpa using e))
                      rcases hg with rfl | rfl
                      · exact HF.out.drew.lt
                      · exact HG.out.drew.lt
                  refine ⟨q + 1, fr + 2 * wd, putF G fr (mrg (seg F fr mid) (seg F mid en)) (en - fr), by go_num, by omega, hq1, (HF.out.drew).grown HG6.out (by simpa using fun e => hxy e.symm), HR6.out, ?_, putF_all (fun r => r.k.size ≤ 9223372036854775807) F G fr fr mid mid en (en - fr) (by decide) HKF.out HKG.out, ⟨hk.grown HG6.out (fun i e => by rcases hab with ⟨_, h⟩ | ⟨_, h⟩ <;> subst h <;> simp), hsh gA (by rcases hab with ⟨h, _⟩ | ⟨_, h⟩ <;> subst h <;> simp) HKP.out.2.1, hsh gB (by rcases hab with ⟨_, h⟩ | ⟨h, _⟩ <;> subst h <;> simp) HKP.out.2.2⟩⟩
                  intro p hp
                  by_cases hpq : p < q
                  · have hle : (p + 1) * (2 * wd) ≤ q * (2 * wd) := Nat.mul_le_mul_right _ hpq
                    rw [← HQ.out] at hle
                    rw [seg_putF_low _ _ _ _ _ _ (by omega)]
                    exact HD.out p hpq
                  · obtain rfl : p = q := by omega
                    rw [← hE, ← HQ.out, ← hM, ← hlen]
                    have := seg_putF G fr (mrg (seg F fr mid) (seg F mid en))
                    rw [show fr + (mrg (seg F fr mid) (seg F mid en)).length = en by omega] at this
                    exact this
                case measure => simp [intOf]; omega
        · go_wp2_with fail
          go_roundw
          case rel =>
            obtain ⟨hxy, hcx, hcy, hab⟩ := HXY.out
            refine ⟨y, x, cy, cx, 2 * wd, G, F, rfl, rfl, by rw [show ((2 * wd : Nat) : Int) = (wd : Int) * 2 by omega], by omega, by omega, ?_, HG, HF, ?_, HKG, HKF, HKP⟩
            · rcases HS.out with ⟨h1, h2, h3, h4⟩ | ⟨h1, h2, h3, h4⟩
              · exact .inr ⟨h3, h4, h1, h2⟩
              · exact .inl ⟨h3, h4, h1, h2⟩
            · refine ch_next wd n q F L G (fun p => ?_)
              by_cases hpq : p < q
              · exact .inr (HD.out p hpq)
              · left
                have : q * (2 * wd) ≤ p * (2 * wd) := Nat.mul_le_mul_right _ (by omega)
                rw [← HQ.out] at this
                omega
          case measure => simp [intOf]; omega
    · go_wp2_with fail
      go_ret
      exact ⟨x, cx, F, rfl, HS.out.elim (fun h => .inl ⟨h.1, h.2.1⟩) (fun h => .inr ⟨h.1, h.2.1⟩), HF.out, ch_end wd n F L HCH.out (by omega), HKP.out⟩
end Go.Proofs.Ytlbplicafcoifaa.So
