/-
  Two answers of one call share nothing: the statement's own look.
-/
import Derived.Test.YtgpfabblmoffiaaDoorLgP
import Derived.Test.YtgpfabblmoffiaaDoorLgI
namespace Go.Proofs.YtgpfabblmoffiaaDoor.Lg
open Go.ChangeShapes Go.WideShapes Go.ChangeAt Go.RowKit
open Go.Proofs.YtgpfabblmoffiaaDoor.Base Go.Proofs.YtgpfabblmoffiaaDoor.Rf
set_option linter.unusedVariables false
/-- The two lists of an answered book, of the call's own, born from B on, below E. -/
structure Ans (w : World) (B E : Nat) (a1 : Option Addr) (n1 c1 : Nat) (M : List TS) (a2 : Option Addr) (n2 c2 : Nat) (R : List TS) : Prop where
  l1 : M.length = n1
  l2 : R.length = n2
  o1 : OwnT w B (.slice a1 n1 c1) M
  o2 : OwnT w B (.slice a2 n2 c2) R
  ne : ∀ i, (Value.slice a1 n1 c1).ownBlock = some i → (Value.slice a2 n2 c2).ownBlock = some i → False
  e1 : ∀ i, (Value.slice a1 n1 c1).ownBlock = some i → i < E
  e2 : ∀ i, (Value.slice a2 n2 c2).ownBlock = some i → i < E
theorem Ans.f1 {w : World} {B E : Nat} {a1 : Option Addr} {n1 c1 : Nat} {M : List TS} {a2 : Option Addr} {n2 c2 : Nat} {R : List TS} (h : Ans w B E a1 n1 c1 M a2 n2 c2 R) : OF w B (.slice a1 n1 c1) n1 (fun k => M.getD k z0) := by
  have := h.o1.of
  rw [h.l1] at this
  exact this
theorem Ans.f2 {w : World} {B E : Nat} {a1 : Option Addr} {n1 c1 : Nat} {M : List TS} {a2 : Option Addr} {n2 c2 : Nat} {R : List TS} (h : Ans w B E a1 n1 c1 M a2 n2 c2 R) : OF w B (.slice a2 n2 c2) n2 (fun k => R.getD k z0) := by
  have := h.o2.of
  rw [h.l2] at this
  exact this
theorem Ans.r1 {w : World} {B E : Nat} {a1 : Option Addr} {n1 c1 : Nat} {M : List TS} {a2 : Option Addr} {n2 c2 : Nat} {R : List TS} (h : Ans w B E a1 n1 c1 M a2 n2 c2 R) (hn : n1 ≤ 1000000000) : RdT w a1 n1 M := by
  have := h.o1.rdt (by rw [h.l1]; omega)
  rw [h.l1] at this
  exact this
theorem Ans.r2 {w : World} {B E : Nat} {a1 : Option Addr} {n1 c1 : Nat} {M : List TS} {a2 : Option Addr} {n2 c2 : Nat} {R : List TS} (h : Ans w B E a1 n1 c1 M a2 n2 c2 R) (hn : n2 ≤ 1000000000) : RdT w a2 n2 R := by
  have := h.o2.rdt (by rw [h.l2]; omega)
  rw [h.l2] at this
  exact this
theorem Ans.kp {w w' : World} {B E : Nat} {a1 : Option Addr} {n1 c1 : Nat} {M : List TS} {a2 : Option Addr} {n2 c2 : Nat} {R : List TS} {S : Nat → Prop} (h : Ans w B E a1 n1 c1 M a2 n2 c2 R) (k : Kp S w w') (hS : ∀ i, S i → i < B ∨ E ≤ i) : Ans w' B E a1 n1 c1 M a2 n2 c2 R :=
  ⟨h.l1, h.l2, h.o1.kp k (fun i e e2 => by have h1 := h.e1 i e; have h2 := (OwnF.lt h.o1 i e).1; have := hS i e2; omega), h.o2.kp k (fun i e e2 => by have h1 := h.e2 i e; have h2 := (OwnF.lt h.o2 i e).1; have := hS i e2; omega), h.ne, h.e1, h.e2⟩
theorem Ans.below {w w' : World} {B E : Nat} {a1 : Option Addr} {n1 c1 : Nat} {M : List TS} {a2 : Option Addr} {n2 c2 : Nat} {R : List TS} (h : Ans w B E a1 n1 c1 M a2 n2 c2 R) (hb : Below w.heap.size w w') : Ans w' B E a1 n1 c1 M a2 n2 c2 R :=
  ⟨h.l1, h.l2, h.o1.below hb, h.o2.below hb, h.ne, h.e1, h.e2⟩
theorem ans_nil (w : World) (B E : Nat) : Ans w B E none 0 0 [] none 0 0 [] := ⟨rfl, rfl, ownt_none _ _, ownt_none _ _, (fun i e => nomatch e), (fun i e => nomatch e), (fun i e => nomatch e)⟩
set_option maxHeartbeats 4000000 in
set_option maxRecDepth 100000 in
theorem apart_any (t t' : Int) (f f' : Bool) (a1 a2 a3 a4 a5 a6 : Option Addr) (n1 n2 c1 c2 n3 n4 c3 c4 c5 c6 B B1 B2 B3 : Nat) (M' R' M R : List TS) (w : World)
    (h1 : Ans w B B1 a1 n1 c1 M' a2 n2 c2 R') (h2 : Ans w B1 B2 a3 n3 c3 M a4 n4 c4 R) (h3 : Ans w B2 B3 a5 n3 c5 M a6 n4 c6 R) (hB : B ≤ B1) (hB1 : B1 ≤ B2) (hB2 : B2 ≤ w.heap.size) (hn1 : n1 ≤ 1000000000) (hn2 : n2 ≤ 1000000000) (hn3 : n3 ≤ 1000000000) (hn4 : n4 ≤ 1000000000) :
    Calls Tryd.prog 29 #[.agg #[.int .i64 t', .slice a1 n1 c1, .slice a2 n2 c2, .bool f'], .agg #[.int .i64 t, .slice a3 n3 c3, .slice a4 n4 c4, .bool f], .agg #[.int .i64 t, .slice a5 n3 c5, .slice a6 n4 c6, .bool f]] w fun e w' => e = .returned (.bool true) ∧ Below B w w' := by
  obtain ⟨w1, hw1⟩ : ∃ w1, w.alloc (.cells #[.int .i64 t', .slice a1 n1 c1, .slice a2 n2 c2, .bool f'] 26) = w1 := ⟨_, rfl⟩
  have HB1 : Hid (Below w.heap.size w w1) := by rw [← hw1]; exact (Below.refl _ _).alloc (Nat.le_refl _) _
  have hC1 : BC w1 w.heap.size t' (.slice a1 n1 c1) (.slice a2 n2 c2) f' := by rw [← hw1]; exact bc_new _ _ _ _ _
  obtain ⟨w2, hw2⟩ : ∃ w2, w1.alloc (.cells #[.int .i64 t, .slice a3 n3 c3, .slice a4 n4 c4, .bool f] 26) = w2 := ⟨_, rfl⟩
  have hb2 : Below w1.heap.size w1 w2 := by rw [← hw2]; exact (Below.refl _ _).alloc (Nat.le_refl _) _
  have hC2 : BC w2 w1.heap.size t (.slice a3 n3 c3) (.slice a4 n4 c4) f := by rw [← hw2]; exact bc_new _ _ _ _ _
  obtain ⟨w3, hw3⟩ : ∃ w3, w2.alloc (.cells #[.int .i64 t, .slice a5 n3 c5, .slice a6 n4 c6, .bool f] 26) = w3 := ⟨_, rfl⟩
  have hb3 : Below w2.heap.size w2 w3 := by rw [← hw3]; exact (Below.refl _ _).alloc (Nat.le_refl _) _
  have hC3 : BC w3 w2.heap.size t (.slice a5 n3 c5) (.slice a6 n4 c6) f := by rw [← hw3]; exact bc_new _ _ _ _ _
  have HB3 : Hid (Below w.heap.size w w3) := below_trans HB1.out (below_trans hb2 hb3)
  have HC1 := hide ((hC1.below hb2).below hb3)
  have HC2 := hide (hC2.below hb3)
  have HC3 := hide hC3
  have HLT : Hid (w.heap.size < w1.heap.size ∧ w1.heap.size < w2.heap.size ∧ w2.heap.size < w3.heap.size) := ⟨hC1.lt, hC2.lt, hC3.lt⟩
  clear hC1 hC2 hC3 hb2 hb3
  have HA1 := hide (h1.below HB3.out)
  have HA2 := hide (h2.below HB3.out)
  have HA3 := hide (h3.below HB3.out)
  have HE3 : Hid ((∀ i, (Value.slice a5 n3 c5).ownBlock = some i → B2 ≤ i ∧ i < w.heap.size) ∧ (∀ i, (Value.slice a6 n4 c6).ownBlock = some i → B2 ≤ i ∧ i < w.heap.size)) := ⟨fun i e => OwnF.lt h3.o1 i e, fun i e => OwnF.lt h3.o2 i e⟩
  have HBB : Hid (B ≤ B1 ∧ B1 ≤ B2 ∧ B2 ≤ w.heap.size) := ⟨hB, hB1, hB2⟩
  clear h1 h2 h3 hB hB1 hB2
  obtain ⟨g, hg⟩ : ∃ g, w.heap.size = g := ⟨_, rfl⟩
  obtain ⟨q, hq⟩ : ∃ q, w1.heap.size = q := ⟨_, rfl⟩
  obtain ⟨r, hr⟩ : ∃ r, w2.heap.size = r := ⟨_, rfl⟩
  rw [hg] at HC1
  rw [hq] at HC2
  rw [hr] at HC3
  have HGQ : Hid (w.heap.size = g ∧ g < q ∧ q < r ∧ r < w3.heap.size) := by
    obtain ⟨l1, l2, l3⟩ := HLT.out
    exact ⟨hg, by omega, by omega, by omega⟩
  have x0 := HC1.out.c0
  have x1 := HC1.out.c1
  have x2 := HC1.out.c2
  have x3 := HC1.out.c3
  have HSP : Hid (∀ W, Below w3.heap.size w3 W → Calls Tryd.prog 56 #[.agg #[.int .i64 t', .slice a1 n1 c1, .slice a2 n2 c2, .bool f']] W fun e w' => e = .returned (.tuple #[]) ∧ Kp (fun i => B ≤ i ∧ i < B1) W w') := fun W hW =>
    (spoil_any t' f' a1 a2 n1 n2 c1 c2 B _ _ W (HA1.out.below hW).f1 (HA1.out.below hW).f2 (fun i e e2 => HA1.out.ne i e2 e) (by have := HBB.out; have := HB3.out.size; have := hW.size; omega) hn1 hn2).mono fun e w' ⟨h1, h2⟩ => ⟨h1, h2.mono (fun i e _ => by
      rcases e with e | e
      · exact ⟨(OwnF.lt HA1.out.o1 i e).1, HA1.out.e1 i e⟩
      · exact ⟨(OwnF.lt HA1.out.o2 i e).1, HA1.out.e2 i e⟩)⟩
  go_enter Tryd.func29, Tryd.ntmps29
  go_wp2_with fail
  refine (HSP.out _ (Below.refl _ _)).mono ?_
  clear hw1 hw2 hw3 hg hq hr x0 x1 x2 x3
  rintro e w4 ⟨rfl, hk4⟩
  have HK4 := hide hk4
  have HL4 : Hid (w3.heap.size ≤ w4.heap.size) := hk4.size
  have HB4 : Hid (Below B w w4) := hk4.below (HB3.out.mono (by have := HBB.out; omega)) (fun i e => e.1) (by have := HBB.out; have := HB3.out.size; omega)
  have HA24 := hide (HA2.out.kp hk4 (fun i e => by omega))
  have HA34 := hide (HA3.out.kp hk4 (fun i e => by have := HBB.out; omega))
  have HC24 := hide (HC2.out.kp hk4 (fun e => by have := HBB.out; have := HGQ.out; omega))
  have HC34 := hide (HC3.out.kp hk4 (fun e => by have := HBB.out; have := HGQ.out; omega))
  clear hk4
  have y0 := HC24.out.c0
  have y1 := HC24.out.c1
  have y2 := HC24.out.c2
  have y3 := HC24.out.c3
  have v0 := HC34.out.c0
  have v1 := HC34.out.c1
  have v2 := HC34.out.c2
  have v3 := HC34.out.c3
  go_wp2_with fail
  refine (same_eq M R t f a3 a4 a5 a6 n3 n4 c3 c4 c5 c6 w4 (HA24.out.r1 hn3) (HA24.out.r2 hn4) (HA34.out.r1 hn3) (HA34.out.r2 hn4)).mono ?_
  clear y0 y1 y2 y3 v0 v1 v2 v3
  rintro e wx ⟨rfl, hbx⟩
  have HBX : Hid (Below B w wx) := HB4.out.trans (hbx.mono (by have := HBB.out; have := HB3.out.size; have := HL4.out; omega))
  have HLX : Hid (w3.heap.size ≤ wx.heap.size) := Nat.le_trans HL4.out hbx.size
  have HA2X := hide (HA24.out.below hbx)
  have HA3X := hide (HA34.out.below hbx)
  have HC2X := hide (HC24.out.below hbx)
  have HC3X := hide (HC34.out.below hbx)
  clear hbx
  have HQ3 : Hid (∀ i, (Value.slice a3 n3 c3).ownBlock = some i → i < g) := fun i e => by have := HA2X.out.e1 i e; have := HBB.out; have := HGQ.out; omega
  have HQ4 : Hid (∀ i, (Value.slice a4 n4 c4).ownBlock = some i → i < g) := fun i e => by have := HA2X.out.e2 i e; have := HBB.out; have := HGQ.out; omega
  have HQ6 : Hid (∀ i, (Value.slice a6 n4 c6).ownBlock = some i → i < g ∧ B2 ≤ i) := fun i e => by have := HE3.out.2 i e; have := HGQ.out; omega
  go_wp2_with fail
  go_loopw [7] (fun i wr => ∃ k : Nat, k ≤ n3 ∧ i = .int .i64 (k : Int) ∧ Hid (∃ F, OF wr B1 (.slice a3 n3 c3) n3 F) ∧ Hid (Kp (fun i => (Value.slice a3 n3 c3).ownBlock = some i) wx wr)) (fun i _ => n3 - (intOf i).toNat)
  case atStart => exact ⟨0, Nat.zero_le _, rfl, ⟨_, HA2X.out.f1⟩, Kp.refl _ _⟩
  case round =>
    obtain ⟨k, hk, rfl, ⟨F, hF⟩, HK⟩ := hrel
    have HC := hide (HC2X.out.kp HK.out (fun e => by have := HQ3.out _ e; have := HGQ.out; omega))
    have x1 := HC.out.c1
    by_cases hlt : k < n3
    · have hki : (k : Int) < (n3 : Int) := by omega
      obtain ⟨g1, c, he, hcc, -⟩ := OwnF.has hF (by omega)
      obtain ⟨rfl, -, rfl⟩ : a3 = some ⟨g1, 0, none⟩ ∧ n3 = n3 ∧ c3 = c := by cases he; exact ⟨rfl, rfl, rfl⟩
      have HT : Hid (TF wr B1 g1 n3 c3 F) := hF
      clear he
      obtain ⟨p0, p1, p2⟩ := HT.out.at k hlt
      have f0 := HT.out.fz (k * 3)
      have f1 := HT.out.fz (k * 3 + 1)
      have f2 := HT.out.fz (k * 3 + 2)
      clear hF
      obtain ⟨w5, hw5⟩ : ∃ w5, ((wr.setCell ⟨g1, k * 3, none⟩ (.int .i64 82)).setCell ⟨g1, k * 3 + 1, none⟩ (.int .i64 0)).setCell ⟨g1, k * 3 + 2, none⟩ (.int .i64 0) = w5 := ⟨_, rfl⟩
      have HO3 : Hid (∃ F, OF w5 B1 (.slice (some ⟨g1, 0, none⟩) n3 c3) n3 F) := by rw [← hw5]; exact ⟨_, HT.out.set k (ts 82) hlt⟩
      have HK3 : Hid (Kp (fun i => (Value.slice (some ⟨g1, 0, none⟩) n3 c3).ownBlock = some i) wx w5) := by
        rw [← hw5]
        exact HK.out.trans (Kp.of_grown (grown_set3 wr g1 (k * 3) (ts 82))) (fun i e _ => by cases e; rfl)
      go_wp2_with fail
      go_roundw
      case rel => exact ⟨k + 1, by omega, by go_num, HO3.out, HK3⟩
      case measure => (simp [intOf] <;> omega)
    · have hkn : k = n3 := by omega
      have hki : ¬ (k : Int) < (n3 : Int) := by omega
      have HKN := hide hkn
      clear hkn
      have HF1 := hide hF
      clear hF
      have HKQ : Hid (Kp (fun i => (Value.slice a3 n3 c3).ownBlock = some i ∨ i = q) wx wr) := HK.out.mono (fun i e _ => .inl e)
      have HBW : Hid (B1 ≤ wr.heap.size) := by have := HK.out.size; have := HLX.out; have := HB3.out.size; have := HBB.out; show _ ≤ _; omega
      go_wp2_with fail
      clear x1
      go_loopw [8] (fun i wi => ∃ (p : Value) (m : Nat), m ≤ 64 ∧ i = .int .i64 (m : Int) ∧ Hid (∃ F, OF wi B1 p (n3 + m) F) ∧ Hid (BC wi q t p (.slice a4 n4 c4) f) ∧ Hid (∀ i, p.ownBlock = some i → (Value.slice a3 n3 c3).ownBlock = some i ∨ wx.heap.size ≤ i) ∧ Hid (B1 ≤ wi.heap.size) ∧ Hid (Kp (fun i => (Value.slice a3 n3 c3).ownBlock = some i ∨ i = q) wx wi)) (fun i _ => 64 - (intOf i).toNat)
      case atStart => exact ⟨_, 0, by omega, rfl, ⟨_, HF1.out⟩, HC, (fun i e => .inl e), HBW, HKQ⟩
      case round =>
        obtain ⟨p, m, hm, rfl, ⟨F9, hF9⟩, HC9, HP, HB9, HK9⟩ := hrel
        by_cases hmt : m < 64
        · have hmi : (m : Int) < 64 := by omega
          have HF5 := hide hF9
          clear hF9
          have x1 := HC9.out.c1
          obtain ⟨wa, hwa⟩ : ∃ wa, wr.alloc (.cells #[.int .i64 83, .int .i64 0, .int .i64 0] 43) = wa := ⟨_, rfl⟩
          go_wp2_with (at_builtin; refine pushT wr _ (ts 83) hwa rfl _ _ rfl B1 p (n3 + m) F9 rfl HF5.out 1 rfl (by omega) HB9.out ?_; intro g' c' w6 ho6 hd6 hk6; have HF6 := hide ho6; have HD6 := hide hd6; have HK6 := hide hk6; have HC6 := hide (HC9.out.kp hk6 (fun e => by have := HGQ.out; have := HLX.out; rcases HP.out _ e with h | h; (have := HQ3.out _ h; omega); omega)); clear ho6 hd6 hk6 hwa x1; have x1 := HC6.out.c1; have xz := HC6.out.fz 1; obtain ⟨w7, hw7⟩ : ∃ w7, w6.setCell ⟨q, 1, none⟩ (.slice (some ⟨g', 0, none⟩) (n3 + m + 1) c') = w7 := ⟨_, rfl⟩)
          have HGL : Hid (g' ≠ q ∧ ((Value.slice a3 n3 c3).ownBlock = some g' ∨ wx.heap.size ≤ g')) := by
            have h0 := HGQ.out
            have h1 := HLX.out
            have h2 := HK9.out.size
            rcases HD6.out with h | h
            · rcases HP.out _ h with h3 | h3
              · have := HQ3.out _ h3; exact ⟨by omega, .inl h3⟩
              · exact ⟨by omega, .inr h3⟩
            · exact ⟨by omega, .inr (by omega)⟩
          have hk7 : Kp (fun i => some q = some i) w6 w7 := by rw [← hw7]; exact Kp.of_grown (grown_set w6 q 1 _)
          have HC7 : Hid (BC w7 q t (.slice (some ⟨g', 0, none⟩) (n3 + m + 1) c') (.slice a4 n4 c4) f) := by rw [← hw7]; exact HC6.out.set1 _
          have HF7 : Hid (∃ F, OF w7 B1 (.slice (some ⟨g', 0, none⟩) (n3 + m + 1) c') (n3 + (m + 1)) F) := ⟨_, HF6.out.kp hk7 (fun i e e2 => by
            have e : g' = i := Option.some.inj e
            have e2 : q = i := Option.some.inj e2
            exact HGL.out.1 (e.trans e2.symm))⟩
          have HP7 : Hid (∀ i, (Value.slice (some ⟨g', 0, none⟩) (n3 + m + 1) c').ownBlock = some i → (Value.slice a3 n3 c3).ownBlock = some i ∨ wx.heap.size ≤ i) := fun i e => by
            have e : g' = i := Option.some.inj e
            subst e
            exact HGL.out.2
          have HK7 : Hid (Kp (fun i => (Value.slice a3 n3 c3).ownBlock = some i ∨ i = q) wx w7) := (HK9.out.trans HK6.out (fun i e hi => by rcases HP.out i e with h | h; exact .inl h; omega)).trans hk7 (fun i e hi => .inr (Option.some.inj e).symm)
          have HB7 : Hid (B1 ≤ w7.heap.size) := Nat.le_trans (Nat.le_trans HB9.out HK6.out.size) hk7.size
          clear hk7
          go_roundw
          case rel => exact ⟨_, m + 1, by omega, by go_num, HF7.out, HC7, HP7, HB7, HK7⟩
          case measure => (simp [intOf] <;> omega)
        · obtain rfl : m = 64 := by omega
          have y2 := HC9.out.c2
          have HCR := hide (HC3X.out.kp HK9.out (fun e => by have := HGQ.out; rcases e with e | e; (have := HQ3.out _ e; omega); omega))
          have v2 := HCR.out.c2
          have HR4 := hide ((HA2X.out.r2 hn4).kp (c := c4) HK9.out (fun i e e2 => by
            have h0 := HGQ.out
            have h4 := HQ4.out i e
            rcases e2 with e2 | e2
            · exact HA2X.out.ne i e2 e
            · omega))
          have HR6 := hide ((HA3X.out.r2 hn4).kp (c := c6) HK9.out (fun i e e2 => by
            have h0 := HGQ.out
            have h4 := HQ6.out i e
            rcases e2 with e2 | e2
            · have := HA2X.out.e1 i e2; omega
            · omega))
          go_wp2_with fail
          refine (sameStates_eq R n4 a4 a6 c4 c6 wr HR4.out HR6.out).mono ?_
          clear y2 v2
          rintro e wz ⟨rfl, hbz⟩
          have HKZ := hide (HK9.out.add hbz)
          have HBZ : Hid (Below B w wz) := HKZ.out.below HBX.out (fun i e => by
            have h0 := HGQ.out
            have h1 := HBB.out
            rcases e with e | e
            · have := (OwnF.lt HA2X.out.o1 i e).1; omega
            · omega) (by have := HLX.out; have := HB3.out.size; have := HBB.out; omega)
          clear hbz
          go_wp2_with fail
          go_ret
          exact ⟨rfl, HBZ.out⟩
end Go.Proofs.YtgpfabblmoffiaaDoor.Lg
