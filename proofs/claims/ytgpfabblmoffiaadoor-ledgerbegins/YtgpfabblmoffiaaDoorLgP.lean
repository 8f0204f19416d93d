/-
  append of one state; a book that was answered, written over.
-/
import Derived.Test.YtgpfabblmoffiaaDoorLgH
namespace Go.Proofs.YtgpfabblmoffiaaDoor.Lg
open Go.ChangeShapes Go.WideShapes Go.ChangeAt Go.RowKit
open Go.Proofs.YtgpfabblmoffiaaDoor.Base Go.Proofs.YtgpfabblmoffiaaDoor.Rf
set_option linter.unusedVariables false
/-- n states by a function of the index, of the call's own. -/
def OF (w : World) (B : Nat) (v : Value) (n : Nat) (F : Nat → TS) : Prop := OwnF w B 43 3 v n (fun k => tv (F k))
theorem OF.kp {w w' : World} {B : Nat} {v : Value} {n : Nat} {F : Nat → TS} {S : Nat → Prop} (h : OF w B v n F) (k : Kp S w w') (hS : Off S v) : OF w' B v n F := OwnF.kp h k hS
theorem OF.below {w w' : World} {B : Nat} {v : Value} {n : Nat} {F : Nat → TS} (h : OF w B v n F) (hb : Below w.heap.size w w') : OF w' B v n F := OwnF.below h hb
theorem OwnT.of {w : World} {B : Nat} {v : Value} {L : List TS} (h : OwnT w B v L) : OF w B v L.length (fun k => L.getD k z0) := h
theorem OF.lt {w : World} {B : Nat} {v : Value} {n : Nat} {F : Nat → TS} (h : OF w B v n F) : ∀ i, v.ownBlock = some i → B ≤ i ∧ i < w.heap.size := fun i e => OwnF.lt h i e
theorem pushT {ops : Array Oper} {rest : List Oper} {o : Oper} {a : Act} {Q : Exit → Act → World → Prop} (w wa : World) (x : TS) (hwa : w.alloc (.cells #[.int .i64 x.s, .int .i64 x.a, .int .i64 x.c] 43) = wa) (hgd : o.guard = none) (s y : Operand)
    (ho : o.op = .call { callee := .builtin .append, args := #[s, y], argTypes := #[24, 24] })
    (B : Nat) (v : Value) (n : Nat) (F : Nat → TS) (hs : a.eval s = v) (hown : OF w B v n F) (cap : Nat) (hx : a.eval y = .slice (some ⟨w.heap.size, 0, none⟩) 1 cap) (hl : n + 1 ≤ 2199023255552) (hB : B ≤ w.heap.size)
    (h : ∀ g' c' w', OF w' B (.slice (some ⟨g', 0, none⟩) (n + 1) c') (n + 1) (setT F n x) → (v.ownBlock = some g' ∨ w.heap.size ≤ g') → Kp (fun i => v.ownBlock = some i) w w' → wpList Tryd.prog ops Q rest (a.put o.dst (.slice (some ⟨g', 0, none⟩) (n + 1) c')) w') : wpList Tryd.prog ops Q (o :: rest) a wa := by
  subst hwa
  have hbw : Below w.heap.size w (w.alloc (.cells #[.int .i64 x.s, .int .i64 x.a, .int .i64 x.c] 43)) := (Below.refl _ _).alloc (Nat.le_refl _) _
  have hsz := hbw.size
  have hn : tv (setT F n x n) = tv x := by unfold setT; rw [if_pos rfl]
  refine pushF2 _ hgd s y ho Tryd.underlying24 infoT rfl (by omega) (by omega) B v n (fun k => tv (setT F n x k)) (fun k _ => rfl) ?_ rfl hs ?_ ⟨w.heap.size, 0, none⟩ cap hx ?_ ?_ hl (by omega) ?_
  · intro k _ u hu
    simp [tv] at hu
    rcases hu with rfl | rfl | rfl <;> rfl
  · refine OwnF.congr (OwnF.below hown hbw) (fun k hk => ?_)
    show tv (F k) = tv (setT F n x k)
    unfold setT; rw [if_neg (by omega)]
  · intro j u hu
    have hu : (tv (setT F n x n))[j]? = some u := hu
    rw [hn] at hu
    have e : (⟨w.heap.size, 0, none⟩ : Addr).add j = ⟨w.heap.size, j, none⟩ := by cases j <;> simp [Addr.add]
    rw [e, World.cell?_alloc_mark]
    simpa [tv] using hu
  · intro u hu
    have hu : u ∈ tv (setT F n x n) := hu
    rw [hn] at hu
    simp [tv] at hu
    rcases hu with rfl | rfl | rfl <;> rfl
  · intro g' c' w' h1 h2
    refine h g' c' w' h1 ?_ ?_
    · rcases h2 with h2 | h2
      · exact .inl h2.1
      · exact .inr (by omega)
    · rcases h2 with ⟨h3, h4⟩ | ⟨h3, h4⟩
      · exact Kp.pre hbw ((Kp.of_grown h4).mono (fun i e _ => by rw [h3, e]))
      · exact Kp.pre hbw ((Kp.of_grown h4).mono (fun i e _ => by cases e))
def ts (s : Int) : TS := ⟨s, 0, 0⟩
set_option maxHeartbeats 4000000 in
set_option maxRecDepth 100000 in
theorem spoil_any (t : Int) (f : Bool) (a1 a2 : Option Addr) (n1 n2 c1 c2 B : Nat) (F1 F2 : Nat → TS) (w : World) (h1 : OF w B (.slice a1 n1 c1) n1 F1) (h2 : OF w B (.slice a2 n2 c2) n2 F2) (hne : Off (fun i => (Value.slice a1 n1 c1).ownBlock = some i) (.slice a2 n2 c2)) (hB : B ≤ w.heap.size) (hn1 : n1 ≤ 1000000000) (hn2 : n2 ≤ 1000000000) :
   
    Calls Tryd.prog 56 #[.agg #[.int .i64 t, .slice a1 n1 c1, .slice a2 n2 c2, .bool f]] w fun e w' => e = .returned (.tuple #[]) ∧ Kp (fun i => (Value.slice a1 n1 c1).ownBlock = some i ∨ (Value.slice a2 n2 c2).ownBlock = some i) w w' := by
  obtain ⟨S, hS⟩ : ∃ S : Nat → Prop, (fun i => (Value.slice a1 n1 c1).ownBlock = some i ∨ (Value.slice a2 n2 c2).ownBlock = some i) = S := ⟨_, rfl⟩
  have HS1 : Hid (∀ i, (Value.slice a1 n1 c1).ownBlock = some i → S i) := fun i e => by rw [← hS]; exact .inl e
  have HS2 : Hid (∀ i, (Value.slice a2 n2 c2).ownBlock = some i → S i) := fun i e => by rw [← hS]; exact .inr e
  have HSL : Hid (∀ i, S i → i < w.heap.size) := fun i e => by
    rw [← hS] at e
    rcases e with e | e
    · exact (h1.lt i e).2
    · exact (h2.lt i e).2
  rw [hS]
  have HBB := hide hB
  clear hS hB
  obtain ⟨w1, hw1⟩ : ∃ w1, w.alloc (.cells #[.int .i64 t, .slice a1 n1 c1, .slice a2 n2 c2, .bool f] 26) = w1 := ⟨_, rfl⟩
  have HB1 : Hid (Below w.heap.size w w1) := by rw [← hw1]; exact (Below.refl _ _).alloc (Nat.le_refl _) _
  have HC1 : Hid (BC w1 w.heap.size t (.slice a1 n1 c1) (.slice a2 n2 c2) f) := by rw [← hw1]; exact bc_new _ _ _ _ _
  have HO1 := hide (h1.below HB1.out)
  have HO2 := hide (h2.below HB1.out)
  have HNE : Hid (∀ i, (Value.slice a1 n1 c1).ownBlock = some i → (Value.slice a2 n2 c2).ownBlock = some i → False) := fun i e e2 => hne i e2 e
  clear h1 h2 hne
  obtain ⟨g, hg⟩ : ∃ g, w.heap.size = g := ⟨_, rfl⟩
  rw [hg] at HC1
  have HG : Hid (¬ S g) := fun e => by have := HSL.out g e; omega
  go_enter Tryd.func56, Tryd.ntmps56
  go_wp2_with fail
  try rw [hg]
  have HGE := hide hg
  clear hw1 hg
  have HSS1 : Hid (∀ i, (fun i => (Value.slice a1 n1 c1).ownBlock = some i) i → S i) := fun i e => HS1.out i e
  have HSS2 : Hid (∀ i, (fun i => (Value.slice a2 n2 c2).ownBlock = some i) i → S i) := fun i e => HS2.out i e
  have HG1 : Hid (¬ (fun i => (Value.slice a1 n1 c1).ownBlock = some i) g) := fun e => HG.out (HSS1.out _ e)
  have HG2 : Hid (¬ (fun i => (Value.slice a2 n2 c2).ownBlock = some i) g) := fun e => HG.out (HSS2.out _ e)
  go_loopw [2] (fun i wr => ∃ k : Nat, k ≤ n1 ∧ i = .int .i64 (k : Int) ∧ Hid (∃ F, OF wr B (.slice a1 n1 c1) n1 F) ∧ Hid (Kp (fun i => (Value.slice a1 n1 c1).ownBlock = some i) w1 wr)) (fun i _ => n1 - (intOf i).toNat)
  case atStart => exact ⟨0, Nat.zero_le _, rfl, ⟨_, HO1.out⟩, Kp.refl _ _⟩
  case round =>
    obtain ⟨k, hk, rfl, ⟨F, hF⟩, HK⟩ := hrel
    have HC := hide (HC1.out.kp HK.out HG1.out)
    have x1 := HC.out.c1
    by_cases hlt : k < n1
    · have hki : (k : Int) < (n1 : Int) := by omega
      obtain ⟨g1, c, he, hcc, -⟩ := OwnF.has hF (by omega)
      obtain ⟨rfl, -, rfl⟩ : a1 = some ⟨g1, 0, none⟩ ∧ n1 = n1 ∧ c1 = c := by cases he; exact ⟨rfl, rfl, rfl⟩
      have HT : Hid (TF wr B g1 n1 c1 F) := hF
      clear he
      obtain ⟨p0, p1, p2⟩ := HT.out.at k hlt
      have f0 := HT.out.fz (k * 3)
      have f1 := HT.out.fz (k * 3 + 1)
      have f2 := HT.out.fz (k * 3 + 2)
      clear hF
      obtain ⟨w2, hw2⟩ : ∃ w2, ((wr.setCell ⟨g1, k * 3, none⟩ (.int .i64 78)).setCell ⟨g1, k * 3 + 1, none⟩ (.int .i64 0)).setCell ⟨g1, k * 3 + 2, none⟩ (.int .i64 0) = w2 := ⟨_, rfl⟩
      have HO3 : Hid (∃ F, OF w2 B (.slice (some ⟨g1, 0, none⟩) n1 c1) n1 F) := by rw [← hw2]; exact ⟨_, HT.out.set k (ts 78) hlt⟩
      have HK3 : Hid (Kp (fun i => (Value.slice (some ⟨g1, 0, none⟩) n1 c1).ownBlock = some i) w1 w2) := by
        rw [← hw2]
        exact HK.out.trans (Kp.of_grown (grown_set3 wr g1 (k * 3) (ts 78))) (fun i e _ => by cases e; rfl)
      go_wp2_with fail
      go_roundw
      case rel => exact ⟨k + 1, by omega, by go_num, HO3.out, HK3⟩
      case measure => (simp [intOf] <;> omega)
    · have hkn : k = n1 := by omega
      have hki : ¬ (k : Int) < (n1 : Int) := by omega
      have HKN := hide hkn
      clear hkn
      have HF1 := hide hF
      have HF2 : Hid (OF wr B (.slice a2 n2 c2) n2 F2) := HO2.out.kp HK.out (fun i e e2 => HNE.out i e2 e)
      clear hF
      obtain ⟨wx, hwx⟩ : ∃ wx, wr = wx := ⟨_, rfl⟩
      rw [hwx] at x1 HK HC HF1 HF2 ⊢
      clear hwx
      go_wp2_with fail
      clear x1
      go_loopw [3] (fun i wr => ∃ k : Nat, k ≤ n2 ∧ i = .int .i64 (k : Int) ∧ Hid (∃ F, OF wr B (.slice a2 n2 c2) n2 F) ∧ Hid (Kp (fun i => (Value.slice a2 n2 c2).ownBlock = some i) wx wr)) (fun i _ => n2 - (intOf i).toNat)
      case atStart => exact ⟨0, Nat.zero_le _, rfl, ⟨_, HF2.out⟩, Kp.refl _ _⟩
      case round =>
        obtain ⟨j, hj, rfl, ⟨G, hG⟩, HJ⟩ := hrel
        have HCJ := hide (HC.out.kp HJ.out HG2.out)
        have x2 := HCJ.out.c2
        by_cases hjt : j < n2
        · have hji : (j : Int) < (n2 : Int) := by omega
          obtain ⟨g2, c, he, hcc, -⟩ := OwnF.has hG (by omega)
          obtain ⟨rfl, -, rfl⟩ : a2 = some ⟨g2, 0, none⟩ ∧ n2 = n2 ∧ c2 = c := by cases he; exact ⟨rfl, rfl, rfl⟩
          have HT : Hid (TF wr B g2 n2 c2 G) := hG
          clear he
          obtain ⟨p0, p1, p2⟩ := HT.out.at j hjt
          have f0 := HT.out.fz (j * 3)
          have f1 := HT.out.fz (j * 3 + 1)
          have f2 := HT.out.fz (j * 3 + 2)
          clear hG
          obtain ⟨w2, hw2⟩ : ∃ w2, ((wr.setCell ⟨g2, j * 3, none⟩ (.int .i64 79)).setCell ⟨g2, j * 3 + 1, none⟩ (.int .i64 0)).setCell ⟨g2, j * 3 + 2, none⟩ (.int .i64 0) = w2 := ⟨_, rfl⟩
          have HO3 : Hid (∃ F, OF w2 B (.slice (some ⟨g2, 0, none⟩) n2 c2) n2 F) := by rw [← hw2]; exact ⟨_, HT.out.set j (ts 79) hjt⟩
          have HK3 : Hid (Kp (fun i => (Value.slice (some ⟨g2, 0, none⟩) n2 c2).ownBlock = some i) wx w2) := by
            rw [← hw2]
            exact HJ.out.trans (Kp.of_grown (grown_set3 wr g2 (j * 3) (ts 79))) (fun i e _ => by cases e; rfl)
          go_wp2_with fail
          go_roundw
          case rel => exact ⟨j + 1, by omega, by go_num, HO3.out, HK3⟩
          case measure => (simp [intOf] <;> omega)
        · have hjn : j = n2 := by omega
          have hji : ¬ (j : Int) < (n2 : Int) := by omega
          have HJN := hide hjn
          clear hjn
          have x1 := HCJ.out.c1
          have HG9 := hide hG
          have HF9 : Hid (OF wr B (.slice a1 n1 c1) n1 F) := HF1.out.kp HJ.out (fun i e e2 => HNE.out i e e2)
          have HK9 : Hid (Kp S w1 wr) := (HK.out.mono (fun i e _ => HSS1.out i e)).trans HJ.out (fun i e _ => HSS2.out i e)
          clear hG
          have HZ : Hid (wr.heap.size ≤ wr.heap.size) := Nat.le_refl _
          have HLO : Hid (B ≤ wr.heap.size ∧ w1.heap.size ≤ wr.heap.size ∧ w.heap.size ≤ w1.heap.size) := ⟨by have h1 := HK9.out.size; have h2 := HB1.out.size; have h3 := HBB.out; omega, HK9.out.size, HB1.out.size⟩
          go_wp2_with fail
          clear x1 x2
          go_loopw [4, 5, 6] (fun u v i wi => ∃ (p q : Value) (m : Nat), p = u ∧ q = v ∧ m ≤ 64 ∧ i = .int .i64 (m : Int) ∧ Hid (∃ F, OF wi B p (n1 + m) F) ∧ Hid (∃ F, OF wi B q (n2 + m) F) ∧ Hid (∀ i, p.ownBlock = some i → q.ownBlock = some i → False) ∧ Hid (∀ i, p.ownBlock = some i → S i ∨ w1.heap.size ≤ i) ∧ Hid (∀ i, q.ownBlock = some i → S i ∨ w1.heap.size ≤ i) ∧ Hid (B ≤ wi.heap.size) ∧ Hid (Kp S w1 wi)) (fun _ _ i _ => 64 - (intOf i).toNat)
          case atStart => exact ⟨_, _, 0, rfl, rfl, by omega, rfl, ⟨_, HF9.out⟩, ⟨_, HG9.out⟩, HNE.out, (fun i e => .inl (HS1.out i e)), (fun i e => .inl (HS2.out i e)), HLO.out.1, HK9⟩
          case round =>
            obtain ⟨p, q, m, rfl, rfl, hm, rfl, ⟨F9, hF9⟩, ⟨G9, hG9⟩, HD, HP, HQ, HB, HK5⟩ := hrel
            by_cases hmt : m < 64
            · have hmi : (m : Int) < 64 := by omega
              have HF5 := hide hF9
              have HG5 := hide hG9
              clear hF9 hG9
              obtain ⟨wa, hwa⟩ : ∃ wa, wr.alloc (.cells #[.int .i64 80, .int .i64 0, .int .i64 0] 43) = wa := ⟨_, rfl⟩
              go_wp2_with (first
                | (at_builtin; refine pushT wr _ (ts 80) hwa rfl _ _ rfl B p (n1 + m) F9 rfl HF5.out 1 rfl (by omega) HB.out ?_; intro g' c' w6 ho6 hd6 hk6; have HF6 := hide ho6; have HD6 := hide hd6; have HK6 := hide hk6; clear ho6 hd6 hk6 hwa; obtain ⟨wb, hwb⟩ : ∃ wb, w6.alloc (.cells #[.int .i64 81, .int .i64 0, .int .i64 0] 43) = wb := ⟨_, rfl⟩; have HG6 := hide (HG5.out.kp HK6.out (fun i e e2 => HD.out i e2 e)); clear HF5; have HB6 : Hid (B ≤ w6.heap.size) := Nat.le_trans HB.out HK6.out.size)
                | (at_builtin; refine pushT w6 _ (ts 81) hwb rfl _ _ rfl B q (n2 + m) G9 rfl HG6.out 1 rfl (by omega) HB6.out ?_; intro g2' c2' w7 ho7 hd7 hk7; have HG7 := hide ho7; have HD7 := hide hd7; have HK7 := hide hk7; clear ho7 hd7 hk7 hwb))
              have HW6 : Hid (wr.heap.size ≤ w6.heap.size ∧ w6.heap.size ≤ w7.heap.size ∧ w1.heap.size ≤ wr.heap.size) := ⟨HK6.out.size, HK7.out.size, HK5.out.size⟩
              have HQL : Hid (∀ i, q.ownBlock = some i → i < wr.heap.size) := fun i e => (HG5.out.lt i e).2
              have HF7 : Hid (∃ F, OF w7 B (.slice (some ⟨g', 0, none⟩) (n1 + m + 1) c') (n1 + (m + 1)) F) := ⟨_, HF6.out.kp HK7.out (fun i e e2 => by
                have e : g' = i := Option.some.inj e
                subst e
                rcases HD6.out with h | h
                · exact HD.out _ h e2
                · have := HQL.out _ e2; omega)⟩
              have HGL : Hid (g' < w6.heap.size) := (HF6.out.lt g' rfl).2
              have HD8 : Hid (∀ i, (Value.slice (some ⟨g', 0, none⟩) (n1 + m + 1) c').ownBlock = some i → (Value.slice (some ⟨g2', 0, none⟩) (n2 + m + 1) c2').ownBlock = some i → False) := fun i e e2 => by
                have e : g' = i := Option.some.inj e
                have e2 : g2' = i := Option.some.inj e2
                subst e
                subst e2
                rcases HD7.out with h | h
                · rcases HD6.out with h2 | h2
                  · exact HD.out _ h2 h
                  · have := HQL.out _ h; omega
                · have := HGL.out; omega
              have HP8 : Hid (∀ i, (Value.slice (some ⟨g', 0, none⟩) (n1 + m + 1) c').ownBlock = some i → S i ∨ w1.heap.size ≤ i) := fun i e => by
                have e : g' = i := Option.some.inj e
                subst e
                rcases HD6.out with h | h
                · exact HP.out _ h
                · have := HW6.out; exact .inr (by omega)
              have HQ8 : Hid (∀ i, (Value.slice (some ⟨g2', 0, none⟩) (n2 + m + 1) c2').ownBlock = some i → S i ∨ w1.heap.size ≤ i) := fun i e => by
                have e : g2' = i := Option.some.inj e
                subst e
                rcases HD7.out with h | h
                · exact HQ.out _ h
                · have := HW6.out; exact .inr (by omega)
              have HK8 : Hid (Kp S w1 w7) := (HK5.out.trans HK6.out (fun i e hi => by rcases HP.out i e with h | h; exact h; omega)).trans HK7.out (fun i e hi => by rcases HQ.out i e with h | h; exact h; omega)
              have HB8 : Hid (B ≤ w7.heap.size) := Nat.le_trans HB6.out HK7.out.size
              go_roundw
              case rel => exact ⟨_, _, m + 1, rfl, rfl, by omega, by go_num, HF7.out, ⟨_, HG7.out⟩, HD8, HP8, HQ8, HB8, HK8⟩
              case measure => (simp [intOf] <;> omega)
            · obtain rfl : m = 64 := by omega
              go_wp2_with fail
              go_end0
              exact ⟨rfl, Kp.pre HB1.out HK5.out⟩
end Go.Proofs.YtgpfabblmoffiaaDoor.Lg
