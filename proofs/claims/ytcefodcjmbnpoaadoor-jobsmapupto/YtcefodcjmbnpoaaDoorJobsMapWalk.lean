/-
  The statement JobsMap: its walk.
-/
import Derived.Test.YtcefodcjmbnpoaaDoorJbMap
import Derived.Test.YtcefodcjmbnpoaaDoorJbRMapA
import Derived.Test.YtcefodcjmbnpoaaDoorJbRMapB
import Derived.Test.YtcefodcjmbnpoaaDoorJbRMapC
namespace Go.Proofs.YtcefodcjmbnpoaaDoor.Jb
open Go.ChangeShapes Go.WideShapes Go.ChangeAt Go.RowKit
open Go.Lib hiding intOf
open Go.Proofs.YtcefodcjmbnpoaaDoor.Base
set_option linter.unusedVariables false
theorem rmap_any (kind p : Int) (s : ByteArray) (w : World) (hs : s.size ≤ 1048576) (hp : In64 p) :
    Calls Tryd.prog 6 #[.int .i64 kind, .int .i64 p, .string s] w fun e w' => Ans w e w' (mapP kind p s) (mapN kind s) := by
  by_cases hbad : kind < 0 ∨ 4 < kind
  · have HE : mapP kind p s = [] ∧ mapN kind s = 0 := by
      unfold mapP mapN
      rw [if_neg (by omega), if_neg (by omega), if_neg (by omega), if_neg (by omega), if_neg (by omega), if_neg (by omega), if_neg (by omega), if_neg (by omega), if_neg (by omega), if_neg (by omega)]
      exact ⟨rfl, rfl⟩
    rw [HE.1, HE.2]
    exact rmapBad kind p s w hbad
  · have hk : kind = 0 ∨ kind = 1 ∨ kind = 2 ∨ kind = 3 ∨ kind = 4 := by omega
    rcases hk with rfl | rfl | rfl | rfl | rfl
    · exact rmap0 p s w hs
    · exact rmap1 p s w hs hp
    · exact rmap2 p s w hs
    · exact rmap3 p s w hs
    · exact rmap4 p s w hs
theorem onlyP_len (k v : ByteArray) : (onlyP k v).length ≤ 1 := by unfold onlyP; split <;> simp
theorem mapP_len (kind p : Int) (s : ByteArray) : (mapP kind p s).length ≤ s.size + 1 := by
  unfold mapP
  have h1 := words_len s
  have h2 := eachP_len (wordsL s) ⟨#[49]⟩
  have h3 := eachP_len (wordsL s) (dec p)
  have h4 := onlyP_len (keyOf s) (valOf s)
  have h5 := onlyP_len s ⟨#[]⟩
  split
  · omega
  · split
    · omega
    · split
      · split
        · omega
        · simp
      · split
        · omega
        · split
          · omega
          · simp
/-- a may be written and added to; b and want stay. -/
structure Apart (w0 wr : World) (lo hi : Nat) (xa xb xc : Value) (n : Nat) (ps L : List Pr) : Prop where
  a : OwnP wr w0.heap.size xa ps
  len : ps.length = n
  b : OwnP wr lo xb L
  c : OwnP wr lo xc L
  bh : ∀ i, xb.ownBlock = some i → lo ≤ i ∧ i < hi
  ch : ∀ i, xc.ownBlock = some i → lo ≤ i ∧ i < hi
  ah : ∀ i, xa.ownBlock = some i → i < lo ∨ hi ≤ i
  top : hi ≤ wr.heap.size
  bel : Below w0.heap.size w0 wr
theorem Apart.put {w0 wr : World} {lo hi g n m c : Nat} {xb xc : Value} {ps L : List Pr} (h : Apart w0 wr lo hi (.slice (some ⟨g, 0, none⟩) m c) xb xc n ps L) (i : Nat) (p : Pr) :
    Apart w0 ((wr.setCell ⟨g, i * 2, none⟩ (.string p.1)).setCell ⟨g, i * 2 + 1, none⟩ (.string p.2)) lo hi (.slice (some ⟨g, 0, none⟩) m c) xb xc n (ps.set i p) L := by
  obtain ⟨h1, h2⟩ := h.a.put i p
  have hg := h.a.blk g rfl
  have hh := h.ah g rfl
  exact ⟨h1, by rw [List.length_set]; exact h.len, h.b.kept h2 (fun i j e1 e2 => by have := h.bh i e1; have := Option.some.inj e2; omega), h.c.kept h2 (fun i j e1 e2 => by have := h.ch i e1; have := Option.some.inj e2; omega), h.bh, h.ch, h.ah, Nat.le_trans h.top h2.size, h.bel.grown h2 h.bel.size (fun k e => by have := Option.some.inj e; omega)⟩
theorem Apart.push {w0 wr wa w' : World} {lo hi n g c : Nat} {xa xb xc : Value} {ps L : List Pr} {p : Pr} (h : Apart w0 wr lo hi xa xb xc n ps L) (ha : Below wr.heap.size wr wa) (ho : OwnP w' w0.heap.size (.slice (some ⟨g, 0, none⟩) (ps.length + 1) c) (ps ++ [p])) (hg : wa.grownBy w' xa.ownBlock) (hb : xa.ownBlock = some g ∨ g = wa.heap.size) :
    Apart w0 w' lo hi (.slice (some ⟨g, 0, none⟩) (ps.length + 1) c) xb xc (n + 1) (ps ++ [p]) L := by
  have b1 := h.b.below ha
  have c1 := h.c.below ha
  refine ⟨ho, by rw [List.length_append, h.len]; rfl, b1.kept hg (fun i j e1 e2 => ?_), c1.kept hg (fun i j e1 e2 => ?_), h.bh, h.ch, ?_, ?_, ?_⟩
  · have := h.bh i e1; have := h.ah j e2; omega
  · have := h.ch i e1; have := h.ah j e2; omega
  · intro i e
    have e2 : g = i := Option.some.inj e
    subst e2
    rcases hb with hb | hb
    · exact h.ah g hb
    · right; have := h.top; have := ha.size; omega
  · have := h.top; have := ha.size; have := hg.size; omega
  · exact (below_trans h.bel ha).grown hg (below_trans h.bel ha).size (fun k e => (h.a.blk k e).1)
theorem Apart.below {w0 wr w' : World} {lo hi n : Nat} {xa xb xc : Value} {ps L : List Pr} (h : Apart w0 wr lo hi xa xb xc n ps L) (hb : Below wr.heap.size wr w') : Apart w0 w' lo hi xa xb xc n ps L :=
  ⟨h.a.below hb, h.len, h.b.below hb, h.c.below hb, h.bh, h.ch, h.ah, Nat.le_trans h.top hb.size, below_trans h.bel hb⟩
theorem Apart.some {w0 wr : World} {lo hi n m c : Nat} {aa : Option Addr} {xb xc : Value} {ps L : List Pr} (h : Apart w0 wr lo hi (.slice aa m c) xb xc n ps L) (h0 : 0 < n) : ∃ g, aa = Option.some ⟨g, 0, none⟩ := by
  rcases h.a.2 with ⟨_, h2⟩ | ⟨g, _, _, h1, _⟩
  · rw [h.len] at h2; omega
  · simp only [Value.slice.injEq] at h1; exact ⟨g, h1.1⟩
theorem Apart.cells {w0 wr : World} {lo hi n m c g : Nat} {xb xc : Value} {ps L : List Pr} (h : Apart w0 wr lo hi (.slice (Option.some ⟨g, 0, none⟩) m c) xb xc n ps L) (i : Nat) (hi : i < n) : ∃ x y, wr.cell? ⟨g, i * 2, none⟩ = Option.some (.string x) ∧ wr.cell? ⟨g, i * 2 + 1, none⟩ = Option.some (.string y) := by
  have hr := h.a.rdp
  have hm : m = n := by rw [← h.len]; exact hr.1.symm
  subst hm
  obtain ⟨b, off, e, _, hc⟩ := hr.2 (by omega)
  cases e
  have := hc i hi
  rw [Nat.zero_add] at this
  exact ⟨_, _, this.1, this.2⟩
set_option maxHeartbeats 4000000 in
set_option maxRecDepth 100000 in
theorem jmwalk (kind p : Int) (s : ByteArray) (w : World) (hs : s.size ≤ 1048576) (hp : In64 p) (hw : Wd w) :
    Calls Tryd.prog 3 #[.int .i64 kind, .int .i64 p, .string s] w fun e w' => e = .returned (.bool true) ∧ Below w.heap.size w w' := by
  have HW := hide hw
  have HM := hide (fun W hW => map_any kind p s W hs hp hW)
  have HR := hide (fun W => rmap_any kind p s W hs hp)
  have HC := hide (fun W => check_any kind W)
  have HC2 := hide (fun W => rcheck_any kind W)
  have HL := hide (fun W => line_any s ⟨#[120]⟩ W (by omega) (by decide))
  have HL2 := hide (fun W => rline_any s ⟨#[120]⟩ W (by omega) (by decide))
  have hll := mapP_len kind p s
  generalize mapP kind p s = L at HM HR hll
  generalize mapN kind s = N at HM HR
  generalize chk kind = E at HC HC2
  generalize s ++ ⟨#[9]⟩ ++ ⟨#[120]⟩ ++ ⟨#[10]⟩ = T at HL HL2
  have hse : (T.toList == T.toList) = true := by simp
  have hne : ((N : Int) != (N : Int)) = false := by simp
  have hee : (E != E) = false := by simp
  clear hw hp
  obtain ⟨l, hl⟩ : ∃ l, L.length = l := ⟨_, rfl⟩
  rw [hl] at hll
  have HLL := hide hl
  clear hl
  go_enter Tryd.func3, Tryd.ntmps3
  go_upto_region 2 with (go_at_call 5; refine (HM.out _ HW.out).mono ?_; rintro e w1 ⟨xa, rfl, ho, hb⟩; have HO1 := hide ho; have HB1 := hide hb; have HW1 := hide (HW.out.below hb); clear ho hb)
  go_upto_region 3 with (go_at_call 5; refine (HM.out _ HW1.out).mono ?_; rintro e w2 ⟨xb, rfl, ho, hb⟩; have HO2 := hide ho; have HB2 := hide hb; clear ho hb)
  go_upto_region 4 with (go_at_call 6; refine (HR.out _).mono ?_; rintro e w3 ⟨xc, rfl, ho, hb⟩; have HO3 := hide ho; have HB3 := hide hb; clear ho hb)
  have HAP : Hid (Apart w w3 w1.heap.size w3.heap.size xa xb xc l L L) := by
    have a3 := (HO1.out.below HB2.out).below HB3.out
    have b3 := HO2.out.below HB3.out
    have c3 := HO3.out.mono HB2.out.size
    exact ⟨a3, HLL.out, b3, c3, fun i e => ⟨(HO2.out.blk i e).1, by have := (HO2.out.blk i e).2; have := HB3.out.size; omega⟩, fun i e => ⟨by have := (HO3.out.blk i e).1; have := HB2.out.size; omega, (HO3.out.blk i e).2⟩, fun i e => .inl (HO1.out.blk i e).2, Nat.le_refl _, below_trans (below_trans HB1.out HB2.out) HB3.out⟩
  obtain ⟨aa, ca, rfl, hca⟩ := HO1.out.shape
  obtain ⟨ab, cb, rfl, _⟩ := HO2.out.shape
  obtain ⟨ac, cc, rfl, _⟩ := HO3.out.shape
  rw [HLL.out] at HAP ⊢
  have HS1 := hide (samePairs_eq aa ac l ca cc L w3 HAP.out.a.rdp HAP.out.c.rdp (by omega))
  clear HO1 HO2 HO3 hca
  go_wp2_with (first
    | (go_at_call 7; refine HS1.out.mono ?_; rintro e w4 ⟨rfl, hb4⟩; have HB4 := hide hb4; clear hb4)
    | (go_at_call 8; refine (HC.out _).mono ?_; rintro e w5 ⟨rfl, hq⟩; obtain rfl := hq.symm)
    | (go_at_call 9; refine (HC2.out _).mono ?_; rintro e w5 ⟨rfl, hq⟩; obtain rfl := hq.symm)
    | (go_at_call 10; refine (HL.out _).mono ?_; rintro e w5 ⟨rfl, hq⟩; obtain rfl := hq.symm)
    | (go_at_call 11; refine (HL2.out _).mono ?_; rintro e w5 ⟨rfl, hq⟩; obtain rfl := hq.symm))
  have HA4 := hide (HAP.out.below HB4.out)
  clear HAP HM HR HC HC2 HL HL2 HS1 HB4 HW1 hse hne hee
  generalize w1.heap.size = lo at HA4
  generalize w3.heap.size = hi at HA4
  clear HB1 HB2 HB3
  go_loopw [13] (fun s13 wr => ∃ (i : Nat) (ps : List Pr), i ≤ l ∧ .int .i64 (i : Int) = s13 ∧ Hid (Apart w wr lo hi (.slice aa l ca) (.slice ab l cb) (.slice ac l cc) l ps L)) (fun s13 _ => l - (intOf s13).toNat)
  case atStart => exact ⟨0, L, by omega, rfl, HA4.out⟩
  case round =>
    obtain ⟨i, ps, hi1, rfl, HA⟩ := hrel
    by_cases hin : i < l
    · have hii : (i : Int) < (l : Int) := by omega
      have hi0 : (0 : Int) ≤ (i : Int) := by omega
      obtain ⟨g, rfl⟩ := HA.out.some (by omega)
      obtain ⟨x, y, hc0, hc1⟩ := HA.out.cells i hin
      have hf0 := HA.out.a.frozen (i * 2)
      have hf1 := HA.out.a.frozen (i * 2 + 1)
      have HN := hide (HA.out.put i (⟨#[109, 97, 114, 107, 101, 100]⟩, ⟨#[]⟩))
      go_wp2_with fail
      go_roundw
      case rel => exact ⟨i + 1, _, by omega, by go_num, HN.out⟩
      case measure => (simp [intOf] <;> omega)
    · have hii : ¬ (i : Int) < (l : Int) := by omega
      rename World => V0
      go_wp2_with fail
      go_loopw [7, 14] (fun s7 s14 wr => ∃ (j n : Nat) (v : Value) (qs : List Pr), j ≤ 64 ∧ n = l + j ∧ v = s7 ∧ .int .i64 (j : Int) = s14 ∧ Hid (Apart w wr lo hi v (.slice ab l cb) (.slice ac l cc) n qs L)) (fun _ s14 _ => 64 - (intOf s14).toNat)
      case atStart => exact ⟨0, l, _, ps, by omega, rfl, rfl, rfl, HA.out⟩
      case round =>
        obtain ⟨j, n, v, qs, hj, hn, rfl, rfl, HQ⟩ := hrel
        by_cases hjn : j < 64
        · have hjj : (j : Int) < 64 := by omega
          obtain ⟨wa, hwa⟩ : ∃ wa, wr.alloc (.cells #[.string ⟨#[98, 101, 104, 105, 110, 100]⟩, .string ⟨#[]⟩] 30) = wa := ⟨_, rfl⟩
          have HBA : Hid (Below wr.heap.size wr wa) := by rw [← hwa]; exact (Below.refl _ _).alloc (Nat.le_refl _) _
          have HCA : Hid (wa.heap[wr.heap.size]? = Option.some (.cells #[.string ⟨#[98, 101, 104, 105, 110, 100]⟩, .string ⟨#[]⟩] 30)) := by rw [← hwa]; exact heap_alloc_new _ _
          have HJ := hide hn
          clear hn
          go_wp2_with (at_builtin; refine pushP wa rfl _ _ rfl w.heap.size v qs rfl (HQ.out.a.below HBA.out) wr.heap.size (⟨#[98, 101, 104, 105, 110, 100]⟩, ⟨#[]⟩) rfl HCA.out (by have := HQ.out.len; have := HJ.out; omega) (by have := HQ.out.bel.size; have := HBA.out.size; omega) ?_; intro g c4 w4 ho4 hg4 hw4; have HP4 := hide (HQ.out.push HBA.out ho4 hg4 hw4); clear ho4 hg4 hw4)
          go_roundw
          case rel => exact ⟨j + 1, n + 1, _, _, by omega, by have := HJ.out; omega, rfl, by go_num, HP4.out⟩
          case measure => (simp [intOf] <;> omega)
        · have hjj : ¬ (j : Int) < 64 := by omega
          have HS2 := hide (samePairs_eq ab ac l cb cc L wr HQ.out.b.rdp HQ.out.c.rdp (by omega))
          go_wp2_with (go_at_call 7; refine HS2.out.mono ?_; rintro e w6 ⟨rfl, hb6⟩; have HB6 := hide (below_trans HQ.out.bel hb6); clear hb6)
          go_ret
          exact ⟨rfl, HB6.out⟩
end Go.Proofs.YtcefodcjmbnpoaaDoor.Jb
