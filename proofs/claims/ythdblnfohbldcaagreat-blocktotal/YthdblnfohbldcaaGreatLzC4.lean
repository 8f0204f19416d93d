/-
  What the program reads: all tokens, handed on one by one.
-/
import Derived.Test.YthdblnfohbldcaaGreatLzC3
import Derived.Conc.MuLone
namespace Go.Proofs.YthdblnfohbldcaaGreat.Lz
open Go.ChangeShapes Go.WideShapes Go.ChangeAt Go.RowKit
open Go.Proofs.YthdblnfohbldcaaGreat.Base Go.Proofs.YthdblnfohbldcaaGreat.Nums
set_option linter.unusedVariables false
theorem enter_of {f : FuncId} {fn : Func} {c : Code} (hf : Tryz.prog.funcs[f]? = some fn) (hname : (fn.name == "runtime.NumGoroutine") = false) (hb : fn.body = some c) (args : Array Value) (w : World) : (callFunc f args).run Tryz.prog w = .ok (.enter f args) w := Go.MuLone.run_callFunc_enter hf hname hb args w
/-- What is asked of the function that tokens are handed to, with what it holds: 'I ts' holds where the tokens ts have been handed on. -/
structure Taker (f : Nat) (caps : Array Value) (n : Nat) (I : List Tok → World → Prop) : Prop where
  keep : ∀ ts w0 w1, I ts w0 → Below w0.heap.size w0 w1 → I ts w1
  step : ∀ ts t la lc w0 w1, I ts w0 → Below w0.heap.size w0 w1 → Rd w1 la t.lit.length t.lit → (la = none → t.lit.length = 0 ∧ lc = 0) → t.lit.length ≤ lc → lc ≤ 9223372036854775807 → Ok t (expand [] ts).length n → (expand [] ts).length < n →
    Calls Tryz.prog f (#[.agg #[.slice la t.lit.length lc, .int .i64 t.dist, .int .i64 t.len]] ++ caps) w1 fun e w2 => e = .returned (.tuple #[]) ∧ I (ts ++ [t]) w2 ∧ w1.heap.size ≤ w2.heap.size ∧ ∀ g, w0.heap.size ≤ g → g < w1.heap.size → w2.heap[g]? = w1.heap[g]?
set_option maxHeartbeats 1000000 in
set_option maxRecDepth 100000 in
theorem read_arg (f : Nat) (caps : Array Value) (a : Option Addr) (len cap : Nat) (n : Int) (w : World) (hn : n < 0 ∨ 65536 < n) :
    Calls Tryz.prog 41 #[.slice a len cap, .int .i64 n, .func (.func f) #[] caps] w fun e w' => e = .returned (.int .i64 3) ∧ w' = w := by
  by_cases h1 : n < 0
  · clear hn
    go_enter Tryz.func41, Tryz.ntmps41
    go_wp2
    go_ret
    exact ⟨rfl, rfl⟩
  · have h2 : 65536 < n := by omega
    clear hn
    go_enter Tryz.func41, Tryz.ntmps41
    go_wp2
    go_ret
    exact ⟨rfl, rfl⟩
set_option maxHeartbeats 4000000 in
set_option maxRecDepth 100000 in
theorem read_one (f : Nat) (x : Value) (a : Option Addr) (len cap : Nat) (bs : List (BitVec 8)) (n : Nat) (I : List Tok → World → Prop) (w : World) (hcap : len ≤ cap) (hm : cap ≤ 9223372036854775807) (hn2 : n ≤ 65536)
    (hf : ∀ args w, (callFunc f args).run Tryz.prog w = .ok (.enter f args) w) (ht : Taker f #[x] n I) (h0 : I [] w) (hrd : ∀ ts w, I ts w → Rd w a len bs) :
    Calls Tryz.prog 41 #[.slice a len cap, .int .i64 (n : Int), .func (.func f) #[] #[x]] w fun e w' => e = .returned (.int .i64 ((read bs 0 n).2 : Nat)) ∧ I (read bs 0 n).1 w' := by
  have HK := hide ht.keep
  have HS := hide ht.step
  have H0 := hide h0
  have HRD := hide hrd
  have HL := hide (hrd [] w h0).1
  have hlm := (hrd [] w h0).2.1
  have HN2 := hide hn2
  have hni : (n : Int) ≤ 65536 := by omega
  clear ht h0 hrd hn2
  go_enter Tryz.func41, Tryz.ntmps41
  go_wp2_with fail
  go_loopw [0, 7] (fun o y wr => ∃ (ts : List Tok) (h k : Nat) (a' : Option Addr), h ≤ n ∧ k ≤ len ∧ y = .int .i64 (h : Int) ∧ o = .slice a' (len - k) (cap - k) ∧ Hid (I ts wr) ∧ Hid ((expand [] ts).length = h) ∧ Hid (∀ W, Rd W a len bs → Rd W a' (len - k) (bs.drop k)) ∧ Hid (read bs 0 n = (ts ++ (read (bs.drop k) h n).1, (read (bs.drop k) h n).2))) (fun _ y _ => n - (intOf y).toNat)
  case atStart => exact ⟨[], 0, 0, a, Nat.zero_le _, Nat.zero_le _, rfl, rfl, H0, rfl, fun W h => h, rfl⟩
  case round =>
    obtain ⟨ts, h, k, a', hh, hk, rfl, rfl, HI, HX, HA, HE⟩ := hrel
    clear H0
    have HR := hide (HA.out wr (HRD.out ts wr HI.out))
    by_cases hlt : h < n
    · have hlti : (h : Int) < (n : Int) := by omega
      go_wp2_with fail
      refine (first_any a' (len - k) (cap - k) (bs.drop k) h n wr HR.out (by omega) (by omega) hlt HN2.out).mono ?_
      rintro e w1 ⟨v, s, rfl, hb1, hq⟩
      cases hfq : first (bs.drop k) h n with
      | none =>
        rw [hfq] at hq
        obtain ⟨rfl, la, ln, lc, d, l, rfl⟩ := hq
        have HE2 : Hid (read bs 0 n = (ts, 30)) := by
          show _ = _; rw [HE.out, read_fail _ _ _ hlt HN2.out hfq]; simp
        have HI1 : Hid (I ts (w1.alloc (.cells #[.slice la ln lc, .int .i64 d, .int .i64 l] 74))) := HK.out ts wr _ HI.out (below_trans hb1 ((Below.refl _ _).alloc (Nat.le_refl _) _))
        clear hfq hb1
        go_wp2_with fail
        go_ret
        rw [HE2.out]
        exact ⟨rfl, HI1.out⟩
      | some p =>
        obtain ⟨t, sz⟩ := p
        rw [hfq] at hq
        simp only at hq
        obtain ⟨rfl, hsz0, la, lc, rfl, hla, hlz, hlc1, hlc2⟩ := hq
        obtain ⟨hok, hszp, rest, hrest⟩ := first_some (bs.drop k) h n t sz HN2.out hfq
        have hadv := ok_adv t h n hok hlt
        have hszl : sz ≤ len - k := by
          have := congrArg List.length hrest
          rw [List.length_append, List.length_drop, HL.out] at this; omega
        have HE2 : Hid (read bs 0 n = (ts ++ [t] ++ (read (bs.drop (k + sz)) (h + t.lit.length + t.len.toNat) n).1, (read (bs.drop (k + sz)) (h + t.lit.length + t.len.toNat) n).2)) := by
          show _ = _
          rw [HE.out, read_next _ _ _ _ _ hlt HN2.out hfq, List.drop_drop]; simp
        have HX2 : Hid ((expand [] (ts ++ [t])).length = h + t.lit.length + t.len.toNat) := by
          show _ = _; rw [expand_snoc, length_grow, HX.out]
        have hlen0 : 0 ≤ t.len := by rcases hok with ⟨⟨_, hb⟩, _⟩ | ⟨_, hb, _⟩ <;> omega
        have hbW : Below wr.heap.size wr (w1.alloc (.cells #[.slice la t.lit.length lc, .int .i64 t.dist, .int .i64 t.len] 74)) := below_trans hb1 ((Below.refl _ _).alloc (Nat.le_refl _) _)
        have HST := hide (HS.out ts t la lc wr _ HI.out hbW (hla.below hbW) hlz hlc1 hlc2 (by rw [HX.out]; exact hok) (by rw [HX.out]; exact hlt))
        have HT1 := hide (TRow.new w1 (.slice la t.lit.length lc) t.dist t.len)
        obtain ⟨ab, ao, rfl, _, _⟩ := HR.out.2.2 (by omega)
        obtain ⟨lb, hsl, hlb, hls, _⟩ := slice_l ab ao (len - k) (cap - k) sz hszl (by omega)
        have HA2 : Hid (∀ W, Rd W a len bs → Rd W (some lb) (len - (k + sz)) (bs.drop (k + sz))) := by
          intro W hW
          have h1 := rd_rest (HA.out W hW) hszl hlb
          rw [List.drop_drop, Nat.sub_sub] at h1
          exact h1
        rw [Nat.sub_sub, Nat.sub_sub] at hsl
        have hs1 := hb1.size
        clear hfq hb1 hla hlz hlc1 hlc2 hok hszp hrest hlb hls hbW HE HX HA HR
        obtain ⟨lit, d, l0⟩ := t
        simp only at hlen0 hadv HE2 HX2 HST HT1 ⊢
        obtain ⟨l, rfl⟩ := Int.eq_ofNat_of_zero_le hlen0
        rw [Int.toNat_natCast] at hadv HE2 HX2
        have hszb : ((sz : Int) == 0) = false := by rw [beq_eq_false_iff_ne]; omega
        have hllen : (lit.length : Int) ≤ 65536 := by omega
        have hsum : (h : Int) + ((lit.length : Int) + (l : Int)) = ((h + lit.length + l : Nat) : Int) := by omega
        obtain ⟨hadv1, hadv2⟩ := hadv
        obtain ⟨h', hh'⟩ : ∃ h', h + lit.length + l = h' := ⟨_, rfl⟩
        rw [hh'] at hadv1 hadv2 HE2 HX2 hsum
        clear hlen0 hh'
        go_wp2_with fail
        refine HST.out.mono ?_
        rintro e w2 ⟨rfl, hI2, hsz2, hblk⟩
        have HI2 := hide hI2
        have HT2 : Hid (TRow w2 w1.heap.size (.slice la lit.length lc) d (l : Int)) := by
          show _ = _; rw [hblk w1.heap.size hs1 (by simp)]; exact HT1.out
        have k0 := HT2.out.c0
        have k2 := HT2.out.c2
        clear hI2 hsz2 hblk HST HT1 HI
        go_wp2_with fail
        go_roundw
        case rel => exact ⟨ts ++ [⟨lit, d, (l : Int)⟩], h', k + sz, some lb, hadv2, by omega, rfl, rfl, HI2, HX2, HA2, HE2⟩
        case measure => simp [intOf]; omega
    · have hlti : ¬ (h : Int) < (n : Int) := by omega
      have HE2 : Hid (read bs 0 n = (ts, if len - k = 0 then 0 else 30)) := by
        show _ = _
        rw [HE.out, read_end _ _ _ hlt]
        have : (bs.drop k = []) ↔ len - k = 0 := by rw [← List.length_eq_zero_iff, List.length_drop, HL.out]
        simp [this]
      by_cases hz : len - k = 0
      · rw [hz]
        rw [if_pos hz] at HE2
        clear HE
        go_wp2_with fail
        go_ret
        rw [HE2.out]
        exact ⟨rfl, HI.out⟩
      · rw [if_neg hz] at HE2
        have hzi : (0 : Int) < ((len - k : Nat) : Int) := by omega
        clear HE
        generalize len - k = r at hz hzi HR
        go_wp2_with fail
        go_ret
        rw [HE2.out]
        exact ⟨rfl, HI.out⟩
set_option maxHeartbeats 4000000 in
set_option maxRecDepth 100000 in
theorem read_two (f : Nat) (x x2 : Value) (a : Option Addr) (len cap : Nat) (bs : List (BitVec 8)) (n : Nat) (I : List Tok → World → Prop) (w : World) (hcap : len ≤ cap) (hm : cap ≤ 9223372036854775807) (hn2 : n ≤ 65536)
    (hf : ∀ args w, (callFunc f args).run Tryz.prog w = .ok (.enter f args) w) (ht : Taker f #[x, x2] n I) (h0 : I [] w) (hrd : ∀ ts w, I ts w → Rd w a len bs) :
    Calls Tryz.prog 41 #[.slice a len cap, .int .i64 (n : Int), .func (.func f) #[] #[x, x2]] w fun e w' => e = .returned (.int .i64 ((read bs 0 n).2 : Nat)) ∧ I (read bs 0 n).1 w' := by
  have HK := hide ht.keep
  have HS := hide ht.step
  have H0 := hide h0
  have HRD := hide hrd
  have HL := hide (hrd [] w h0).1
  have hlm := (hrd [] w h0).2.1
  have HN2 := hide hn2
  have hni : (n : Int) ≤ 65536 := by omega
  clear ht h0 hrd hn2
  go_enter Tryz.func41, Tryz.ntmps41
  go_wp2_with fail
  go_loopw [0, 7] (fun o y wr => ∃ (ts : List Tok) (h k : Nat) (a' : Option Addr), h ≤ n ∧ k ≤ len ∧ y = .int .i64 (h : Int) ∧ o = .slice a' (len - k) (cap - k) ∧ Hid (I ts wr) ∧ Hid ((expand [] ts).length = h) ∧ Hid (∀ W, Rd W a len bs → Rd W a' (len - k) (bs.drop k)) ∧ Hid (read bs 0 n = (ts ++ (read (bs.drop k) h n).1, (read (bs.drop k) h n).2))) (fun _ y _ => n - (intOf y).toNat)
  case atStart => exact ⟨[], 0, 0, a, Nat.zero_le _, Nat.zero_le _, rfl, rfl, H0, rfl, fun W h => h, rfl⟩
  case round =>
    obtain ⟨ts, h, k, a', hh, hk, rfl, rfl, HI, HX, HA, HE⟩ := hrel
    clear H0
    have HR := hide (HA.out wr (HRD.out ts wr HI.out))
    by_cases hlt : h < n
    · have hlti : (h : Int) < (n : Int) := by omega
      go_wp2_with fail
      refine (first_any a' (len - k) (cap - k) (bs.drop k) h n wr HR.out (by omega) (by omega) hlt HN2.out).mono ?_
      rintro e w1 ⟨v, s, rfl, hb1, hq⟩
      cases hfq : first (bs.drop k) h n with
      | none =>
        rw [hfq] at hq
        obtain ⟨rfl, la, ln, lc, d, l, rfl⟩ := hq
        have HE2 : Hid (read bs 0 n = (ts, 30)) := by
          show _ = _; rw [HE.out, read_fail _ _ _ hlt HN2.out hfq]; simp
        have HI1 : Hid (I ts (w1.alloc (.cells #[.slice la ln lc, .int .i64 d, .int .i64 l] 74))) := HK.out ts wr _ HI.out (below_trans hb1 ((Below.refl _ _).alloc (Nat.le_refl _) _))
        clear hfq hb1
        go_wp2_with fail
        go_ret
        rw [HE2.out]
        exact ⟨rfl, HI1.out⟩
      | some p =>
        obtain ⟨t, sz⟩ := p
        rw [hfq] at hq
        simp only at hq
        obtain ⟨rfl, hsz0, la, lc, rfl, hla, hlz, hlc1, hlc2⟩ := hq
        obtain ⟨hok, hszp, rest, hrest⟩ := first_some (bs.drop k) h n t sz HN2.out hfq
        have hadv := ok_adv t h n hok hlt
        have hszl : sz ≤ len - k := by
          have := congrArg List.length hrest
          rw [List.length_append, List.length_drop, HL.out] at this; omega
        have HE2 : Hid (read bs 0 n = (ts ++ [t] ++ (read (bs.drop (k + sz)) (h + t.lit.length + t.len.toNat) n).1, (read (bs.drop (k + sz)) (h + t.lit.length + t.len.toNat) n).2)) := by
          show _ = _
          rw [HE.out, read_next _ _ _ _ _ hlt HN2.out hfq, List.drop_drop]; simp
        have HX2 : Hid ((expand [] (ts ++ [t])).length = h + t.lit.length + t.len.toNat) := by
          show _ = _; rw [expand_snoc, length_grow, HX.out]
        have hlen0 : 0 ≤ t.len := by rcases hok with ⟨⟨_, hb⟩, _⟩ | ⟨_, hb, _⟩ <;> omega
        have hbW : Below wr.heap.size wr (w1.alloc (.cells #[.slice la t.lit.length lc, .int .i64 t.dist, .int .i64 t.len] 74)) := below_trans hb1 ((Below.refl _ _).alloc (Nat.le_refl _) _)
        have HST := hide (HS.out ts t la lc wr _ HI.out hbW (hla.below hbW) hlz hlc1 hlc2 (by rw [HX.out]; exact hok) (by rw [HX.out]; exact hlt))
        have HT1 := hide (TRow.new w1 (.slice la t.lit.length lc) t.dist t.len)
        obtain ⟨ab, ao, rfl, _, _⟩ := HR.out.2.2 (by omega)
        obtain ⟨lb, hsl, hlb, hls, _⟩ := slice_l ab ao (len - k) (cap - k) sz hszl (by omega)
        have HA2 : Hid (∀ W, Rd W a len bs → Rd W (some lb) (len - (k + sz)) (bs.drop (k + sz))) := by
          intro W hW
          have h1 := rd_rest (HA.out W hW) hszl hlb
          rw [List.drop_drop, Nat.sub_sub] at h1
          exact h1
        rw [Nat.sub_sub, Nat.sub_sub] at hsl
        have hs1 := hb1.size
        clear hfq hb1 hla hlz hlc1 hlc2 hok hszp hrest hlb hls hbW HE HX HA HR
        obtain ⟨lit, d, l0⟩ := t
        simp only at hlen0 hadv HE2 HX2 HST HT1 ⊢
        obtain ⟨l, rfl⟩ := Int.eq_ofNat_of_zero_le hlen0
        rw [Int.toNat_natCast] at hadv HE2 HX2
        have hszb : ((sz : Int) == 0) = false := by rw [beq_eq_false_iff_ne]; omega
        have hllen : (lit.length : Int) ≤ 65536 := by omega
        have hsum : (h : Int) + ((lit.length : Int) + (l : Int)) = ((h + lit.length + l : Nat) : Int) := by omega
        obtain ⟨hadv1, hadv2⟩ := hadv
        obtain ⟨h', hh'⟩ : ∃ h', h + lit.length + l = h' := ⟨_, rfl⟩
        rw [hh'] at hadv1 hadv2 HE2 HX2 hsum
        clear hlen0 hh'
        go_wp2_with fail
        refine HST.out.mono ?_
        rintro e w2 ⟨rfl, hI2, hsz2, hblk⟩
        have HI2 := hide hI2
        have HT2 : Hid (TRow w2 w1.heap.size (.slice la lit.length lc) d (l : Int)) := by
          show _ = _; rw [hblk w1.heap.size hs1 (by simp)]; exact HT1.out
        have k0 := HT2.out.c0
        have k2 := HT2.out.c2
        clear hI2 hsz2 hblk HST HT1 HI
        go_wp2_with fail
        go_roundw
        case rel => exact ⟨ts ++ [⟨lit, d, (l : Int)⟩], h', k + sz, some lb, hadv2, by omega, rfl, rfl, HI2, HX2, HA2, HE2⟩
        case measure => simp [intOf]; omega
    · have hlti : ¬ (h : Int) < (n : Int) := by omega
      have HE2 : Hid (read bs 0 n = (ts, if len - k = 0 then 0 else 30)) := by
        show _ = _
        rw [HE.out, read_end _ _ _ hlt]
        have : (bs.drop k = []) ↔ len - k = 0 := by rw [← List.length_eq_zero_iff, List.length_drop, HL.out]
        simp [this]
      by_cases hz : len - k = 0
      · rw [hz]
        rw [if_pos hz] at HE2
        clear HE
        go_wp2_with fail
        go_ret
        rw [HE2.out]
        exact ⟨rfl, HI.out⟩
      · rw [if_neg hz] at HE2
        have hzi : (0 : Int) < ((len - k : Nat) : Int) := by omega
        clear HE
        generalize len - k = r at hz hzi HR
        go_wp2_with fail
        go_ret
        rw [HE2.out]
        exact ⟨rfl, HI.out⟩
end Go.Proofs.YthdblnfohbldcaaGreat.Lz
