/-
  List itself.
-/
import Derived.Test.YtdcjhjpbkpiddaaStList
import Derived.Deep.OwnRows
import Derived.Deep.RegionHeldLaw
namespace Go.Proofs.Ytdcjhjpbkpiddaa.St
open Go.Shelf Go.ChangeShapes Go.WideShapes Go.ChangeAt Go.RowKit Go.MuLone Go.Sort
open Go.Proofs.Ytdcjhjpbkpiddaa.Base
set_option linter.unusedVariables false
theorem inews (w : World) (a b c : Value) : ∀ (j : Nat) (u : Value), [a, b, c][j]? = some u → (w.alloc (.cells #[a, b, c] 45)).cell? ((⟨w.heap.size, 0, none⟩ : Addr).add j) = some u := by
  intro j u hu
  rw [Addr.add_mid, cell_of_row _ _ _ _ _ _ (heap_alloc_new _ _)]
  rcases j with _ | _ | _ | j
  · exact hu
  · exact hu
  · exact hu
  · simp at hu
theorem info_one (nm : ByteArray) (d l : Int) : ∀ u, u ∈ [Value.string nm, .int .i64 d, .int .i64 l] → u.oneCell' = true := by
  intro u hu
  simp only [List.mem_cons, List.not_mem_nil, or_false] at hu
  rcases hu with rfl | rfl | rfl <;> rfl
/-- append of one info at a step of a region that draws. -/
theorem step_pushI {ops : Array Oper} {o : Oper} {a : Act} {w : World} {K : Act → World → Prop} {Q : Exit → Act → World → Prop} {E : Prop} (hgd : o.guard = none) (s x : Operand)
    (ho : o.op = .call { callee := .builtin .append, args := #[s, x], argTypes := #[42, 42] }) (d : Tmp) (hd : o.dst = some d)
    (base : Nat) (v : Value) (n : Nat) (xs : List Value) (hs : a.eval s = v) (hown : w.ownsRow base 45 3 v n xs) (ad : Addr) (nm : ByteArray) (p q : Int) (hx : a.eval x = .slice (some ad) 1 1)
    (hnews : ∀ j u, [Value.string nm, .int .i64 p, .int .i64 q][j]? = some u → w.cell? (ad.add j) = some u) (hl : n ≤ 100) (hbase : base ≤ w.heap.size)
    (h : ∀ v' w', w'.ownsRow base 45 3 v' (n + 1) (xs ++ [.string nm, .int .i64 p, .int .i64 q]) → w.grownBy w' v.ownBlock → K (a.put (some d) v') w') :
    if Region.wanted o (yielded ops a.tmps) = true then Oper.wp Try.prog o a w K Q else E := by
  obtain ⟨i0, hi, hz0, hz1, hz2⟩ := info_parts infoI
  exact step_append_own hgd s x 42 ho base 45 i0 (.agg #[.string ⟨#[]⟩, .int .i64 0, .int .i64 0]) 3 32 Try.underlying42 hi hz0 hz1 hz2 rfl (by omega) v n xs hs hown ad 1 1 [.string nm, .int .i64 p, .int .i64 q] hx rfl hnews (info_one _ _ _) (by unfold maxLen; omega) (by omega) hbase (fun v' w' h1 h2 _ => by rw [hd]; exact h v' w' h1 h2)
/-- Between two rounds of the range. -/
structure LRel (w2 : World) (bm n r : Nat) (D : DataW Unit) (st sz : Fin 4 → Int) (v : Value) (wr : World) (left : Lit → Bool) (cnt : Nat) (ds : List (Fin 4)) : Prop where
  rg : wr.ranges Try.prog 9 PR bm r n D left cnt
  col : Col D left ds
  row : wr.ownsRow (r + 1) 45 3 v ds.length (flatI st sz ds)
  gr : w2.grownBy wr none
  sz : r + 1 ≤ wr.heap.size
  len : ds.length + cnt ≤ 4
set_option maxHeartbeats 2000000 in
set_option maxRecDepth 100000 in
theorem list_any (s bm n : Nat) (D : DataW Unit) (R B G : Int) (bl ln cp : Nat → Nat) (va : Nat → Option Addr) (st sp : Nat → Int) (sd : Nat → Bool) (w : World) (hs : Store w s bm n D R B G)
    (hD2 : ∀ kl, Maps.has D kl = true → ∃ k : Fin 4, kl = key (nameOf k.val)) (hD3 : Maps.size D ≤ 4) (hD1 : ∀ k, k < 4 → ∀ z, D.atKey (key (nameOf k)) z = .lit (.int .i64 (bl k : Int)))
    (hb : ∀ k, k < 4 → BAt w (bl k) (.slice (va k) (ln k) (cp k)) (st k) (sp k) (sd k)) (hsb : ∀ k, k < 4 → s ≠ bl k) (hln : ∀ k, k < 4 → ln k ≤ 268435456) :
    Calls Try.prog 15 #[.pointer (some ⟨s, 0, none⟩), .string BP] w fun e w' => ∃ g c : Nat, e = .returned (.slice (some ⟨g, 0, none⟩) 4 c) ∧ w.heap.size ≤ g ∧ w.grownBy w' (some s) ∧
      ∀ k : Fin 4, w'.cell? ⟨g, k.val * 3, none⟩ = some (.string (nameOf k.val)) ∧ w'.cell? ⟨g, k.val * 3 + 1, none⟩ = some (.int .i64 (st k.val)) ∧ w'.cell? ⟨g, k.val * 3 + 2, none⟩ = some (.int .i64 (ln k.val : Int)) := by
  obtain ⟨c0, c1, c2, c3, c4, c5⟩ := hs.at_.cells
  have f0 := hs.at_.frozen 0
  have HL := hide (lock_free muLib ⟨s, 0, none⟩ w c0 f0)
  have hsne := hs.ne
  obtain ⟨w1, hw1⟩ : ∃ w1, w.setCell ⟨s, 0, none⟩ (.int .i32 1) = w1 := ⟨_, rfl⟩
  have HG1 : Hid (w.grownBy w1 (some s)) := by rw [← hw1]; exact grown_cell (World.grownBy.refl w (some s)) 0 (.int .i32 1)
  have HS1 : Hid (SAt w1 s 1 bm R B G) := by rw [← hw1]; exact hs.at_.lock 1
  have HM1 : Hid (MAt w1 bm n D) := MAt.grown hs.map HG1.out (by simpa using hsne)
  have HB1 : Hid (∀ k, k < 4 → BAt w1 (bl k) (.slice (va k) (ln k) (cp k)) (st k) (sp k) (sd k)) := fun k hk => (hb k hk).grown HG1.out (by simpa using hsb k hk)
  have HSZ : Hid (w1.heap.size = w.heap.size) := by show _ = _; rw [← hw1]; simp [World.setCell]
  have HD2 := hide hD2
  have HD1 := hide hD1
  have HLN := hide hln
  obtain ⟨st', hst'⟩ : ∃ st' : Fin 4 → Int, ∀ k : Fin 4, st' k = st k.val := ⟨fun k => st k.val, fun _ => rfl⟩
  obtain ⟨sz', hsz'⟩ : ∃ sz' : Fin 4 → Int, ∀ k : Fin 4, sz' k = (ln k.val : Int) := ⟨fun k => (ln k.val : Int), fun _ => rfl⟩
  have HST := hide hst'
  have HSZ' := hide hsz'
  rw [hw1] at HL
  obtain ⟨d0, d1, d2, d3, d4, d5⟩ := HS1.out.cells
  clear hs hD1 hD2 hb hln hst' hsz' hw1 c0 c1 c2 c3 c4 c5 f0 hsb
  go_enter_defers Try.func15, Try.ntmps15
  go_wp2_with (first
    | (go_at_call 17; refine HL.out.mono ?_; rintro e w2 ⟨rfl, rfl⟩)
    | (at_range; refine wpList_range_own _ rfl _ 47 rfl 9 59 keyed Try.underlying47 PR bm n D rfl HM1.out ?_; intro w3 hrg3 hg3 hs3; have HRG3 := hide hrg3; have HG3 := hide hg3; have HS3 := hide hs3; clear hrg3 hg3 hs3))
  go_frame
  obtain ⟨r, hr⟩ : ∃ r, w2.heap.size = r := ⟨_, rfl⟩
  rw [hr] at HRG3 HS3 ⊢
  have HR := hide hr
  clear hr HL
  go_loopw [5] (fun sv wr => ∃ (v : Value) (left : Lit → Bool) (cnt : Nat) (ds : List (Fin 4)), v = sv ∧ Hid (LRel w2 bm n r D st' sz' v wr left cnt ds)) (fun _ wr => wr.rangeLeft bm r)
  case atStart => exact ⟨_, _, _, [], rfl, ⟨HRG3.out, Col.start (fun k => Maps.has_true_of_atKey (HD1.out k.val k.isLt)), ⟨rfl, .inl ⟨rfl, rfl⟩⟩, HG3.out, by rw [HS3.out]; exact Nat.le_refl _, by simpa using hD3⟩⟩
  case round =>
    clear HRG3 HG3 HS3
    obtain ⟨v, left, cnt, ds, rfl, H⟩ := hrel
    go_wp2_with (first
      | (at_next; refine wpList_next_ranges _ rfl _ rfl 9 keyed PR Go.Proofs.encStr Value.pointer (fun key kl hk => by obtain ⟨x, hx, _⟩ := Maps.keyOf_str Try.underlying9 hk; exact ⟨x, hx⟩) pr_shape bm r n D left cnt rfl H.out.rg ?_ ?_))
    · intro h0 hl0
      have HPM : Hid (ds.Perm four4.toList) := H.out.col.done hl0
      have hlen : ds.length = 4 := HPM.out.length_eq
      obtain ⟨g, c, rfl⟩ : ∃ g c, v = .slice (some ⟨g, 0, none⟩) 4 c := by
        rcases H.out.row.2 with ⟨_, h2⟩ | ⟨g, c, cur, h1, _⟩
        · omega
        · exact ⟨g, c, by rw [h1, hlen]⟩
      have HRW : Hid (wr.ownsRow (r + 1) 45 3 (.slice (some ⟨g, 0, none⟩) 4 c) 4 (flatI st' sz' ds)) := by have := H.out.row; rw [hlen] at this; exact this
      have HHK := hide (holds_of_row HRW.out hlen)
      have HSO := hide (sort_any st' sz' g 0 c ds.toArray wr HHK.out.1 HHK.out.2.1 (by simpa using HPM.out))
      have HGR := hide H.out.gr
      have HLN4 := hide hlen
      clear h0 hl0 H hlen
      go_wp2_with (go_at_call 31; refine HSO.out.mono ?_; rintro e w5 ⟨rfl, n5, os5, hw5⟩; have HSL := hide (sort_left HHK.out.1 HHK.out.2.1 (by simpa using HLN4.out) hw5); have HG5 : Hid (w2.grownBy w5 none) := HGR.out.andThen HSL.out.1 (fun j e => .inl (by have := Option.some.inj e; have := HHK.out.2.2; have := HR.out; omega)); have HS5 : Hid (SAt w5 s 1 bm R B G) := HS1.out.grown HG5.out (by simp); have g0 := HS5.out.cells.1; have gf := HS5.out.frozen 0; clear hw5)
      refine leaves_cons (f := 18) (args := #[.pointer (some ⟨s, 0, none⟩)]) (by simp) (by simp [go_sem]) ?_
      refine (unlock_deferred muLib ⟨s, 0, none⟩ .returning _ g0 gf).mono ?_
      rintro e u' w'' ⟨rfl, rfl, rfl⟩
      refine ⟨_, results_tmp Try.results15 _ _ _, ?_⟩
      have hsl : s < w2.heap.size := HS1.out.lt
      have hgs : g ≠ s := by have := HHK.out.2.2; have := HR.out; omega
      have hG9 : w5.grownBy (w5.setCell ⟨s, 0, none⟩ (.int .i32 0)) (some s) := grown_cell (World.grownBy.refl _ _) _ _
      have hgl : g < w5.heap.size := Nat.lt_of_lt_of_le HHK.out.2.1 HSL.out.1.size
      have hcl : ∀ o, (w5.setCell ⟨s, 0, none⟩ (.int .i32 0)).cell? ⟨g, o, none⟩ = w5.cell? ⟨g, o, none⟩ := fun o => World.cell?_of_block (hG9.block g hgl (by simpa using hgs))
      refine ⟨g, c, rfl, by have := HHK.out.2.2; have := HR.out; have := HSZ.out; omega, (HG1.out.andThen HG5.out (fun j e => by cases e)).andThen hG9 (fun j e => .inr e), fun k => ?_⟩
      obtain ⟨x0, x1, x2⟩ := HSL.out.2 k
      rw [hcl, hcl, hcl, x0, x1, x2, HST.out k, HSZ'.out k]
      exact ⟨rfl, rfl, rfl⟩
    · intro x c kl yd yp w4 cnt4 hkey hlk hv hat hrg4 hlt hg4 hs4 hen
      obtain ⟨x', ex, rfl, _⟩ := Maps.keyOf_str Try.underlying9 hkey
      obtain rfl : x = x' := encStr_inj ex
      obtain ⟨k, hk⟩ := HD2.out _ (H.out.col.le _ hlk)
      have hyd : yd = .lit (.int .i64 (bl k.val : Int)) := by rw [← hat .nil, hk]; exact HD1.out k.val k.isLt .nil
      subst hyd
      have hcv := pr_back hv
      have hxn : Go.Proofs.encStr x = .string (nameOf k.val) := by
        have : x = (nameOf k.val).data.toList := by unfold key at hk; injection hk
        rw [this]
        first | done | rfl
      rw [hxn, hcv] at hen ⊢
      have HC4 := hide (H.out.col.step k (by rw [← hk]; exact hlk))
      have HRG4 : Hid (w4.ranges Try.prog 9 PR bm r n D (fun z => left z && !z.sameKey (key (nameOf k.val))) cnt4) := by rw [← hk]; exact hrg4
      have HRW4 : Hid (w4.ownsRow (r + 1) 45 3 v ds.length (flatI st' sz' ds)) := World.ownsRow.kept (row := some r) H.out.row hg4 (by
        cases hv : v.ownBlock with
        | none => exact .inl rfl
        | some q => exact .inr (fun e => by have := (World.ownsRow.lt H.out.row q hv).1; have := Option.some.inj e; omega))
      have HG4 : Hid (w2.grownBy w4 none) := H.out.gr.andThen hg4 (fun j e => .inl (by have := Option.some.inj e; have := HR.out; omega))
      have HLE4 : Hid (ds.length + 1 + cnt4 ≤ 4) := by have := H.out.len; show _ ≤ _; omega
      have HZ4 : Hid (r + 1 ≤ w4.heap.size) := by have := H.out.sz; have := hs4; show _ ≤ _; omega
      have HPRE := hide (hasPrefix_any k.val k.isLt w4)
      have HMS := hide (show w4.rangeLeft bm r < wr.rangeLeft bm r by rw [HRG4.out.left_eq, H.out.rg.left_eq]; exact hlt)
      have HBK := hide ((HB1.out k.val k.isLt).grown HG4.out (by simp))
      have HBLT : Hid (bl k.val < r) := by have := (HB1.out k.val k.isLt).lt; have := HR.out; show _ < _; omega
      have HL1 := hide (HLN.out k.val k.isLt)
      obtain ⟨q0, q1, q2, q3⟩ := HBK.out.cells
      have HE1 := hide (HST.out k)
      have HE2 := hide (HSZ'.out k)
      generalize hnm : nameOf k.val = nm at HPRE hen
      have HNM := hide hnm
      generalize bl k.val = bb at *
      generalize va k.val = aa at *
      generalize ln k.val = L at *
      generalize cp k.val = cc at *
      generalize st k.val = S1 at *
      have hL1 := HL1.out
      have HOA : Hid ((w4.drew.alloc (.cells #[.string nm, .int .i64 S1, .int .i64 (L : Int)] 45)).ownsRow (r + 1) 45 3 v ds.length (flatI st' sz' ds)) := World.ownsRow.alloc (w := w4.drew) HRW4.out _
      have HGA : Hid (w4.grownBy (w4.drew.alloc (.cells #[.string nm, .int .i64 S1, .int .i64 (L : Int)] 45)) v.ownBlock) := grown_of_below ((Below.refl w4.heap.size w4).drew.alloc (Nat.le_refl _) _)
      have HQ : Hid (w4.cell? ⟨bb, 1, none⟩ = some (.int .i64 S1) ∧ w4.cell? ⟨bb, 0, none⟩ = some (.slice aa L cc)) := ⟨q1, q0⟩
      have hz4 := HZ4.out
      have hle4 := HLE4.out
      clear hkey hlk hv hat hrg4 hlt hg4 hs4 H hcv hxn hk ex hnm q2 q3
      go_wp2_with (go_at_call 30; refine HPRE.out.mono ?_; rintro e w5 ⟨rfl, rfl⟩)
      refine only_normal ?_
      go_region_held_law (fun V => V.cell? ⟨bb, 1, none⟩ = some (.int .i64 S1) ∧ V.cell? ⟨bb, 0, none⟩ = some (.slice aa L cc)) (first | go_keep | exact E8.out)
        (first | (refine step_pushI rfl (.tmp 30) (.tmp 42) rfl 43 rfl (r + 1) v ds.length (flatI st' sz' ds) (by simp [Act.eval]) HOA.out ⟨w5.heap.size, 0, none⟩ nm S1 (L : Int) (by simp [Act.eval]) (inews w5.drew _ _ _) (by omega) (by simp; omega) ?_; intro v8 w8 hown8 hg8; have HO8 := hide hown8; have HG8 : Hid (w5.grownBy w8 v.ownBlock) := grown_trans HGA.out hg8; have HNE : Hid (some bb ≠ v.ownBlock) := (fun e => by have := (World.ownsRow.lt HRW4.out bb e.symm).1; have := HBLT.out; omega); have E8 : Hid (w8.cell? ⟨bb, 1, none⟩ = some (.int .i64 S1) ∧ w8.cell? ⟨bb, 0, none⟩ = some (.slice aa L cc)) := ⟨(HG8.out.cell HQ.out.1 HNE.out), (HG8.out.cell HQ.out.2 HNE.out)⟩; clear hown8 hg8))
      all_goals
        simp only [onlyNormal]
        go_wp2_with fail
        go_roundw
        case rel => exact ⟨_, _, _, ds ++ [k], rfl, ⟨HRG4.out.kept HG8.out (fun e => by have := (World.ownsRow.lt HRW4.out bm e.symm).1; have := HM1.out.lt; have := HR.out; omega) (fun e => by have := (World.ownsRow.lt HRW4.out r e.symm).1; omega), HC4.out, by have h := HO8.out; rw [← HE2.out, ← HE1.out, ← HNM.out, flatI_push] at h; rw [List.length_append]; exact h, HG4.out.andThen HG8.out (fun j e => .inl (by have := (World.ownsRow.lt HRW4.out j e).1; have := HR.out; omega)), Nat.le_trans hz4 HG8.out.size, by rw [List.length_append]; exact hle4⟩⟩
        case measure => rw [(HRG4.out.kept HG8.out (fun e => by have := (World.ownsRow.lt HRW4.out bm e.symm).1; have := HM1.out.lt; have := HR.out; omega) (fun e => by have := (World.ownsRow.lt HRW4.out r e.symm).1; omega)).left_eq, ← HRG4.out.left_eq]; exact HMS.out
end Go.Proofs.Ytdcjhjpbkpiddaa.St
