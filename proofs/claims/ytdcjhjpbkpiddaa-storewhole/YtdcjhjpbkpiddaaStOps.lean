/-
  The store's calls: making it, making a blob, writing, publishing.
-/
import Derived.Test.YtdcjhjpbkpiddaaStBlob
import Derived.Deep.RegionHeld
namespace Go.Proofs.Ytdcjhjpbkpiddaa.St
open Go.ChangeShapes Go.WideShapes Go.ChangeAt Go.RowKit Go.MuLone
open Go.Proofs.Ytdcjhjpbkpiddaa.Base
set_option linter.unusedVariables false
set_option maxHeartbeats 1000000
theorem kept2_grown {w w' : World} {p q r : Option Nat} (h : w.grownBy w' r) (hr : r = p ∨ r = q ∨ r = none) : Kept2 w w' p q :=
  ⟨h.os, h.tape, h.output, h.size, fun i hi hp hq => h.block i hi (fun e => by
    rcases hr with e2 | e2 | e2
    · exact hp (e.trans e2)
    · exact hq (e.trans e2)
    · rw [e2] at e; cases e)⟩
theorem kept2_trans {w w1 w2 : World} {p q : Option Nat} (h : Kept2 w w1 p q) (k : Kept2 w1 w2 p q) : Kept2 w w2 p q :=
  ⟨k.os.trans h.os, k.tape.trans h.tape, k.output.trans h.output, Nat.le_trans h.size k.size, fun i hi hp hq => (k.block i (Nat.lt_of_lt_of_le hi h.size) hp hq).trans (h.block i hi hp hq)⟩
theorem kept2_cell (w : World) (g k : Nat) (v : Value) (q : Option Nat) : Kept2 w (w.setCell ⟨g, k, none⟩ v) (some g) q := kept2_grown (r := some g) (grown_cell (World.grownBy.refl _ _) _ _) (.inl rfl)
theorem kept2_below {w w' : World} (h : Below w.heap.size w w') (p q : Option Nat) : Kept2 w w' p q := kept2_grown (r := none) (below_grown h) (.inr (.inr rfl))
theorem SAt.kept {w w' : World} {s bm : Nat} {lk R B G : Int} {p q : Option Nat} (h : SAt w s lk bm R B G) (k : Kept2 w w' p q) (hp : p ≠ some s) (hq : q ≠ some s) : SAt w' s lk bm R B G := by
  unfold SAt; rw [k.block s h.lt (fun e => hp e.symm) (fun e => hq e.symm)]; exact h
theorem BAt.kept {w w' : World} {b : Nat} {v : Value} {st sp : Int} {sd : Bool} {p q : Option Nat} (h : BAt w b v st sp sd) (k : Kept2 w w' p q) (hp : p ≠ some b) (hq : q ≠ some b) : BAt w' b v st sp sd := by
  unfold BAt; rw [k.block b h.lt (fun e => hp e.symm) (fun e => hq e.symm)]; exact h
theorem MAt.lt {w : World} {bm n : Nat} {D : DataW Unit} (h : MAt w bm n D) : bm < w.heap.size := World.ownsMap.lt h
theorem MAt.kept {w w' : World} {bm n : Nat} {D : DataW Unit} {p q : Option Nat} (h : MAt w bm n D) (k : Kept2 w w' p q) (hp : p ≠ some bm) (hq : q ≠ some bm) : MAt w' bm n D := by
  have hlt := h.lt
  obtain ⟨es, clock, hb, F, hs, hD⟩ := h
  exact ⟨es, clock, (k.block bm hlt (fun e => hp e.symm) (fun e => hq e.symm)).trans hb, F, hs, hD⟩
theorem cell_kept {w w' : World} {p q : Option Nat} (k : Kept2 w w' p q) (x o : Nat) (hx : x < w.heap.size) (hp : p ≠ some x) (hq : q ≠ some x) : w'.cell? ⟨x, o, none⟩ = w.cell? ⟨x, o, none⟩ := by
  have h := k.block x hx (fun e => hp e.symm) (fun e => hq e.symm)
  simp only [World.cell?, h]
/-- Ahead of a region that draws, under a deferred call: it ends plainly, and in no other way. -/
def onlyNormal (Q : Exit → Act → World → Prop) : Exit → Act → World → Prop
  | .normal, a, w => Q .normal a w
  | _, _, _ => False
theorem only_normal {P : Program} {c : Code} {Q : Exit → Act → World → Prop} {a : Act} {w : World} (h : c.wp P (onlyNormal Q) a w) : c.wp P Q a w :=
  Code.wp_mono (fun e a w q => by cases e <;> first | exact q | exact q.elim) h
/-- A store: free, its map, its meter. -/
structure Store (w : World) (s bm n : Nat) (D : DataW Unit) (R B G : Int) : Prop where
  at_ : SAt w s 0 bm R B G
  map : MAt w bm n D
  ne : s ≠ bm
theorem new_any (w : World) : Calls Try.prog 4 #[] w fun e w' => ∃ s bm, e = .returned (.pointer (some ⟨s, 0, none⟩)) ∧ Store w' s bm 0 (.map []) 0 0 0 ∧ w.heap.size ≤ s ∧ w.heap.size ≤ bm ∧ Below w.heap.size w w' := by
  have hmk : ∀ W : World, (Instr.makeMap 47 none).run Try.prog W = .ok (.map (some W.heap.size)) (W.alloc (.map #[] 0)) := fun W => rfl
  have HB : Hid (Below w.heap.size w ((w.alloc (.map #[] 0)).alloc (.cells #[.int .i32 0, .int .u32 0, .map (some w.heap.size), .int .i64 0, .int .i64 0, .int .i64 0] 58))) := ((Below.refl w.heap.size w).alloc (Nat.le_refl _) _).alloc (by simp) _
  have HS : Hid (SAt ((w.alloc (.map #[] 0)).alloc (.cells #[.int .i32 0, .int .u32 0, .map (some w.heap.size), .int .i64 0, .int .i64 0, .int .i64 0] 58)) (w.heap.size + 1) 0 w.heap.size 0 0 0) := by
    have h := heap_alloc_new (w.alloc (.map #[] 0)) (.cells #[.int .i32 0, .int .u32 0, .map (some w.heap.size), .int .i64 0, .int .i64 0, .int .i64 0] 58)
    rw [show (w.alloc (.map #[] 0)).heap.size = w.heap.size + 1 by simp] at h
    exact h
  have HM : Hid (MAt ((w.alloc (.map #[] 0)).alloc (.cells #[.int .i32 0, .int .u32 0, .map (some w.heap.size), .int .i64 0, .int .i64 0, .int .i64 0] 58)) w.heap.size 0 (.map [])) := World.ownsMap.alloc (World.ownsMap_made w Try.prog 9 PR) _
  go_enter Try.func4, Try.ntmps4
  go_wp2_with fail
  go_ret
  exact ⟨w.heap.size + 1, w.heap.size, rfl, ⟨HS.out, HM.out, by omega⟩, by omega, Nat.le_refl _, HB.out⟩
theorem newBlob_any (w : World) : Calls Try.prog 19 #[] w fun e w' => e = .returned (.pointer (some ⟨w.heap.size, 0, none⟩)) ∧ BAt w' w.heap.size (.slice none 0 0) 1 (-1) false ∧ Below w.heap.size w w' := by
  have HB : Hid (BAt (w.alloc (.cells #[.slice none 0 0, .int .i64 1, .int .i64 (-1), .bool false] 71)) w.heap.size (.slice none 0 0) 1 (-1) false) := heap_alloc_new _ _
  go_enter Try.func19, Try.ntmps19
  go_wp2_with fail
  go_ret
  exact ⟨rfl, HB.out, (Below.refl _ _).alloc (Nat.le_refl _) _⟩
set_option maxRecDepth 100000 in
/-- A new blob. -/
theorem create_any (s bm n : Nat) (D : DataW Unit) (R B G : Int) (nm : ByteArray) (w : World) (hs : Store w s bm n D R B G) (hn : okName nm = true) (hsz : nm.size ≤ 140737488351232) (hd : D.atKey (key nm) .nil = .nil) (hnn : n < 1000000) :
    Calls Try.prog 5 #[.pointer (some ⟨s, 0, none⟩), .string nm] w fun e w' => ∃ b : Nat, e = .returned (.int .i64 0) ∧ Store w' s bm (n + 1) (D.put (key nm) (.lit (.int .i64 (b : Int)))) R B G ∧ BAt w' b (.slice none 0 0) 1 (-1) false ∧ w.heap.size ≤ b ∧ Kept2 w w' (some s) (some bm) := by
  obtain ⟨c0, c1, c2, c3, c4, c5⟩ := hs.at_.cells
  have f0 := hs.at_.frozen 0
  have HL := hide (lock_free muLib ⟨s, 0, none⟩ w c0 f0)
  have HREF := hide (refuse_any s nm w hsz hn)
  have hsne := hs.ne
  obtain ⟨w1, hw1⟩ : ∃ w1, w.setCell ⟨s, 0, none⟩ (.int .i32 1) = w1 := ⟨_, rfl⟩
  have HS1 : Hid (SAt w1 s 1 bm R B G) := by rw [← hw1]; exact hs.at_.lock 1
  have HM1 : Hid (MAt w1 bm n D) := by rw [← hw1]; exact MAt.grown hs.map (grown_cell (World.grownBy.refl w (some s)) 0 (.int .i32 1)) (by simpa using hsne)
  have HK1 : Hid (Kept2 w w1 (some s) (some bm)) := by rw [← hw1]; exact kept2_cell _ _ _ _ _
  have hlook := MAt.look_none HM1.out (by unfold maxLen; omega) hd
  rw [hw1] at HL
  obtain ⟨d0, d1, d2, d3, d4, d5⟩ := HS1.out.cells
  have HSL : Hid (s < w1.heap.size) := HS1.out.lt
  have HSZ : Hid (w1.heap.size = w.heap.size) := by show _ = _; rw [← hw1]; simp [World.setCell]
  clear hs hd hw1 c0 c1 c2 c3 c4 c5 f0
  go_enter_defers Try.func5, Try.ntmps5
  go_wp2_with (first
    | (go_at_call 16; refine HREF.out.mono ?_; rintro e w0 ⟨rfl, rfl⟩)
    | (go_at_call 17; refine HL.out.mono ?_; rintro e w2 ⟨rfl, rfl⟩))
  refine only_normal ?_
  go_region_held (fun V => V.cell? ⟨s, 2, none⟩ = some (.map (some bm))) (go_keep) (first
    | (go_at_call 20; refine (clone_any nm _ (by omega)).mono ?_; rintro e w6 ⟨rfl, hbx⟩; have hbb := below_trans ((Below.refl w2.heap.size w2).drew) hbx; have HB6 := hide hbb; have u6 : w6.cell? ⟨s, 2, none⟩ = some (.map (some bm)) := (hbb.cell (p := ⟨s, 2, none⟩) HSL.out).trans d2; clear hbx hbb)
    | (go_at_call 19; refine (newBlob_any _).mono ?_; rintro e w7 ⟨rfl, hb7, hbx⟩; obtain ⟨w8, hrun8, hm8, hg8⟩ := World.ownsMap.update (key := .string nm) (val := .pointer (some ⟨w6.heap.size, 0, none⟩)) (MAt.grown HM1.out (below_grown (below_trans HB6.out hbx)) (by simp)) keyed Try.underlying47 (by unfold maxLen; omega) (keyOf_name nm (by unfold maxLen; omega)) (pr_at w6.heap.size); have HB7 := hide (below_trans HB6.out hbx); have u7 : w7.cell? ⟨s, 2, none⟩ = some (.map (some bm)) := (HB7.out.cell (p := ⟨s, 2, none⟩) HSL.out).trans d2; have u8 : w8.cell? ⟨s, 2, none⟩ = some (.map (some bm)) := hg8.cell u7 (by simpa using hsne); have HBL := hide hb7; have HM8 := hide hm8; have HG8 := hide hg8; have HBL6 : Hid (w6.heap.size < w7.heap.size) := hb7.lt; clear hbx hb7 hm8 hg8))
  simp only [onlyNormal]
  have HS8 : Hid (SAt w8 s 1 bm R B G) := (HS1.out.grown (below_grown HB7.out) (by simp)).grown HG8.out (by simpa using fun e => hsne e.symm)
  have g0 := HS8.out.cells.1
  have gf := HS8.out.frozen 0
  have HBB : Hid (BAt w8 w6.heap.size (.slice none 0 0) 1 (-1) false) := HBL.out.grown HG8.out (fun e => by have h1 := Option.some.inj e; have h2 := HM1.out.lt; have h3 := HB6.out.size; omega)
  have HK8 : Hid (Kept2 w0 w8 (some s) (some bm)) := kept2_trans (kept2_trans HK1.out (kept2_below HB7.out _ _)) (kept2_grown HG8.out (.inr (.inl rfl)))
  have HSB : Hid (w0.heap.size ≤ w6.heap.size) := by have h1 := HB6.out.size; have h2 := HSZ.out; show _ ≤ _; omega
  clear d0 d1 d2 d3 d4 d5 u6 u7 u8 hlook hrun8
  go_wp2_with fail
  refine leaves_cons (f := 18) (args := #[.pointer (some ⟨s, 0, none⟩)]) (by simp) (by simp [go_sem]) ?_
  refine (unlock_deferred muLib ⟨s, 0, none⟩ .returning _ g0 gf).mono ?_
  rintro e u' w'' ⟨rfl, rfl, rfl⟩
  refine ⟨_, results_tmp Try.results5 _ _ _, ?_⟩
  have hG9 : w8.grownBy (w8.setCell ⟨s, 0, none⟩ (.int .i32 0)) (some s) := grown_cell (World.grownBy.refl _ _) _ _
  refine ⟨w6.heap.size, rfl, ⟨HS8.out.lock 0, MAt.grown HM8.out hG9 (by simpa using hsne), hsne⟩, HBB.out.grown hG9 (fun e => by have h1 := Option.some.inj e; have h2 := HSL.out; have h3 := HB6.out.size; omega), HSB.out, kept2_trans HK8.out (kept2_cell _ _ _ _ _)⟩
theorem rd_grown {w w' : World} {a : Option Addr} {len : Nat} {bs : List (BitVec 8)} {r : Option Nat} (h : Rd w a len bs) (g : w.grownBy w' r) (hr : 0 < len → ∀ ad, a = some ad → r ≠ some ad.block) : Rd w' a len bs := by
  obtain ⟨h1, h2, h3⟩ := h
  refine ⟨h1, h2, fun hp => ?_⟩
  obtain ⟨b, off, rfl, hlt, hc⟩ := h3 hp
  refine ⟨b, off, rfl, Nat.lt_of_lt_of_le hlt g.size, fun i hi => ?_⟩
  exact g.cell (hc i hi) (fun e => hr hp _ rfl e.symm)
theorem app1_any (b x : Nat) (ma : Option Addr) (ml mc : Nat) (bs : List (BitVec 8)) (w : World) (h : BAt w b (.slice none 0 0) 1 (-1) false) (hx : w.cell? ⟨x, 0, none⟩ = some (.slice ma ml mc)) (hr : Rd w ma ml bs) (hnil : ma = none → ml = 0 ∧ mc = 0) (hl : ml ≤ 268435456) :
    Calls Try.prog 24 #[.pointer (some ⟨b, 0, none⟩), .pointer (some ⟨x, 0, none⟩)] w fun e w' => ∃ v, e = .returned (.int .i64 0) ∧ BAt w' b v 1 (-1) false ∧ Own w' w.heap.size v bs ∧ w.grownBy w' (some b) := by
  have HW := hide (write_new b ma ml mc bs w h hr hnil hl)
  go_enter Try.func24, Try.ntmps24
  go_wp2_with (go_at_call 25; refine HW.out.mono ?_; rintro e w' ⟨v, rfl, hb, ho, hg⟩)
  go_ret
  exact ⟨v, rfl, hb, ho, hg⟩
set_option maxRecDepth 100000 in
theorem append_any (s bm n b : Nat) (D : DataW Unit) (R B G : Int) (nm : ByteArray) (ma : Option Addr) (ml mc : Nat) (bs : List (BitVec 8)) (w : World) (hs : Store w s bm n D R B G) (hn : okName nm = true) (hsz : nm.size ≤ 140737488351232) (hd : D.atKey (key nm) .nil = .lit (.int .i64 (b : Int)))
    (hb : BAt w b (.slice none 0 0) 1 (-1) false) (hsb : s ≠ b) (hmb : bm ≠ b) (hr : Rd w ma ml bs) (hrs : 0 < ml → ∀ ad, ma = some ad → ad.block ≠ s) (hnil : ma = none → ml = 0 ∧ mc = 0) (hl : ml ≤ 268435456) :
    Calls Try.prog 10 #[.pointer (some ⟨s, 0, none⟩), .string nm, .slice ma ml mc] w fun e w' => ∃ v, e = .returned (.int .i64 0) ∧ Store w' s bm n D R B G ∧ BAt w' b v 1 (-1) false ∧ Own w' w.heap.size v bs ∧ Kept2 w w' (some s) (some b) := by
  obtain ⟨w1, hw1⟩ : ∃ w1, w.alloc (.cells #[.slice ma ml mc] 25) = w1 := ⟨_, rfl⟩
  have hB1 : Below w.heap.size w w1 := by rw [← hw1]; exact (Below.refl _ _).alloc (Nat.le_refl _) _
  have hx1 : w1.cell? ⟨w.heap.size, 0, none⟩ = some (.slice ma ml mc) := by rw [← hw1, cell_of_row _ _ _ _ _ _ (heap_alloc_new _ _)]; rfl
  have hxl : w.heap.size < w1.heap.size := by rw [← hw1]; simp
  have k1 := kept2_below hB1 (some s) (some b)
  have hS1 : SAt w1 s 0 bm R B G := hs.at_.grown (below_grown hB1) (by simp)
  have hM1 : MAt w1 bm n D := hs.map.grown (below_grown hB1) (by simp)
  have hb1 : BAt w1 b (.slice none 0 0) 1 (-1) false := hb.grown (below_grown hB1) (by simp)
  have hsl := hs.at_.lt
  have hbl := hb.lt
  have k2 : Kept2 w1 (w1.setCell ⟨s, 0, none⟩ (.int .i32 1)) (some s) (some b) := kept2_cell _ _ _ _ _
  have hS2 : SAt (w1.setCell ⟨s, 0, none⟩ (.int .i32 1)) s 1 bm R B G := hS1.lock 1
  have hG2 : w1.grownBy (w1.setCell ⟨s, 0, none⟩ (.int .i32 1)) (some s) := grown_cell (World.grownBy.refl _ _) _ _
  have hb2 := hb1.grown hG2 (by simpa using hsb)
  have hx2 : (w1.setCell ⟨s, 0, none⟩ (.int .i32 1)).cell? ⟨w.heap.size, 0, none⟩ = some (.slice ma ml mc) := by rw [cell_kept k2 _ _ hxl (by simp; omega) (by simp; omega)]; exact hx1
  have hr2 : Rd (w1.setCell ⟨s, 0, none⟩ (.int .i32 1)) ma ml bs := rd_grown (hr.below hB1) hG2 (fun h ad e e2 => hrs h ad e (Option.some.inj e2).symm)
  have HC := hide (onBlob_any s bm n b 24 R B G D nm #[.pointer (some ⟨w.heap.size, 0, none⟩)] w1
    (fun e w' => ∃ v, e = .returned (.int .i64 0) ∧ Store w' s bm n D R B G ∧ BAt w' b v 1 (-1) false ∧ Own w' w.heap.size v bs ∧ Kept2 w w' (some s) (some b)) enter53 hS1 hM1 hs.ne hn hsz hd (by
      refine (app1_any b w.heap.size ma ml mc bs _ hb2 hx2 hr2 hnil hl).mono ?_
      rintro e w3 ⟨v, rfl, hb3, ho3, hg3⟩
      have k3 : Kept2 (w1.setCell ⟨s, 0, none⟩ (.int .i32 1)) w3 (some s) (some b) := kept2_grown hg3 (.inr (.inl rfl))
      have hS3 : SAt w3 s 1 bm R B G := hS2.grown hg3 (by simpa using fun e => hsb e.symm)
      have k4 : Kept2 w3 (w3.setCell ⟨s, 0, none⟩ (.int .i32 0)) (some s) (some b) := kept2_cell _ _ _ _ _
      have kk := kept2_trans (kept2_trans (kept2_trans k1 k2) k3) k4
      have hG4 : w3.grownBy (w3.setCell ⟨s, 0, none⟩ (.int .i32 0)) (some s) := grown_cell (World.grownBy.refl _ _) _ _
      have hsz2 : (w1.setCell ⟨s, 0, none⟩ (.int .i32 1)).heap.size = w1.heap.size := by simp [World.setCell]
      refine ⟨0, rfl, ⟨R, B, G, hS3⟩, v, rfl, ⟨hS3.lock 0, MAt.kept hs.map kk (by simpa using hs.ne) (by simpa using fun e => hmb e.symm), hs.ne⟩, hb3.grown hG4 (by simpa using hsb), ?_, kk⟩
      refine (keep ho3 hG4 (fun i j e e2 => ?_)).mono (by rw [hsz2]; omega)
      have h1 := (blk ho3 i e).1
      have h2 := Option.some.inj e2
      rw [hsz2] at h1
      omega))
  clear hB1 hx1 hxl k1 hS1 hM1 hb1 hsl hbl k2 hS2 hG2 hb2 hx2 hr2 hr hb hs hd
  go_enter Try.func10, Try.ntmps10
  go_wp2_with fail
  refine HC.out.mono ?_
  rintro e w' ⟨v, rfl, h1, h2, h3, h4⟩
  have HF := hide (And.intro h1 (And.intro h2 (And.intro h3 h4)))
  clear h1 h2 h3 h4
  go_wp2_with fail
  go_ret
  exact ⟨v, rfl, HF.out.1, HF.out.2.1, HF.out.2.2.1, HF.out.2.2.2⟩
end Go.Proofs.Ytdcjhjpbkpiddaa.St
