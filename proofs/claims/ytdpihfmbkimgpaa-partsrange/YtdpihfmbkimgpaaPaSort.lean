/-
  slices.SortFunc of texts by nums.Compare.
-/
import Derived.Test.YtdpihfmbkimgpaaPaSort0
import Derived.Test.YtdpihfmbkimgpaaPaCmp
import Derived.OwnWalk
namespace Go.Proofs.Ytdpihfmbkimgpaa.Pa
open Go.ChangeShapes Go.WideShapes Go.ChangeAt Go.RowKit
open Go.Proofs.Ytdpihfmbkimgpaa.Base
open Go.Shelf Go.Sort
set_option linter.unusedVariables false
/-- The texts in their order. -/
def srt (ss : List ByteArray) : List ByteArray := ss.mergeSort fun x y => decide (cmpT x y ≤ 0)
theorem srt_perm (ss : List ByteArray) : (srt ss).Perm ss := List.mergeSort_perm _ _
theorem srt_len (ss : List ByteArray) : (srt ss).length = ss.length := (srt_perm ss).length_eq
theorem srt_sorted (ss : List ByteArray) : (srt ss).Pairwise fun x y => cmpT x y ≤ 0 := by
  have h := List.pairwise_mergeSort (le := fun x y => decide (cmpT x y ≤ 0)) (fun a b c h1 h2 => decide_eq_true (cmpT_trans (of_decide_eq_true h1) (of_decide_eq_true h2)))
    (fun a b => by
      have := cmpT_swap a b
      by_cases h : cmpT a b ≤ 0
      · simp [h]
      · have h2 : cmpT b a ≤ 0 := by omega
        simp [h2]) ss
  exact h.imp fun h => of_decide_eq_true h
theorem grown_grow (w : World) (os : Array Obj) : w.grownBy (grow w os) none := ⟨rfl, rfl, rfl, by simp, fun k hk _ => heap_grow_old w os hk⟩
theorem setCells_cells {t : TypeId} {b : Nat} : ∀ (vs cs : List Value) (o : Nat) (w : World), w.heap[b]? = some (.cells cs.toArray t) → o + vs.length ≤ cs.length → (w.setCells b o vs).heap[b]? = some (.cells (cs.take o ++ vs ++ cs.drop (o + vs.length)).toArray t)
  | [], cs, o, w, h, _ => by simpa [World.setCells] using h
  | v :: vs, cs, o, w, h, hl => by
    rw [List.length_cons] at hl
    have h1 := setCells_cells (t := t) vs (cs.set o v) (o + 1) (w.setCell ⟨b, o, none⟩ v) (by rw [heap_setCell_same _ _ _ _ _ _ h, List.setIfInBounds_toArray]) (by rw [List.length_set]; omega)
    have e : (cs.set o v).take (o + 1) ++ vs ++ (cs.set o v).drop (o + 1 + vs.length) = cs.take o ++ (v :: vs) ++ cs.drop (o + (v :: vs).length) := by
      rw [List.drop_set, if_pos (by omega), List.take_set, List.take_succ_eq_append_getElem (by omega), List.set_append_right _ _ (by rw [List.length_take]; omega), List.length_take, Nat.min_eq_left (by omega), Nat.sub_self, List.set_cons_zero, List.length_cons, show o + (vs.length + 1) = o + 1 + vs.length by omega]
      simp
    rw [e] at h1
    exact h1
theorem grown_setCells {w0 : World} {b : Nat} : ∀ (vs : List Value) (o : Nat) (w : World), w0.grownBy w (some b) → w0.grownBy (w.setCells b o vs) (some b)
  | [], _, _, h => h
  | v :: vs, o, w, h => grown_setCells vs (o + 1) (w.setCell ⟨b, o, none⟩ v) (grown_cell h o v)
section gen
variable {α : Type} [Inhabited α]
theorem own_holdsS {w : World} {base g n cap : Nat} (f : α → ByteArray) (xs : List α) (h : OwnS w base (.slice (some ⟨g, 0, none⟩) n cap) (xs.map f)) : Holds (fun x => .string (f x)) w g 0 xs.toArray := by
  intro j hj
  have hj' : j < xs.length := by simpa using hj
  have hn := h.len
  rw [List.length_map] at hn
  refine ⟨?_, by rw [Nat.zero_add]; exact h.frozen j⟩
  rw [Nat.zero_add, h.cell j (by omega), List.getD_eq_getElem?_getD, List.getElem?_map, List.getElem?_eq_getElem hj', getElem!_pos _ j hj]
  simp
theorem sort_leavesS {w : World} {base g n cap q : Nat} {os : Array Obj} (f : α → ByteArray) (xs ys : List α) (hy : ys.length = xs.length) (h : OwnS w base (.slice (some ⟨g, 0, none⟩) n cap) (xs.map f)) (hH : Holds (fun x => .string (f x)) w g 0 xs.toArray) :
    OwnS (sortWorld (fun x => .string (f x)) w g 0 q ys.toArray os) base (.slice (some ⟨g, 0, none⟩) n cap) (ys.map f) ∧ w.grownBy (sortWorld (fun x => .string (f x)) w g 0 q ys.toArray os) (some g) := by
  have e0 : sortWorld (fun x => .string (f x)) w g 0 q ys.toArray os = grow ((w.drewN q).setCells g 0 (svals (ys.map f))) os := by
    unfold sortWorld
    rw [Lib.sorted_world (fun x => .string (f x)) w g 0 q _ ys os hH (by simpa using hy)]
    have : ys.map (fun x => Value.string (f x)) = svals (ys.map f) := by
      simp only [svals, List.map_map]; rfl
    rw [this]
  have hlen : (ys.map f).length = (xs.map f).length := by simp [hy]
  rw [e0]
  have hg1 : w.grownBy ((w.drewN q).setCells g 0 (svals (ys.map f))) (some g) := grown_setCells _ 0 _ ⟨rfl, rfl, rfl, Nat.le_refl _, fun _ _ _ => rfl⟩
  have hg2 := grown_grow ((w.drewN q).setCells g 0 (svals (ys.map f))) os
  refine ⟨?_, ⟨hg2.os.trans hg1.os, hg2.tape.trans hg1.tape, hg2.output.trans hg1.output, Nat.le_trans hg1.size hg2.size, fun i hi hne => (hg2.block i (Nat.lt_of_lt_of_le hi hg1.size) (by simp)).trans (hg1.block i hi hne)⟩⟩
  rcases h.2 with ⟨h1, h2⟩ | ⟨g', cap', cur, h1, h2, h3, h4, h5, h6, h7⟩
  · cases h1
  · simp only [Value.slice.injEq, Option.some.injEq, Addr.mk.injEq, and_true] at h1
    obtain ⟨rfl, hn, rfl⟩ := h1
    have hgl : g < w.heap.size := (Array.getElem?_eq_some_iff.1 h3).1
    have hcl : cur.toList.length = cap := by rw [Array.length_toList, h6, Nat.mul_one]
    have hcell : ((w.drewN q).setCells g 0 (svals (ys.map f))).heap[g]? = some (.cells (cur.toList.take 0 ++ svals (ys.map f) ++ cur.toList.drop (0 + (svals (ys.map f)).length)).toArray 9) := by
      refine setCells_cells _ cur.toList 0 (w.drewN q) ?_ ?_
      · show w.heap[g]? = _
        rw [h3]
      · rw [svals_len, hlen, hcl]; omega
    rw [List.take_zero, List.nil_append, Nat.zero_add, svals_len, hlen] at hcell
    refine ⟨by rw [svals_len, Nat.mul_one], .inr ⟨g, cap, _, by rw [hlen, ← hn], h2, (hg2.block g (Nat.lt_of_lt_of_le hgl hg1.size) (by simp)).trans hcell, by rw [hlen]; exact h4, h5, ?_, ?_⟩⟩
    · rw [List.size_toArray, List.length_append, svals_len, hlen, List.length_drop, hcl]; omega
    · rw [List.toList_toArray, hlen, Nat.mul_one, ← hlen, ← svals_len, List.take_left]
end gen
/-- A key that a sample may have. -/
structure Ky where
  val : ByteArray
  property : val.size ≤ 1024
theorem Ky.eq {x y : Ky} (h : x.val = y.val) : x = y := by
  cases x; cases y; cases h; rfl
def cfK (x y : Ky) : Int := cmpT x.val y.val
theorem swoK : SWO (ltOf cfK) where
  irrefl x := by unfold ltOf cfK; rw [cmpT_eq.2 rfl]; rfl
  trans x y z h1 h2 := by
    have e1 : cmpT x.val y.val < 0 := of_decide_eq_true h1
    have e2 : cmpT y.val z.val < 0 := of_decide_eq_true h2
    exact decide_eq_true ((Nums.order_trans _ _ _).2.1 e1 (by have : cmpT y.val z.val ≤ 0 := by omega
                                                              exact this))
  ntrans x y z h1 h2 := by
    have e1 : ¬ cmpT x.val y.val < 0 := of_decide_eq_false h1
    have e2 : ¬ cmpT y.val z.val < 0 := of_decide_eq_false h2
    refine decide_eq_false ?_
    have s1 := cmpT_swap x.val y.val
    have s2 := cmpT_swap y.val z.val
    have s3 := cmpT_swap x.val z.val
    have := cmpT_trans (a := z.val) (b := y.val) (c := x.val) (by omega) (by omega)
    show ¬ cmpT x.val z.val < 0
    omega
theorem totK (x y : Ky) (h1 : ltOf cfK x y = false) (h2 : ltOf cfK y x = false) : x = y := by
  have e1 : ¬ cmpT x.val y.val < 0 := of_decide_eq_false h1
  have e2 : ¬ cmpT y.val x.val < 0 := of_decide_eq_false h2
  have s1 := cmpT_swap x.val y.val
  exact Ky.eq (cmpT_eq.1 (by omega))
theorem keys_of (ss : List ByteArray) (h : ∀ s ∈ ss, s.size ≤ 1024) : ∃ xs : List Ky, xs.map Ky.val = ss := by
  induction ss with
  | nil => exact ⟨[], rfl⟩
  | cons s r ih =>
    obtain ⟨xs, hx⟩ := ih (fun t ht => h t (List.mem_cons_of_mem _ ht))
    exact ⟨⟨s, h s List.mem_cons_self⟩ :: xs, by rw [List.map_cons, hx]⟩
theorem sortFunc_any (g n cap base : Nat) (ss : List ByteArray) (w : World) (ho : OwnS w base (.slice (some ⟨g, 0, none⟩) n cap) ss) (hs : ∀ s ∈ ss, s.size ≤ 1024) (hn : n ≤ 65536) :
    Calls Try.prog 31 #[.slice (some ⟨g, 0, none⟩) n cap, .func (.func 17) #[] #[]] w fun e w' => e = .returned (.tuple #[]) ∧ OwnS w' base (.slice (some ⟨g, 0, none⟩) n cap) (srt ss) ∧ w.grownBy w' (some g) := by
  have hinh : Inhabited Ky := ⟨⟨⟨#[]⟩, by decide⟩⟩
  obtain ⟨xs, rfl⟩ := keys_of ss hs
  have hl := ho.len
  rw [List.length_map] at hl
  have hH := own_holdsS (f := fun x : Ky => x.val) xs ho
  have eg : ∀ args w, (callFunc 17 args).run Try.prog w = .ok (.enter 17 args) w := enters_of Try.func17 (by kernel_rfl) rfl
  have hc : CmpReads Try.prog 17 #[] (fun x : Ky => Value.string x.val) cfK g 0 xs.toArray.size w := by
    intro m os dk _ x y
    exact compareD x.val y.val _ (by have := x.property; omega) (by have := y.property; omega)
  have hS := Any.slices_SortFunc_total sortLays (fun x : Ky => Value.string x.val) (fun _ => rfl) cfK swoK 17 #[] g 0 cap xs.toArray w eg hc.lays hH ho.lt'.2 (by simp; omega) totK
  have esz : xs.toArray.size = n := by simp [hl]
  rw [esz] at hS
  refine hS.mono ?_
  rintro e w' ⟨rfl, q, os, rfl⟩
  have e1 : (xs.mergeSort fun x y => !(ltOf cfK) y x).map (fun x : Ky => x.val) = srt (xs.map Ky.val) := by
    unfold srt
    refine List.map_mergeSort ?_
    intro a _ b _
    show (!decide (cmpT b.val a.val < 0)) = decide (cmpT a.val b.val ≤ 0)
    have := cmpT_swap a.val b.val
    by_cases h : cmpT a.val b.val ≤ 0
    · rw [decide_eq_true h, decide_eq_false (by omega)]; rfl
    · rw [decide_eq_false h, decide_eq_true (by omega)]; rfl
  have h2 := sort_leavesS (q := q) (os := os) (fun x : Ky => x.val) xs (xs.mergeSort fun x y => !(ltOf cfK) y x) (by rw [List.length_mergeSort]) ho hH
  rw [e1] at h2
  exact ⟨rfl, h2.1, h2.2⟩
end Go.Proofs.Ytdpihfmbkimgpaa.Pa
