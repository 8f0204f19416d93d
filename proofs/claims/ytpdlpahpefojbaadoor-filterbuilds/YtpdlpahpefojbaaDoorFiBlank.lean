/-
  An empty filter of a kind.
-/
import Derived.Test.YtpdlpahpefojbaaDoorFiBuild
namespace Go.Proofs.YtpdlpahpefojbaaDoor.Filt
open Go.ChangeShapes Go.WideShapes Go.ChangeAt Go.RowKit
open Go.Proofs.YtpdlpahpefojbaaDoor.Base
set_option linter.unusedVariables false
theorem rowS {V : World} {q : Nat} (h : V.heap[q]? = some (.cells #[.bool false, .int .i64 1, .int .i64 8, .int .i64 1, .int .i64 4096] 65)) : V.cell? ⟨q, 1, none⟩ = some (.int .i64 1) ∧ V.cell? ⟨q, 2, none⟩ = some (.int .i64 8) ∧ V.cell? ⟨q, 3, none⟩ = some (.int .i64 1) ∧ V.cell? ⟨q, 4, none⟩ = some (.int .i64 4096) :=
  ⟨by rw [cell_of_row _ _ _ _ _ _ h]; rfl, by rw [cell_of_row _ _ _ _ _ _ h]; rfl, by rw [cell_of_row _ _ _ _ _ _ h]; rfl, by rw [cell_of_row _ _ _ _ _ _ h]; rfl⟩
theorem rowS3 {w1 : World} {q r : Nat} (h : w1.heap[q]? = some (.cells #[.bool false, .int .i64 1, .int .i64 8, .int .i64 1, .int .i64 4096] 65)) (hne : r < q) (o : Obj) (a b c : Value) :
    ((((w1.alloc o).setCell ⟨r, 0, none⟩ a).setCell ⟨r, 1, none⟩ b).setCell ⟨r, 2, none⟩ c).heap[q]? = some (.cells #[.bool false, .int .i64 1, .int .i64 8, .int .i64 1, .int .i64 4096] 65) := by
  have hl : q < w1.heap.size := (Array.getElem?_eq_some_iff.1 h).1
  have h1 : (w1.alloc o).heap[q]? = some (.cells #[.bool false, .int .i64 1, .int .i64 8, .int .i64 1, .int .i64 4096] 65) := (((Below.refl w1.heap.size w1).alloc (Nat.le_refl _) o).block q hl).trans h
  have hl1 : q < (w1.alloc o).heap.size := (Array.getElem?_eq_some_iff.1 h1).1
  exact ((grown3 (w1.alloc o) r a b c).block q hl1 (by intro e; have := Option.some.inj e; omega)).trans h1
set_option maxHeartbeats 1000000 in
set_option maxRecDepth 100000 in
theorem blank_any (room bits : Nat) (w : World) (hK : KAt w) (h1 : 1 ≤ bits) (h2 : bits ≤ 16) (h3 : room ≤ 1048576) :
    Calls Tryd.prog 35 #[.int .i64 (room : Int), .int .i64 (bits : Int)] w fun e w' => ∃ g, e = .returned (.agg #[.bool false, .int .i64 (hashesOf bits : Nat), .slice (some ⟨g, 0, none⟩) (bytesOfK room) (bytesOfK room)]) ∧ Own w' w.heap.size (.slice (some ⟨g, 0, none⟩) (bytesOfK room) (bytesOfK room)) (List.replicate (bytesOfK room) 0) ∧ Below w.heap.size w w' := by
  obtain ⟨w0, hw0⟩ : ∃ w0, w.alloc (.cells #[.bool false, .int .i64 0, .slice none 0 0] 24) = w0 := ⟨_, rfl⟩
  obtain ⟨w1, hw1⟩ : ∃ w1, w0.alloc (.cells #[.bool false, .int .i64 1, .int .i64 8, .int .i64 1, .int .i64 4096] 65) = w1 := ⟨_, rfl⟩
  have b0 : Below w.heap.size w w0 := by rw [← hw0]; exact (Below.refl _ _).alloc (Nat.le_refl _) _
  have b1 : Below w0.heap.size w0 w1 := by rw [← hw1]; exact (Below.refl _ _).alloc (Nat.le_refl _) _
  have F0 : FB w0 w.heap.size false 0 (.slice none 0 0) := by rw [← hw0]; exact FB.new _ _ _ _
  have R1 : w1.heap[w0.heap.size]? = some (.cells #[.bool false, .int .i64 1, .int .i64 8, .int .i64 1, .int .i64 4096] 65) := by rw [← hw1]; exact heap_alloc_new _ _
  obtain ⟨r, s0⟩ : ∃ g, w.heap.size = g := ⟨_, rfl⟩
  obtain ⟨q, s1⟩ : ∃ g, w0.heap.size = g := ⟨_, rfl⟩
  rw [s0] at F0
  rw [s1] at R1
  obtain ⟨g0, g1, g2, g3, g4⟩ := rowcells (kat_below hK b0)
  have q1 : w1.cell? ⟨q, 1, none⟩ = some (.int .i64 1) := by rw [cell_of_row _ _ _ _ _ _ R1]; rfl
  have q2 : w1.cell? ⟨q, 2, none⟩ = some (.int .i64 8) := by rw [cell_of_row _ _ _ _ _ _ R1]; rfl
  have q3 : w1.cell? ⟨q, 3, none⟩ = some (.int .i64 1) := by rw [cell_of_row _ _ _ _ _ _ R1]; rfl
  have q4 : w1.cell? ⟨q, 4, none⟩ = some (.int .i64 4096) := by rw [cell_of_row _ _ _ _ _ _ R1]; rfl
  have HF := hide (F0.below b1)
  have n1 : w1.heap.size ≠ r := by have := HF.out.lt; omega
  have n2 : r ≠ w1.heap.size := by have := HF.out.lt; omega
  have HB : Hid (Below w.heap.size w w1) := b0.trans (b1.mono b0.size)
  have HS := hide s0
  have HH := hashes_within bits h2
  have HY := bytes_within room h3
  have HYB : bytesOfK room ≤ 4096 := by unfold bytesOfK; omega
  obtain ⟨hs, hhs⟩ : ∃ hs, hashesOf bits = hs := ⟨_, rfl⟩
  obtain ⟨nb, hnb⟩ : ∃ nb, bytesOfK room = nb := ⟨_, rfl⟩
  rw [hhs] at HH ⊢
  rw [hnb] at HY HYB ⊢
  have hmk := make_row_u8 nb (nb : Int) rfl (by omega)
  have hvz : w1.heap.size = w1.heap.size := rfl
  have HO0 : Own (w1.alloc (.cells (vals (List.replicate nb 0)).toArray 5)) w1.heap.size (.slice (some ⟨w1.heap.size, 0, none⟩) nb nb) (List.replicate nb 0) := by
    have h := own_heap (base := w1.heap.size) (bs := List.replicate nb 0) (heap_alloc_new w1 _) (Nat.le_refl _) (by unfold maxLen; simp; omega)
    rw [List.length_replicate] at h
    exact h
  obtain ⟨Z, hZ⟩ : ∃ Z, (vals (List.replicate nb 0)).toArray = Z := ⟨_, rfl⟩
  rw [hZ] at hmk HO0
  have HZ := hide hZ
  clear hZ hvz
  have F2 : FB (w1.alloc (.cells Z 5)) r false 0 (.slice none 0 0) := HF.out.below ((Below.refl _ _).alloc (Nat.le_refl _) _)
  have y0 := F2.c0
  have y1 := F2.c1
  have y2 := F2.c2
  have x0 := F2.fz 0
  have x1 := F2.fz 1
  have x2 := F2.fz 2
  have HF2 := hide F2
  have HO := hide HO0
  have HRE := hide (F2.set3 false (hs : Int) (.slice (some ⟨w1.heap.size, 0, none⟩) nb nb))
  have HG5 := hide (grown3 (w1.alloc (.cells Z 5)) r (.bool false) (.int .i64 (hs : Int)) (.slice (some ⟨w1.heap.size, 0, none⟩) nb nb))
  have HBZ : Hid (Below w.heap.size w (w1.alloc (.cells Z 5))) := HB.out.alloc HB.out.size _
  have HB5 := hide (below3 HBZ.out (show w.heap.size ≤ r by rw [HS.out]; exact Nat.le_refl _) (.bool false) (.int .i64 (hs : Int)) (.slice (some ⟨w1.heap.size, 0, none⟩) nb nb))
  have HRL : Hid (r < w1.heap.size) := HF.out.lt
  clear HO0
  clear F2
  have HRQ : Hid (r < q) := by show r < q; have := F0.lt; omega
  have E4 := hide (rowS (rowS3 R1 HRQ.out (.cells Z 5) (.bool false) (.int .i64 (hs : Int)) (.slice (some ⟨w1.heap.size, 0, none⟩) nb nb)))
  have hbi : (bits : Int) ≤ 16 := by omega
  have hbi1 : 1 ≤ (bits : Int) := by omega
  have hri : (room : Int) ≤ 1048576 := by omega
  clear hhs hnb b0 b1 F0 R1 hK
  go_enter Tryd.func35, Tryd.ntmps35
  obtain ⟨WN, hWN⟩ : ∃ WN, withinN = WN := ⟨_, rfl⟩
  have HWI := hide (fun a b c W => within_any a b c W)
  rw [hWN] at HWI HH HY
  clear hWN
  have e1 : IntKind.i64.wrap (69 * (bits : Int)) = 69 * (bits : Int) := by rw [IntKind.wrap_i64]; omega
  have e2 : IntKind.i64.wrap (69 * (bits : Int) + 50) = 69 * (bits : Int) + 50 := by rw [IntKind.wrap_i64]; omega
  have e3 : IntKind.i64.wrap ((room : Int) + 7) = (room : Int) + 7 := by rw [IntKind.wrap_i64]; omega
  go_wp2_with fail
  go_region_held (fun V => V.cell? ⟨q, 1, none⟩ = some (.int .i64 1) ∧ V.cell? ⟨q, 2, none⟩ = some (.int .i64 8) ∧ V.cell? ⟨q, 3, none⟩ = some (.int .i64 1) ∧ V.cell? ⟨q, 4, none⟩ = some (.int .i64 4096)) (first | exact E4.out | go_keep) (first
    | (go_at_call 45; refine (HWI.out _ _ _ _).mono ?_; rintro e w6 ⟨rfl, rfl⟩; (try rw [HH]); (try rw [HY])))
  go_wp2_with fail
  refine bodyPost_ret (fb_ret rfl _ _ r false (hs : Int) (.slice (some ⟨w1.heap.size, 0, none⟩) nb nb) rfl HRE.out) rfl ?_
  refine ⟨w1.heap.size, rfl, ?_, ?_⟩
  · exact (keep HO.out HG5.out (fun i j e1 e2 => by have := (World.ownsRow.lt HO.out i e1).1; have := HRL.out; have := Option.some.inj e2; omega)).mono HB.out.size
  · exact HB5.out.drew
end Go.Proofs.YtpdlpahpefojbaaDoor.Filt
