/-
  SortMerges: two lists, one behind the other, sorted.
-/
import Derived.Test.YtjhmnimbncfhoaaSoMerged
import Derived.Test.YtjhmnimbncfhoaaSoWorks
namespace Go.Proofs.Ytjhmnimbncfhoaa.So
open Go.ChangeShapes Go.WideShapes Go.ChangeAt Go.RowKit
open Go.Proofs.Ytjhmnimbncfhoaa.Base
set_option linter.unusedVariables false
theorem own_slice {w : World} {base n : Nat} {v : Value} {rs : List Rec} (h : OwnR w base v rs) (hl : rs.length = n) : ∃ a c, v = .slice a n c ∧ n ≤ c ∧ c ≤ 9223372036854775807 ∧ (a = none → n = 0 ∧ c = 0) := by
  subst hl
  rcases h.2 with ⟨h1, h2⟩ | ⟨g, cap, cur, h1, _, _, h2, h3, _⟩
  · exact ⟨none, 0, by rw [h1, h2], by omega, by omega, fun _ => ⟨h2, rfl⟩⟩
  · exact ⟨_, _, h1, h2, by unfold maxLen at h3; omega, fun e => nomatch e⟩
theorem mem_foldl (l : List Rec) (z : Rec) : ∀ o : List Rec, z ∈ l.foldl (fun o x => ins x o) o ↔ z ∈ o ∨ z ∈ l := by
  induction l with
  | nil => intro o; simp
  | cons x xs ih =>
    intro o
    rw [List.foldl_cons, ih, mem_ins, List.mem_cons]
    constructor
    · rintro ((h | h) | h)
      · exact .inr (.inl h)
      · exact .inl h
      · exact .inr (.inr h)
    · rintro (h | h | h)
      · exact .inl (.inr h)
      · exact .inl (.inl h)
      · exact .inr h
theorem mem_isort (l : List Rec) (z : Rec) : z ∈ isort l ↔ z ∈ l := by unfold isort; rw [mem_foldl]; simp
theorem Fine.isort {l : List Rec} (h : Fine l) : Fine (isort l) := fun r hr => h r ((mem_isort _ _).1 hr)
theorem Fine.append {a b : List Rec} (ha : Fine a) (hb : Fine b) : Fine (a ++ b) := fun r hr => by
  rcases List.mem_append.1 hr with h | h
  · exact ha r h
  · exact hb r h
theorem own_empty {w : World} {g base : Nat} {e : TypeId} (h : w.heap[g]? = some (.cells #[] 23)) (hb : base ≤ g) : OwnR w base (.slice (some ⟨g, 0, none⟩) 0 0) [] :=
  ⟨rfl, .inr ⟨g, 0, #[], rfl, hb, h, by simp, by unfold maxLen; omega, rfl, rfl⟩⟩
set_option maxHeartbeats 4000000 in
set_option maxRecDepth 100000 in
theorem mwalk (a b : Option Addr) (na ca nb cb : Nat) (A B : List Rec) (w : World) (hA : RdR w a na A) (hB : RdR w b nb B) (hna : a = none → na = 0 ∧ ca = 0) (hnb : b = none → nb = 0 ∧ cb = 0) (fA : Fine A) (fB : Fine B) (hla : na ≤ 1048576) (hlb : nb ≤ 1048576) :
    Calls Try.prog 4 #[.slice a na ca, .slice b nb cb] w fun e w' => e = .returned (.bool true) ∧ Below w.heap.size w w' := by
  have HA := hide hA
  have HB := hide hB
  have HFA := hide fA
  have HFB := hide fB
  clear hA hB fA fB
  have hna' := hide hna
  have hnb' := hide hnb
  clear hna hnb
  go_enter Try.func4, Try.ntmps4
  go_wp2_with fail
  refine (sort_any a na ca A w HA.out (by omega) HFA.out).mono ?_
  rintro e w1 ⟨v, rfl, ho1, hb1⟩
  obtain ⟨xa, xc, rfl, hx1, hx2, hx3⟩ := own_slice (n := na) ho1 (by rw [length_isort]; exact HA.out.1)
  have HX := hide ho1
  have HW1 := hide hb1
  have HX3 := hide hx3
  clear ho1 hb1 hx3
  go_wp2_with fail
  refine (sort_any b nb cb B w1 (HB.out.below HW1.out) (by omega) HFB.out).mono ?_
  rintro e w2 ⟨v, rfl, ho2, hb2⟩
  obtain ⟨ya, yc, rfl, hy1, hy2, hy3⟩ := own_slice (n := nb) ho2 (by rw [length_isort]; exact HB.out.1)
  have HY := hide (ho2.base HW1.out.size)
  have HX2 := hide (HX.out.below hb2)
  have HW2 := hide (below_trans HW1.out hb2)
  clear ho2 hb2 hy3 HX
  obtain ⟨g3, hg3⟩ : ∃ g, w2.heap.size = g := ⟨_, rfl⟩
  obtain ⟨w3, hw3⟩ : ∃ w3, w2.alloc (.cells #[] 23) = w3 := ⟨_, rfl⟩
  have HB3 : Hid (Below w2.heap.size w2 w3) := by rw [← hw3]; exact (Below.refl _ _).alloc (Nat.le_refl _) _
  have HW3 := hide (below_trans HW2.out HB3.out)
  have HE3 : Hid (OwnR w3 w2.heap.size (.slice (some ⟨g3, 0, none⟩) 0 0) []) := by
    refine own_empty (e := 0) ?_ (by omega)
    rw [← hw3, ← hg3]; exact heap_alloc_new _ _
  have HX3' := hide (HX2.out.below HB3.out)
  have HY3 := hide (HY.out.below HB3.out)
  have HSZ : Hid (w2.heap.size ≤ w3.heap.size) := HB3.out.size
  have HXB : Hid (∀ i, (Value.slice xa na xc).ownBlock = some i → i < w2.heap.size) := fun i e => (HX2.out.blk i e).2
  have HYB : Hid (∀ i, (Value.slice ya nb yc).ownBlock = some i → i < w2.heap.size) := fun i e => (HY.out.blk i e).2
  go_wp2_with (first
    | (at_builtin; refine joinR _ rfl _ _ rfl w2.heap.size (.slice (some ⟨g3, 0, none⟩) 0 0) [] rfl HE3.out a na ca A rfl (HA.out.below HW3.out) hna'.out (by simp; omega) HSZ.out ?_
       intro v4 w4 ho4 hg4
       have HO4 := hide ho4
       have HK4 := hide (hg4)
       have HW4 := hide (HW3.out.grown hg4 HW3.out.size (fun j e => by have h1 := (HE3.out.blk j e).1; have h2 := HW2.out.size; omega))
       have HX4 := hide (HX3'.out.same (fun i e => hg4.block i (by have h1 := HXB.out i e; have h2 := HSZ.out; omega) (fun e2 => by have h1 := (HE3.out.blk i e2.symm).1; have h2 := HXB.out i e; omega)))
       have HY4 := hide (HY3.out.same (fun i e => hg4.block i (by have h1 := HYB.out i e; have h2 := HSZ.out; omega) (fun e2 => by have h1 := (HE3.out.blk i e2.symm).1; have h2 := HYB.out i e; omega)))
       have HSZ4 : Hid (w2.heap.size ≤ w4.heap.size) := Nat.le_trans HSZ.out hg4.size
       clear ho4 hg4 HE3)
    | (at_builtin; refine joinR _ rfl _ _ rfl w2.heap.size v4 ([] ++ A) rfl HO4.out b nb cb B rfl (HB.out.below HW4.out) hnb'.out (by have := HA.out.1; simp; omega) HSZ4.out ?_
       intro v5 w5 ho5 hg5
       have HW5 := hide (HW4.out.grown hg5 HW4.out.size (fun j e => by have h1 := (HO4.out.blk j e).1; have h2 := HW2.out.size; omega))
       have HX5 := hide (HX4.out.same (fun i e => hg5.block i (by have h1 := HXB.out i e; have h2 := HSZ4.out; omega) (fun e2 => by have h1 := (HO4.out.blk i e2.symm).1; have h2 := HXB.out i e; omega)))
       have HY5 := hide (HY4.out.same (fun i e => hg5.block i (by have h1 := HYB.out i e; have h2 := HSZ4.out; omega) (fun e2 => by have h1 := (HO4.out.blk i e2.symm).1; have h2 := HYB.out i e; omega)))
       obtain ⟨za, zc, hz, hz1, hz2, hz3⟩ := own_slice (n := na + nb) ho5 (by rw [List.nil_append, List.length_append, HA.out.1, HB.out.1])
       subst hz
       rw [List.nil_append] at ho5
       have HZ5 := hide (own_rdr ho5)
       clear ho5 hg5 hz3 HO4))
  refine (sort_any za (na + nb) zc (A ++ B) w5 HZ5.out (by omega) (HFA.out.append HFB.out)).mono ?_
  rintro e w6 ⟨v, rfl, ho6, hb6⟩
  obtain ⟨sa, sc, rfl, hs1, hs2, hs3⟩ := own_slice (n := na + nb) ho6 (by rw [length_isort, List.length_append, HA.out.1, HB.out.1])
  have HS6 := hide (own_rdr ho6)
  have HX6 := hide (HX5.out.below hb6)
  have HY6 := hide (HY5.out.below hb6)
  have HW6 := hide (below_trans HW5.out hb6)
  clear ho6 hb6 hs3
  go_wp2_with fail
  refine (sort_any sa (na + nb) sc (isort (A ++ B)) w6 HS6.out (by omega) (HFA.out.append HFB.out).isort).mono ?_
  rintro e w7 ⟨v, rfl, ho7, hb7⟩
  rw [isort_srt _ (srt_isort _)] at ho7
  obtain ⟨ta, tc, rfl, ht1, ht2, ht3⟩ := own_slice (n := na + nb) ho7 (by rw [length_isort, List.length_append, HA.out.1, HB.out.1])
  have HT7 := hide (own_rdr ho7)
  have HS7 := hide (HS6.out.below hb7)
  have HX7 := hide (HX6.out.below hb7)
  have HY7 := hide (HY6.out.below hb7)
  have HW7 := hide (below_trans HW6.out hb7)
  clear ho7 hb7 ht3
  go_wp2_with fail
  refine (merged_any xa ya na xc nb yc (isort A) (isort B) w7 (own_rdr HX7.out) (own_rdr HY7.out) HX3.out hx1 hx2 HFA.out.isort HFB.out.isort (by omega)).mono ?_
  rintro e w8 ⟨v, rfl, ho8, hb8⟩
  rw [mrg_isort] at ho8
  obtain ⟨ma, mc, rfl, hm1, hm2, hm3⟩ := own_slice (n := na + nb) ho8 (by rw [length_isort, List.length_append, HA.out.1, HB.out.1])
  have HM8 := hide (own_rdr ho8)
  have HS8 := hide (HS7.out.below hb8)
  have HT8 := hide (HT7.out.below hb8)
  have HW8 := hide (below_trans HW7.out hb8)
  clear ho8 hb8 hm3
  go_wp2_with fail
  refine (sameRecords_eq sa ma (na + nb) sc mc (isort (A ++ B)) w8 HS8.out HM8.out (by omega)).mono ?_
  rintro e w9 ⟨rfl, hb9⟩
  have HS9 := hide (HS8.out.below hb9)
  have HT9 := hide (HT8.out.below hb9)
  have HW9 := hide (below_trans HW8.out hb9)
  clear hb9
  go_wp2_with fail
  refine (sameRecords_eq ta sa (na + nb) tc sc (isort (A ++ B)) w9 HT9.out HS9.out (by omega)).mono ?_
  rintro e w10 ⟨rfl, hb10⟩
  have HW10 := hide (below_trans HW9.out hb10)
  clear hb10
  go_wp2_with (go_at_call 15; refine (works_any _).mono ?_; rintro e w11 ⟨rfl, hb11⟩; have HW11 := hide (below_trans HW10.out hb11); clear hb11)
  go_ret
  exact ⟨rfl, HW11.out⟩
end Go.Proofs.Ytjhmnimbncfhoaa.So
