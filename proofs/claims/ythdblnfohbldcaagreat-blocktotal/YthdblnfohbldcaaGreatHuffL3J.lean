/-
  The things of counts: in order, each by itself; what fits.
-/
import Derived.Test.YthdblnfohbldcaaGreatHuffS3J
import Derived.Test.YthdblnfohbldcaaGreatHuffQ6J
import Derived.Test.YthdblnfohbldcaaGreatHuffP3J
import Derived.Test.YthdblnfohbldcaaGreatPaStrsJ
namespace Go.Proofs.YthdblnfohbldcaaGreat.Pm
open Go.Proofs.YthdblnfohbldcaaGreat.Base
set_option linter.unusedVariables false
theorem ordered_unique {cs : List Int} {os os' : List Nat} (h : Ordered cs os) (h' : Ordered cs os') : os = os' := by
  refine List.Perm.eq_of_pairwise ?_ h.2 h'.2 (h.1.trans h'.1.symm)
  intro a b _ _ h1 h2
  unfold aheadOf at h1 h2
  omega
theorem ordered_nodup {cs : List Int} {os : List Nat} (h : Ordered cs os) : os.Nodup := h.1.nodup_iff.2 (symsTo_nodup cs cs.length)
theorem ordered_mem {cs : List Int} {os : List Nat} (h : Ordered cs os) (s : Nat) : s ∈ os ↔ s < cs.length ∧ 0 < cs.getD s 0 := by
  rw [h.1.mem_iff]; unfold symsTo; rw [List.mem_filter, List.mem_range, decide_eq_true_iff]
theorem ordered_len {cs : List Int} {os : List Nat} (h : Ordered cs os) : os.length ≤ cs.length := by
  rw [h.1.length_eq]; exact symsTo_len cs cs.length
theorem thingOf_get (cs : List Int) (x s : Nat) (hs : s < 256) : (thingOf cs x).2.getD s 0 = if x = s then 1 else 0 := by
  unfold thingOf
  simp only [List.getD_eq_getElem?_getD, List.getElem?_set, List.length_replicate, List.getElem?_replicate]
  by_cases e : x = s
  · subst e; simp [hs]
  · simp [e, hs]
theorem things_tally (cs : List Int) (s : Nat) (hs : s < 256) : ∀ os : List Nat, tally (thingsOf cs os) s = os.count s
  | [] => rfl
  | x :: os => by
    have e : thingsOf cs (x :: os) = thingOf cs x :: thingsOf cs os := rfl
    rw [e, tally_cons, things_tally cs s hs os, thingOf_get cs x s hs, List.count_cons]
    by_cases h : x = s <;> simp [h] <;> omega
theorem count_take {os : List Nat} (hn : os.Nodup) (a r : Nat) (ha : a ≤ os.length) (hr : r < os.length) : (os.take a).count (os.getD r 0) = if r < a then 1 else 0 := by
  have hnt : (os.take a).Nodup := hn.sublist (List.take_sublist a os)
  have e : os.getD r 0 = os[r] := by rw [List.getD_eq_getElem?_getD, List.getElem?_eq_getElem hr]; rfl
  rw [hnt.count, e]
  have : os[r] ∈ os.take a ↔ r < a := by
    rw [List.mem_take_iff_getElem]
    constructor
    · rintro ⟨i, hi, he⟩
      have hp := List.pairwise_iff_getElem.1 hn
      rcases Nat.lt_trichotomy i r with h | h | h
      · exact absurd he (hp i r (by omega) hr h)
      · omega
      · exact absurd he.symm (hp r i hr (by omega) h)
    · intro h
      exact ⟨r, by omega, rfl⟩
  by_cases h : r < a
  · rw [if_pos (this.2 h), if_pos h]
  · rw [if_neg (fun x => h (this.1 x)), if_neg h]
theorem things_ok {cs : List Int} {os : List Nat} (h : Ordered cs os) (hl : cs.length ≤ 256) : Things 256 (thingsOf cs os) (fun r => os.getD r 0) where
  up := by
    unfold Up thingsOf
    rw [List.pairwise_map]
    refine List.Pairwise.imp ?_ h.2
    intro x y hxy
    unfold aheadOf at hxy
    simp only [thingOf]
    omega
  pos := by
    intro p hp
    obtain ⟨s, hs, rfl⟩ := List.mem_map.1 hp
    have := ((ordered_mem h s).1 hs).2
    simp only [thingOf]
    omega
  wide := things_wide cs os
  one := by
    intro a r ha hr
    rw [things_len] at ha hr
    have hm : os.getD r 0 ∈ os := by rw [List.getD_eq_getElem?_getD, List.getElem?_eq_getElem hr]; exact List.getElem_mem _
    have hs := ((ordered_mem h _).1 hm).1
    have e : (thingsOf cs os).take a = thingsOf cs (os.take a) := by unfold thingsOf; rw [List.map_take]
    rw [e, things_tally cs _ (by omega), count_take (ordered_nodup h) a r ha hr]
theorem things_one {cs : List Int} {os : List Nat} (h : Ordered cs os) (hl : cs.length ≤ 256) (s : Nat) : tally (thingsOf cs os) s ≤ 1 := by
  by_cases hs : s < 256
  · rw [things_tally cs s hs]
    exact List.nodup_iff_count.1 (ordered_nodup h) s
  · have : ∀ l : List Pk, Wide 256 l → tally l s = 0 := by
      intro l
      induction l with
      | nil => intro _; rfl
      | cons p l ih =>
        intro hw
        rw [tally_cons, ih (fun q hq => hw q (by simp [hq])), List.getD_eq_getElem?_getD, List.getElem?_eq_none (by rw [hw p (by simp)]; omega)]
        rfl
    rw [this _ (things_wide cs os)]; omega
theorem things_fit {cs : List Int} {os : List Nat} (h : Ordered cs os) (hl : cs.length ≤ 256) (hc : Huff.allIn 1099511627776 cs = true) (j : Nat) (hj : j < 15) : Fits (thingsOf cs os) j where
  w := by
    intro p hp
    have h1 : ∀ q ∈ thingsOf cs os, q.1 ≤ 1099511627776 := by
      intro q hq
      obtain ⟨s, hs, rfl⟩ := List.mem_map.1 hq
      have := (Huff.allIn_get hc s ((ordered_mem h s).1 hs).1).2
      simp only [thingOf]
      omega
    have h2 := row_weight h1 j p hp
    have h3 : 2 ^ j ≤ 2 ^ 14 := Nat.pow_le_pow_right (by decide) (by omega)
    have h4 : 2 ^ j * 1099511627776 ≤ 2 ^ 14 * 1099511627776 := Nat.mul_le_mul_right _ h3
    omega
  t := by
    intro p hp s
    have h1 := mem_tally s _ p hp
    have h2 := row_tally (things_wide cs os) s j
    have h3 := things_one h hl s
    have h4 : (j + 1) * tally (thingsOf cs os) s ≤ (j + 1) * 1 := Nat.mul_le_mul_left _ h3
    omega
/-- What is taken, entry by entry. -/
theorem taken_t {cs : List Int} {os : List Nat} (h : Ordered cs os) (hl : cs.length ≤ 256) (rows : Nat) (h1 : 1 ≤ rows) (h15 : rows ≤ 15) (s : Nat) : tally (takenOf (thingsOf cs os) rows) s ≤ rows := by
  unfold takenOf
  split
  · have := things_one h hl s; omega
  · have h2 := row_tally (things_wide cs os) s (rows - 1)
    have h3 := things_one h hl s
    have h4 : (rows - 1 + 1) * tally (thingsOf cs os) s ≤ (rows - 1 + 1) * 1 := Nat.mul_le_mul_left _ h3
    have h5 := tally_take_le s (row (thingsOf cs os) (rows - 1)) (2 * (thingsOf cs os).length - 2)
    unfold cut
    omega
end Go.Proofs.YthdblnfohbldcaaGreat.Pm
/-
  Lengths, at any counts and limit.
-/
namespace Go.Proofs.YthdblnfohbldcaaGreat.Pm
open Go.ChangeShapes Go.WideShapes Go.ChangeAt Go.RowKit
open Go.Proofs.YthdblnfohbldcaaGreat.Base
set_option linter.unusedVariables false
/-- The symbols of counts, in order. -/
def orderOf (cs : List Int) : List Nat := (sorted cs (cs.length - 1) (symsTo cs cs.length)).map (·.val)
theorem orderOf_ok (cs : List Int) : Ordered cs (orderOf cs) := by
  by_cases h : cs.length = 0
  · have e : symsTo cs cs.length = [] := by rw [h]; rfl
    have e2 : sorted cs (cs.length - 1) [] = [] := by unfold sorted; simp
    unfold Ordered orderOf
    rw [e, e2]
    exact ⟨List.Perm.refl _, List.Pairwise.nil⟩
  · exact sorted_ok cs (cs.length - 1) (by omega) cs.length (Nat.le_refl _) (symsTo_nodup cs _)
def takenBy (cs : List Int) (lim : Nat) : List Pk := takenOf (thingsOf cs (orderOf cs)) lim
/-- The lengths that are taken. -/
def lensBy (cs : List Int) (lim : Nat) : List Int := (List.range cs.length).map fun s => ((tally (takenBy cs lim) s : Nat) : Int)
/-- What Lengths answers. -/
def lengthsd (cs : List Int) (lim : Int) : List Int × Int :=
  if 256 < cs.length then ([], 2)
  else if lim < 1 ∨ 15 < lim ∨ Huff.allIn 1099511627776 cs = false then ([], 3)
  else if 2 ^ lim.toNat < (orderOf cs).length then ([], 41)
  else (lensBy cs lim.toNat, 0)
/-- The first k of what is taken are counted; of the next one the first i symbols. -/
def lensAt (cs : List Int) (T : List Pk) (k i : Nat) : List Int := (List.range cs.length).map fun s => (((if s < i then tally (T.take (k + 1)) s else tally (T.take k) s) : Nat) : Int)
theorem lensAt_len (cs : List Int) (T : List Pk) (k i : Nat) : (lensAt cs T k i).length = cs.length := by simp [lensAt]
theorem lensAt_zero (cs : List Int) (T : List Pk) : lensAt cs T 0 0 = List.replicate cs.length 0 := by
  unfold lensAt
  rw [List.map_congr_left (g := fun _ => (0 : Int)) (fun s _ => by simp [tally]), List.map_const', List.length_range]
theorem lensAt_next (cs : List Int) (T : List Pk) (k : Nat) : lensAt cs T k cs.length = lensAt cs T (k + 1) 0 := by
  unfold lensAt
  apply List.map_congr_left
  intro s hs
  rw [List.mem_range] at hs
  rw [if_pos hs, if_neg (by omega)]
theorem lensAt_all (cs : List Int) (T : List Pk) : lensAt cs T T.length 0 = (List.range cs.length).map fun s => ((tally T s : Nat) : Int) := by
  unfold lensAt
  apply List.map_congr_left
  intro s hs
  rw [if_neg (by omega), List.take_length]
theorem lensAt_get (cs : List Int) (T : List Pk) (k i : Nat) (h : i < cs.length) : (lensAt cs T k i).getD i 0 = ((tally (T.take k) i : Nat) : Int) := by
  unfold lensAt
  rw [List.getD_eq_getElem?_getD, List.getElem?_map, List.getElem?_range h]
  simp
theorem lensAt_set (cs : List Int) (T : List Pk) (k i : Nat) (h : i < cs.length) : (lensAt cs T k i).set i ((tally (T.take (k + 1)) i : Nat) : Int) = lensAt cs T k (i + 1) := by
  apply List.ext_getElem?
  intro j
  rw [List.getElem?_set, lensAt_len]
  unfold lensAt
  rw [List.getElem?_map, List.getElem?_map]
  by_cases hj : j < cs.length
  · rw [List.getElem?_range hj]
    by_cases e : i = j
    · subst e; simp [h]
    · simp [e]
      by_cases h2 : j < i
      · rw [if_pos h2, if_pos (by omega)]
      · rw [if_neg h2, if_neg (by omega)]
  · rw [List.getElem?_eq_none (by rw [List.length_range]; omega)]
    simp; omega
theorem range_apart {K : IntKind} {w : World} {b off g : Nat} {p : Pk} {ps : List Pk} {xs : List Int} (hK : K = .u8) (h : w.rangeAt b off (lcells K (p :: ps))) (hp : p.2.length = 256) (hr : RowI 3 w g xs) : b ≠ g := by
  intro e
  subst e hK
  have h1 := h 1 _ (by rw [lcells_cons, List.getElem?_append_left (by rw [pcells_len _ hp]; omega)]; exact pcells_t .u8 p 0 (by omega))
  unfold RowI at hr
  rw [cell_of_row _ _ _ _ _ _ hr, List.getElem?_toArray, ivals, List.getElem?_map] at h1
  cases hx : xs[off + 1]? with
  | none => rw [hx] at h1; cases h1
  | some x => rw [hx] at h1; simp [VI] at h1
theorem RdP.keepI {w w' : World} {a : Option Addr} {n g : Nat} {T : List Pk} {xs : List Int} (h : RdP .u8 w a n T) (hr : RowI 3 w g xs) (hg : w.grownBy w' (some g)) : RdP .u8 w' a n T := by
  obtain ⟨h1, h2, h3⟩ := h
  refine ⟨h1, h2, fun hp => ?_⟩
  obtain ⟨b, off, rfl, hb, hc⟩ := h3 hp
  refine ⟨b, off, rfl, Nat.lt_of_lt_of_le hb hg.size, range_grown hc hg (fun e => ?_)⟩
  cases T with
  | nil => simp at h1; omega
  | cons p ps => exact range_apart rfl hc (h2 p (by simp)) hr (Option.some.inj e).symm
theorem lengthsd_long {cs : List Int} {lim : Int} (h : 256 < cs.length) : lengthsd cs lim = ([], 2) := by unfold lengthsd; rw [if_pos h]
theorem lengthsd_arg {cs : List Int} {lim : Int} (h : ¬ 256 < cs.length) (h2 : lim < 1 ∨ 15 < lim ∨ Huff.allIn 1099511627776 cs = false) : lengthsd cs lim = ([], 3) := by unfold lengthsd; rw [if_neg h, if_pos h2]
theorem lengthsd_limit {cs : List Int} {lim : Nat} (h : ¬ 256 < cs.length) (h1 : 1 ≤ lim) (h2 : lim ≤ 15) (h3 : Huff.allIn 1099511627776 cs = true) (h4 : 2 ^ lim < (orderOf cs).length) : lengthsd cs (lim : Int) = ([], 41) := by
  unfold lengthsd; rw [if_neg h, if_neg (by rw [h3]; simp; omega), Int.toNat_natCast, if_pos h4]
theorem lengthsd_ok {cs : List Int} {lim : Nat} (h : ¬ 256 < cs.length) (h1 : 1 ≤ lim) (h2 : lim ≤ 15) (h3 : Huff.allIn 1099511627776 cs = true) (h4 : ¬ 2 ^ lim < (orderOf cs).length) : lengthsd cs (lim : Int) = (lensBy cs lim, 0) := by
  unfold lengthsd; rw [if_neg h, if_neg (by rw [h3]; simp; omega), Int.toNat_natCast, if_neg h4]
theorem ownI_none (w : World) (base : Nat) : OwnI w base (.slice none 0 0) [] := ⟨by simp [ivals], .inl ⟨rfl, rfl⟩⟩
end Go.Proofs.YthdblnfohbldcaaGreat.Pm
/-
  Lengths: the walk.
-/
namespace Go.Proofs.YthdblnfohbldcaaGreat.Pm
open Go.ChangeShapes Go.WideShapes Go.ChangeAt Go.RowKit
open Go.Proofs.YthdblnfohbldcaaGreat.Base
set_option linter.unusedVariables false
set_option maxHeartbeats 2000000 in
set_option maxRecDepth 100000 in
theorem lengths_bad (a : Option Addr) (len cap : Nat) (cs : List Int) (lim : Int) (w : World) (hr : RdI w a len cs) (h : 256 < cs.length ∨ lim < 1 ∨ 15 < lim ∨ Huff.allIn 1099511627776 cs = false) :
    Calls Tryz.prog 53 #[.slice a len cap, .int .i64 lim] w fun e w' => ∃ v, e = .returned (.tuple #[v, .int .i64 (lengthsd cs lim).2]) ∧ OwnI w' w.heap.size v (lengthsd cs lim).1 ∧ Below w.heap.size w w' := by
  have HL := hide hr.1
  have HA := hide (Huff.areCounts_any a len cap cs w hr)
  by_cases h1 : 256 < len
  · rw [lengthsd_long (by rw [HL.out]; exact h1)]
    have h1i : (256 : Int) < (len : Int) := by omega
    go_enter Tryz.func53, Tryz.ntmps53
    go_wp2_with fail
    go_ret2
    exact ⟨_, rfl, ownI_none _ _, Below.refl _ _⟩
  · have h1i : ¬ (256 : Int) < (len : Int) := by omega
    have h2 : lim < 1 ∨ 15 < lim ∨ Huff.allIn 1099511627776 cs = false := by
      rcases h with h | h
      · have := HL.out; omega
      · exact h
    rw [lengthsd_arg (by rw [HL.out]; exact h1) h2]
    clear h
    by_cases h3 : lim < 1
    · go_enter Tryz.func53, Tryz.ntmps53
      go_wp2_with fail
      go_ret2
      exact ⟨_, rfl, ownI_none _ _, Below.refl _ _⟩
    · by_cases h4 : 15 < lim
      · go_enter Tryz.func53, Tryz.ntmps53
        go_wp2_with fail
        go_ret2
        exact ⟨_, rfl, ownI_none _ _, Below.refl _ _⟩
      · have h5 : Huff.allIn 1099511627776 cs = false := by
          rcases h2 with h | h | h
          · exact absurd h h3
          · exact absurd h h4
          · exact h
        rw [h5] at HA
        clear h5 h2
        go_enter Tryz.func53, Tryz.ntmps53
        go_wp2_with (go_at_call 96; refine HA.out.mono ?_; rintro e w1 ⟨rfl, rfl⟩)
        go_ret2
        exact ⟨_, rfl, ownI_none _ _, Below.refl _ _⟩
set_option maxHeartbeats 2000000 in
set_option maxRecDepth 100000 in
theorem lengths_ok (a : Option Addr) (len cap : Nat) (cs : List Int) (lim : Nat) (w : World) (hr : RdI w a len cs) (h0 : a = none → len = 0) (h1 : len ≤ 256) (h2 : 1 ≤ lim) (h3 : lim ≤ 15) (h4 : Huff.allIn 1099511627776 cs = true) :
    Calls Tryz.prog 53 #[.slice a len cap, .int .i64 (lim : Int)] w fun e w' => ∃ v, e = .returned (.tuple #[v, .int .i64 (lengthsd cs (lim : Int)).2]) ∧ OwnI w' w.heap.size v (lengthsd cs (lim : Int)).1 ∧ Below w.heap.size w w' := by
  have HL := hide hr.1
  have HA := hide (Huff.areCounts_any a len cap cs w hr)
  rw [h4] at HA
  have HAL := hide (alone_any a len cap cs w hr h1 h0 (fun k hk => (Huff.allIn_get h4 k hk).1))
  have HAT := hide h4
  clear h4
  have h1i : ¬ (256 : Int) < (len : Int) := by omega
  have h2i : ¬ (lim : Int) < 1 := by omega
  have h3i : ¬ 15 < (lim : Int) := by omega
  have HLI := hide (lengthsd_limit (cs := cs) (lim := lim) (by rw [HL.out]; omega) h2 h3 HAT.out)
  have HLO := hide (lengthsd_ok (cs := cs) (lim := lim) (by rw [HL.out]; omega) h2 h3 HAT.out)
  have HMK := hide (fun W => make_row_int len (len : Int) rfl (by omega) W)
  generalize lengthsd cs (lim : Int) = LD at HLI HLO
  go_enter Tryz.func53, Tryz.ntmps53
  go_wp2_with (go_at_call 96; refine HA.out.mono ?_; rintro e w ⟨rfl, rfl⟩)
  refine HAL.out.mono ?_
  rintro e w1 ⟨g1, n, os, rfl, hrd, hn, hod, hb⟩
  obtain rfl := ordered_unique hod (orderOf_ok cs)
  have HRD := hide hrd
  have HB := hide hb
  have HN : Hid ((orderOf cs).length = n) := by show _ = _; rw [← things_len cs, hrd.1]
  clear hrd hb
  have hP : 2 ^ lim ≤ 2 ^ 15 := Nat.pow_le_pow_right (by decide) h3
  obtain ⟨P, hPe⟩ : ∃ P : Nat, 2 ^ lim = P := ⟨_, rfl⟩
  have hPi : (2 : Int) ^ lim = (P : Int) := by rw [← hPe]; simp
  rw [hPe] at hP HLI HLO
  rw [HN.out] at HLI HLO
  have hw64 : wrap64 ((2 : Int) ^ lim) = (P : Int) := by rw [hPi]; unfold wrap64; omega
  clear hPi hPe
  by_cases hlt : P < n
  · have hlti : (P : Int) < (n : Int) := by omega
    have HLE := hide (HLI.out hlt)
    go_wp2_with fail
    go_ret2
    exact ⟨_, by rw [HLE.out]; rfl, by rw [HLE.out]; exact ownI_none _ _, HB.out⟩
  have hlti : ¬ (P : Int) < (n : Int) := by omega
  have HLE := hide (HLO.out hlt)
  have hmk := HMK.out
  have HT := hide (fun W h => taken_any (some ⟨g1, 0, none⟩) n n (thingsOf cs (orderOf cs)) lim W h (by omega) (Nat.le_refl _) h2 h3 (fun j hj => things_fit (orderOf_ok cs) (by rw [HL.out]; exact h1) HAT.out j (by omega)))
  have HR2 : Hid (RowI 3 (w1.alloc (.cells (ivals (List.replicate len 0)).toArray 3)) w1.heap.size (List.replicate len 0)) := rowi_new _ _ _
  have HB2 : Hid (Below w.heap.size w (w1.alloc (.cells (ivals (List.replicate len 0)).toArray 3))) := HB.out.alloc HB.out.size _
  have HRD2 : Hid (RdP .u8 (w1.alloc (.cells (ivals (List.replicate len 0)).toArray 3)) (some ⟨g1, 0, none⟩) n (thingsOf cs (orderOf cs))) := HRD.out.below ((Below.refl _ _).alloc (Nat.le_refl _) _)
  have hs1 := HB.out.size
  obtain ⟨gl, hgl⟩ : ∃ gl, w1.heap.size = gl := ⟨_, rfl⟩
  rw [hgl] at HR2
  have HGL : Hid (w.heap.size ≤ gl) := by show _ ≤ _; omega
  obtain ⟨w2, hw2⟩ : ∃ w2, w1.alloc (.cells (ivals (List.replicate len 0)).toArray 3) = w2 := ⟨_, rfl⟩
  rw [hw2] at HR2 HB2 HRD2
  have hmk2 : (Instr.makeSlice 55 (.int .i64 (len : Int)) (.int .i64 (len : Int))).run Tryz.prog w1 = .ok (.slice (some ⟨gl, 0, none⟩) len len) w2 := by rw [hmk, hgl, hw2]
  clear hmk HMK hgl hw2 hs1 HB HRD HLI HLO hlt
  go_wp2_with fail
  refine (HT.out _ HRD2.out).mono ?_
  rintro e w3 ⟨ta, m, tc, rfl, hrd3, hb3⟩
  have HTB : Hid (takenOf (thingsOf cs (orderOf cs)) lim = takenBy cs lim) := rfl
  rw [HTB.out] at hrd3
  have HRD3 := hide hrd3
  have hs2 := HB2.out.size
  have HB3 : Hid (Below w.heap.size w w3) := HB2.out.trans (hb3.mono hs2)
  have HR3 : Hid (RowI 3 w3 gl (lensAt cs (takenBy cs lim) 0 0)) := by
    rw [lensAt_zero, HL.out]
    exact HR2.out.below hb3
  have HML : Hid ((takenBy cs lim).length = m) := hrd3.1
  have HTA := hide (fun s => taken_t (orderOf_ok cs) (by rw [HL.out]; exact h1) lim h2 h3 s)
  have hm : m ≤ 510 := by
    have h6 := HML.out
    unfold takenBy takenOf at h6
    split at h6
    · rw [things_len, HN.out] at h6; omega
    · have := cut_len_le (thingsOf cs (orderOf cs)) (lim - 1)
      rw [things_len, HN.out] at this
      omega
  have HTA2 : Hid (∀ s, tally (takenBy cs lim) s ≤ lim) := fun s => HTA.out s
  have HLB : Hid (lensBy cs lim = lensAt cs (takenBy cs lim) m 0) := by
    show _ = _
    rw [← HML.out, lensAt_all]; rfl
  rw [HLB.out] at HLE
  clear hrd3 hb3 HR2 HB2 HRD2 HT HTA hmk2 hs2 HTB HLB HAL
  generalize takenBy cs lim = T at HRD3 HR3 HML HTA2 HLE
  obtain ⟨Z, HZ, HI, hz⟩ := zeroP
  have HZL : Hid (Z.length = 257) := by show _ = _; rw [HZ.out]; exact pcells_len _ (List.length_replicate ..)
  clear HI
  obtain ⟨d, hu, hd⟩ := uP
  have HU := hide hu
  clear hu
  go_wp2_with fail
  go_loopw [39] (fun i wr => ∃ k : Nat, k ≤ m ∧ i = .int .i64 (k : Int) ∧ Hid (RowI 3 wr gl (lensAt cs T k 0)) ∧ Hid (RdP .u8 wr ta m T) ∧ Hid (Below w.heap.size w wr)) (fun i _ => m - (intOf i).toNat)
  case atStart => exact ⟨0, Nat.zero_le _, rfl, HR3, HRD3, HB3⟩
  case round =>
    clear HR3 HRD3 HB3
    obtain ⟨k, hk, rfl, HR, HRD, HB⟩ := hrel
    by_cases hlt : k < m
    · have hki : (k : Int) < (m : Int) := by omega
      obtain ⟨b1, o1, rfl, hb1, hc1⟩ := HRD.out.2.2 (by omega)
      have hkT : k < T.length := by rw [HML.out]; exact hlt
      have R1 : Hid (wr.rangeAt b1 (o1 + k * 257) (pcells .u8 (T.getD k (0, [])))) := range_one hc1 HRD.out.2.1 k hkT
      have HPL := hide (wide_get HRD.out.2.1 k hkT)
      have HSN := hide (fun s => tally_snoc s T k hkT)
      have HTT : Hid (∀ s, tally (T.take (k + 1)) s ≤ lim) := fun s => Nat.le_trans (tally_take_le s T (k + 1)) (HTA2.out s)
      generalize T.getD k (0, []) = p at R1 HPL HSN
      have HVL := hide (pcells_len .u8 HPL.out)
      have HV1 := hide (pcells_one .u8 p)
      have HPB : Hid (PBlk 161 .u8 ((wr.alloc (.cells Z.toArray 161)).setCells wr.heap.size 0 (pcells .u8 p)) wr.heap.size p) := pblk_set (cs := Z) (heap_alloc_new _ _) (by rw [HZL.out, HVL.out])
      have HGR : Hid (wr.grownBy ((wr.alloc (.cells Z.toArray 161)).setCells wr.heap.size 0 (pcells .u8 p)) none) := by
        have h1 := grown_setCells (pcells .u8 p) 0 (wr.alloc (.cells Z.toArray 161)) (World.grownBy_alloc wr (.cells Z.toArray 161) (some wr.heap.size))
        exact ⟨h1.os, h1.tape, h1.output, h1.size, fun i hi _ => h1.block i hi (fun e => by have := Option.some.inj e; omega)⟩
      have HR6 := hide (HR.out.grown HGR.out (by simp))
      have HB6 := hide (HB.out.grown HGR.out HB.out.size (fun i e => by cases e))
      have HRD6 : Hid (RdP .u8 ((wr.alloc (.cells Z.toArray 161)).setCells wr.heap.size 0 (pcells .u8 p)) (some ⟨b1, o1, none⟩) m T) :=
        ⟨HRD.out.1, HRD.out.2.1, fun _ => ⟨b1, o1, rfl, Nat.lt_of_lt_of_le hb1 HGR.out.size, range_grown hc1 HGR.out (by simp)⟩⟩
      have HGN : Hid (gl < wr.heap.size) := HR.out.lt
      have HTH : Hid ((wr.alloc (.cells Z.toArray 161)).there wr.heap.size 0 (pcells .u8 p).toArray.size) := by
        have e : (pcells .u8 p).toArray.size = 257 := by rw [List.size_toArray, HVL.out]
        rw [e]; exact there_new wr Z _ HZL.out
      have I1 : Hid ((Tryz.prog.info? 161).map (·.size) = some (pcells .u8 p).length) := by show _ = _; rw [HVL.out]; exact sizeP
      have I2 : Hid ((Tryz.prog.info? 161).map (·.size) = some (pcells .u8 p).toArray.size) := by show _ = _; rw [List.size_toArray, HVL.out]; exact sizeP
      obtain ⟨V, hV⟩ : ∃ V, pcells .u8 p = V := ⟨_, rfl⟩
      have HV := hide hV
      rw [hV] at R1 HVL HV1 HPB HB6 HGR HR6 HRD6 HTH I1 I2
      obtain ⟨w6, hw6⟩ : ∃ w6, (wr.alloc (.cells Z.toArray 161)).setCells wr.heap.size 0 V = w6 := ⟨_, rfl⟩
      have HW6 := hide hw6
      rw [hw6] at HPB HB6 HGR HR6 HRD6
      clear hc1 hV hw6
      go_wp2_with (first
        | (refine wpList_load_mid rfl 161 (.tmp 41) rfl b1 (o1 + k * 257) rfl V _ R1.out HU.out hd I1.out ?_)
        | (refine wpList_store_mid rfl 161 (.tmp 9) (.tmp 42) rfl wr.heap.size 0 V.toArray rfl rfl HTH.out I2.out (all_oneCell_toArray HV1.out) ?_
           rw [List.toList_toArray, HW6.out]))
      try simp only [Act.put]
      obtain ⟨gp, hgp⟩ : ∃ gp, wr.heap.size = gp := ⟨_, rfl⟩
      rw [hgp] at HPB HGN ⊢
      clear HTH HW6 hgp R1 HGR HR HB HRD
      go_loopw [45] (fun i wz => ∃ q : Nat, q ≤ len ∧ i = .int .i64 (q : Int) ∧ Hid (RowI 3 wz gl (lensAt cs T k q)) ∧ Hid (RdP .u8 wz (some ⟨b1, o1, none⟩) m T) ∧ Hid (PBlk 161 .u8 wz gp p) ∧ Hid (Below w.heap.size w wz)) (fun i _ => len - (intOf i).toNat)
      case atStart => exact ⟨0, Nat.zero_le _, rfl, HR6, HRD6, HPB, HB6⟩
      case round =>
        clear HR6 HRD6 HPB HB6
        obtain ⟨q, hq, rfl, HR, HRD, HPB, HB⟩ := hrel
        by_cases hlq : q < len
        · have hqi : (q : Int) < (len : Int) := by omega
          have c1 := HR.out.cell q (by rw [lensAt_len, HL.out]; exact hlq)
          rw [lensAt_get cs T k q (by rw [HL.out]; exact hlq)] at c1
          have f1 := HR.out.frozen q
          have c2 := HPB.out.t q (by rw [HPL.out]; omega)
          have HSQ := hide (HSN.out q)
          have HSB := hide (HTT.out q)
          have HSET := hide (lensAt_set cs T k q (by rw [HL.out]; exact hlq))
          obtain ⟨A, hA⟩ : ∃ A, tally (T.take k) q = A := ⟨_, rfl⟩
          obtain ⟨B, hB⟩ : ∃ B, p.2.getD q 0 = B := ⟨_, rfl⟩
          obtain ⟨C, hC⟩ : ∃ C, tally (T.take (k + 1)) q = C := ⟨_, rfl⟩
          rw [hA] at c1 HSQ
          rw [hB] at c2 HSQ
          rw [hC] at HSQ HSB HSET
          have hsum : A + B = C := HSQ.out.symm
          have hCb : C ≤ lim := HSB.out
          have e1 : IntKind.i64.wrap ((A : Int) + (B : Int)) = (C : Int) := by rw [IntKind.wrap_i64]; omega
          have e0 : IntKind.i64.wrap (B : Int) = (B : Int) := by rw [IntKind.wrap_i64]; omega
          have hBb : (B : Int) ≤ 15 := by omega
          have hs6 : (q : Int) < 256 := by omega
          have HS1 := hide (HR.out.store q (C : Int))
          rw [HSET.out] at HS1
          have HG1 : Hid (wr.grownBy (wr.setCell ⟨gl, q, none⟩ (.int .i64 (C : Int))) (some gl)) := grown_cell (World.grownBy.refl _ _) _ _
          have HRD1 := hide (HRD.out.keepI HR.out HG1.out)
          have HPB1 := hide (HPB.out.grown HG1.out (fun e => by have := Option.some.inj e; have := HGN.out; omega))
          have HB1 : Hid (Below w.heap.size w (wr.setCell ⟨gl, q, none⟩ (.int .i64 (C : Int)))) := HB.out.setCell HGL.out _
          have hne : gl ≠ gp := by have := HGN.out; omega
          clear hA hB hC hsum HSQ HSB HSET HR HRD HPB HB HG1
          go_wp2_with fail
          go_region_with (fail)
          all_goals
            go_wp2_with fail
            go_roundw
            case rel => exact ⟨q + 1, by omega, by go_num, HS1.out, HRD1.out, HPB1.out, HB1.out.drew⟩
            case measure => simp [intOf]; omega
        · obtain rfl : q = len := by omega
          have HRN : Hid (RowI 3 wr gl (lensAt cs T (k + 1) 0)) := by
            have := HR.out
            rw [← HL.out, lensAt_next] at this
            exact this
          have hqi : ¬ (q : Int) < (q : Int) := by omega
          go_wp2_with fail
          go_roundw
          case rel => exact ⟨k + 1, by omega, by go_num, HRN, HRD, HB⟩
          case measure => simp [intOf]; omega
    · obtain rfl : k = m := by omega
      have hki : ¬ (k : Int) < (k : Int) := by omega
      have HOW : Hid (OwnI wr w.heap.size (.slice (some ⟨gl, 0, none⟩) len len) (lensAt cs T k 0)) := by
        have hl : (lensAt cs T k 0).length = len := by rw [lensAt_len, HL.out]
        refine ⟨by rw [length_ivals, Nat.mul_one], .inr ⟨gl, len, _, by rw [hl], HGL.out, HR.out, by rw [hl]; exact Nat.le_refl _, by unfold maxLen; omega, by rw [List.size_toArray, length_ivals, hl, Nat.mul_one], ?_⟩⟩
        rw [List.toList_toArray, Nat.mul_one, ← length_ivals, List.take_length]
      go_wp2_with fail
      go_ret2
      exact ⟨_, by rw [HLE.out]; rfl, by rw [HLE.out]; exact HOW.out, HB.out⟩
/-- Lengths, whatever it is called with. -/
theorem lengths_any (a : Option Addr) (len cap : Nat) (cs : List Int) (lim : Int) (w : World) (hr : RdI w a len cs) (h0 : a = none → len = 0) :
    Calls Tryz.prog 53 #[.slice a len cap, .int .i64 lim] w fun e w' => ∃ v, e = .returned (.tuple #[v, .int .i64 (lengthsd cs lim).2]) ∧ OwnI w' w.heap.size v (lengthsd cs lim).1 ∧ Below w.heap.size w w' := by
  by_cases h : 256 < cs.length ∨ lim < 1 ∨ 15 < lim ∨ Huff.allIn 1099511627776 cs = false
  · exact lengths_bad a len cap cs lim w hr h
  · obtain ⟨l, rfl⟩ : ∃ l : Nat, lim = (l : Int) := ⟨lim.toNat, by omega⟩
    have h1 := hr.1
    exact lengths_ok a len cap cs l w hr h0 (by omega) (by omega) (by omega) (by
      cases hA : Huff.allIn 1099511627776 cs with
      | true => rfl
      | false => exact absurd (.inr (.inr (.inr hA))) h)
end Go.Proofs.YthdblnfohbldcaaGreat.Pm
/-
  The statements' helpers over counts: bent, used, limited, kraft.
-/
namespace Go.Proofs.YthdblnfohbldcaaGreat.Pm
open Go.ChangeShapes Go.WideShapes Go.ChangeAt Go.RowKit
open Go.Proofs.YthdblnfohbldcaaGreat.Base
set_option linter.unusedVariables false
/-- A count that may be. -/
def bend (c : Int) : Int := if c.tmod 1073741824 < 0 then -(c.tmod 1073741824) else c.tmod 1073741824
theorem tmod_in (c : Int) : -1073741824 < c.tmod 1073741824 ∧ c.tmod 1073741824 < 1073741824 := by
  have h1 := Int.tmod_lt_of_pos c (b := 1073741824) (by decide)
  have h2 := Int.tmod_lt_of_pos (-c) (b := 1073741824) (by decide)
  rw [Int.neg_tmod] at h2
  exact ⟨by omega, h1⟩
theorem bend_in (c : Int) : 0 ≤ bend c ∧ bend c ≤ 1073741823 := by
  have := tmod_in c
  unfold bend
  split <;> omega
def bentOf (xs : List Int) : List Int := (xs.take 256).map bend
theorem bentOf_len (xs : List Int) : (bentOf xs).length = min 256 xs.length := by simp [bentOf]
theorem bentOf_in (xs : List Int) : Huff.allIn 1099511627776 (bentOf xs) = true := by
  unfold Huff.allIn bentOf
  rw [List.all_eq_true]
  intro x hx
  obtain ⟨c, _, rfl⟩ := List.mem_map.1 hx
  have := bend_in c
  rw [decide_eq_true_iff]; omega
def bentTo (xs : List Int) (k : Nat) : List Int := (xs.take k).map bend
theorem bentTo_add (xs : List Int) (k : Nat) (h : k < xs.length) : bentTo xs (k + 1) = bentTo xs k ++ [bend (xs.getD k 0)] := by
  unfold bentTo
  have e : xs.getD k 0 = xs[k] := by rw [List.getD_eq_getElem?_getD, List.getElem?_eq_getElem h]; rfl
  rw [List.take_succ_eq_append_getElem h, List.map_append, e]; rfl
theorem infoL : (Tryz.prog.info? 2).map (fun i => (i.zero, i.size, i.bytes)) = some (some (.int .i64 0), 1, 8) := by kernel_rfl
/-- An own row of counts. -/
def OwnJ (w : World) (base : Nat) (v : Value) (xs : List Int) : Prop := w.ownsRow base 2 1 v xs.length (ivals xs)
theorem OwnJ.rd {w : World} {base : Nat} {a : Option Addr} {n c : Nat} {xs : List Int} (h : OwnJ w base (.slice a n c) xs) (hl : xs.length ≤ 17592186044416) : RdI w a n xs ∧ (a = none → n = 0) := by
  rcases h.2 with ⟨h1, h2⟩ | ⟨g, cap, cur, h1, h2, h3, h4, h5, h6, h7⟩
  · simp only [Value.slice.injEq] at h1
    obtain ⟨rfl, rfl, rfl⟩ := h1
    exact ⟨⟨h2, by omega, fun h => absurd h (by omega)⟩, fun _ => rfl⟩
  · have hc := World.ownsRow.cells h (g := g) (by rw [h1]; rfl)
    have hlt := (World.ownsRow.lt h g (by rw [h1]; rfl)).2
    simp only [Value.slice.injEq] at h1
    obtain ⟨rfl, rfl, rfl⟩ := h1
    refine ⟨⟨rfl, hl, fun hp => ⟨g, 0, rfl, hlt, fun i hi => ?_⟩⟩, fun h => by cases h⟩
    have := hc i _ (getD_ivals xs i hi)
    rwa [Addr.add_mid] at this
theorem own_addJ {w : World} {base : Nat} {v : Value} {xs : List Int} {x : Int} (h : w.ownsRow base 2 1 v (xs.length + 1) (ivals xs ++ [.int .i64 x])) : OwnJ w base v (xs ++ [x]) := by
  unfold OwnJ
  rw [List.length_append]
  have e : ivals (xs ++ [x]) = ivals xs ++ [.int .i64 x] := by simp [ivals, VI]
  rw [e]
  exact h
theorem ownJ_shape {w : World} {base : Nat} {v : Value} {xs : List Int} (h : OwnJ w base v xs) : ∃ a c, v = .slice a xs.length c := by
  rcases h.2 with ⟨h1, h2⟩ | ⟨g, c, cur, h1, _⟩
  · exact ⟨none, 0, by rw [h1, h2]⟩
  · exact ⟨_, c, h1⟩
theorem pow_i (l P : Nat) (h : 2 ^ l = P) (hb : P ≤ 4294967296) : wrap64 ((2 : Int) ^ l) = (P : Int) := by
  have : (2 : Int) ^ l = (P : Int) := by rw [← h]; simp
  rw [this]; unfold wrap64; omega
/-- The share of a length, in parts of 1 / 2^15. -/
def share (x : Int) : Nat := if 0 < x ∧ x ≤ 15 then 2 ^ (15 - x.toNat) else 0
def kraftTo (xs : List Int) (k : Nat) : Nat := ((xs.take k).map share).sum
theorem kraftTo_add (xs : List Int) (k : Nat) (h : k < xs.length) : kraftTo xs (k + 1) = kraftTo xs k + share (xs.getD k 0) := by
  unfold kraftTo
  have e : xs.getD k 0 = xs[k] := by rw [List.getD_eq_getElem?_getD, List.getElem?_eq_getElem h]; rfl
  rw [List.take_succ_eq_append_getElem h, List.map_append, List.sum_append, e]; simp
theorem share_le (x : Int) : share x ≤ 16384 := by
  unfold share
  split
  · have : 2 ^ (15 - x.toNat) ≤ 2 ^ 14 := Nat.pow_le_pow_right (by decide) (by omega)
    omega
  · omega
theorem kraftTo_le (xs : List Int) : ∀ k, k ≤ xs.length → kraftTo xs k ≤ k * 16384
  | 0, _ => by simp [kraftTo]
  | k + 1, h => by
    rw [kraftTo_add xs k (by omega)]
    have := kraftTo_le xs k (by omega)
    have := share_le (xs.getD k 0)
    omega
end Go.Proofs.YthdblnfohbldcaaGreat.Pm
/-
  Lengths that are taken: they fit, and no others cost less.
-/
namespace Go.Proofs.YthdblnfohbldcaaGreat.Pm
open Go.Proofs.YthdblnfohbldcaaGreat.Base
set_option linter.unusedVariables false
theorem sumTo_list (G : Nat → Nat) : ∀ k, sumTo k G = ((List.range k).map G).sum
  | 0 => rfl
  | k + 1 => by simp only [sumTo]; rw [sumTo_list G k, List.range_succ, List.map_append, List.sum_append]; simp
theorem sum_rank (G : Nat → Nat) : ∀ os : List Nat, (os.map G).sum = sumTo os.length (fun r => G (os.getD r 0)) := by
  intro os
  rw [sumTo_list]
  congr 1
  apply List.ext_getElem
  · simp
  · intro i h1 h2
    have hi : i < os.length := by simpa using h1
    simp only [List.getElem_map, List.getElem_range]
    rw [List.getD_eq_getElem?_getD, List.getElem?_eq_getElem hi]; rfl
theorem sum_filter (G : Nat → Nat) (p : Nat → Bool) : ∀ l : List Nat, (∀ s ∈ l, p s = false → G s = 0) → (l.map G).sum = ((l.filter p).map G).sum
  | [], _ => rfl
  | x :: l, h => by
    have ih := sum_filter G p l (fun s hs => h s (by simp [hs]))
    rw [List.map_cons, List.sum_cons, List.filter_cons]
    cases hp : p x with
    | true => rw [if_pos rfl, List.map_cons, List.sum_cons, ih]
    | false => rw [if_neg (by decide), ih, h x (by simp) hp]; omega
/-- Sums over symbols, of which those without a count are nothing, are sums over ranks. -/
theorem sum_syms {cs : List Int} {os : List Nat} (h : Ordered cs os) (G : Nat → Nat) (h0 : ∀ s, s < cs.length → ¬ 0 < cs.getD s 0 → G s = 0) : sumTo cs.length G = sumTo os.length (fun r => G (os.getD r 0)) := by
  rw [sumTo_list, sum_filter G (fun s => decide (0 < cs.getD s 0)) (List.range cs.length) (fun s hs hp => h0 s (List.mem_range.1 hs) (of_decide_eq_false hp)), ← sum_rank]
  exact ((h.1.map G).sum_nat).symm
theorem cost_nat (cs ls : List Int) (C F : Nat → Nat) (k : Nat) (h : ∀ s, s < k → cs.getD s 0 = (C s : Int) ∧ ls.getD s 0 = (F s : Int)) : Huff.sumTo cs ls k = ((sumTo k (fun s => C s * F s) : Nat) : Int) := by
  induction k with
  | zero => rfl
  | succ k ih =>
    simp only [Huff.sumTo, sumTo]
    rw [ih (fun s hs => h s (by omega)), (h k (by omega)).1, (h k (by omega)).2]
    simp
theorem kraft_nat (xs : List Int) (k : Nat) (hk : k ≤ xs.length) : kraftTo xs k = sumTo k (fun s => share (xs.getD s 0)) := by
  induction k with
  | zero => rfl
  | succ k ih =>
    rw [kraftTo_add xs k (by omega), ih (by omega)]
    rfl
theorem lensBy_get (cs : List Int) (lim s : Nat) (h : s < cs.length) : (lensBy cs lim).getD s 0 = ((tally (takenBy cs lim) s : Nat) : Int) := by
  unfold lensBy
  rw [List.getD_eq_getElem?_getD, List.getElem?_map, List.getElem?_range h]; rfl
theorem lensBy_len (cs : List Int) (lim : Nat) : (lensBy cs lim).length = cs.length := by simp [lensBy]
theorem share_nat (n : Nat) (h1 : 0 < n) (h2 : n ≤ 15) : share (n : Int) = 2 ^ (15 - n) := by
  unfold share; rw [if_pos (by omega), Int.toNat_natCast]
theorem share_zero : share 0 = 0 := by unfold share; rw [if_neg (by omega)]
theorem pow_split (top n : Nat) (h : n ≤ top) (h2 : top ≤ 15) : 2 ^ (15 - n) = 2 ^ (15 - top) * 2 ^ (top - n) := by
  rw [← Nat.pow_add]; congr 1; omega
theorem sumTo_mul (x : Nat) (f : Nat → Nat) : ∀ k, sumTo k (fun r => x * f r) = x * sumTo k f
  | 0 => rfl
  | k + 1 => by simp only [sumTo]; rw [sumTo_mul x f k, Nat.mul_add]
/-- What is known of the lengths that are taken, by ranks. -/
structure Fine (cs : List Int) (top : Nat) (f : Nat → Nat) : Prop where
  get : ∀ r, r < (orderOf cs).length → tally (takenBy cs top) ((orderOf cs).getD r 0) = f r
  pos : ∀ r, r < (orderOf cs).length → 0 < f r
  le : ∀ r, r < (orderOf cs).length → f r ≤ top
  down : ∀ r q, r ≤ q → q < (orderOf cs).length → f q ≤ f r
  whole : 2 ≤ (orderOf cs).length → sumTo (orderOf cs).length (fun r => 2 ^ (top - f r)) = 2 ^ top
  least : ∀ l : Nat → Nat, (∀ r, r < (orderOf cs).length → 0 < l r ∧ l r ≤ top) → sumTo (orderOf cs).length (fun r => 2 ^ (top - l r)) ≤ 2 ^ top → sumTo (orderOf cs).length (fun r => wt (thingsOf cs (orderOf cs)) r * f r) ≤ sumTo (orderOf cs).length (fun r => wt (thingsOf cs (orderOf cs)) r * l r)
theorem fine (cs : List Int) (hl : cs.length ≤ 256) (top : Nat) (h1 : 1 ≤ top) (hn : (orderOf cs).length ≤ 2 ^ top) : Fine cs top (fun r => tally (takenBy cs top) ((orderOf cs).getD r 0)) := by
  have T := things_ok (orderOf_ok cs) hl
  have hlen := things_len cs (orderOf cs)
  by_cases h2 : (orderOf cs).length < 2
  · have e : takenBy cs top = thingsOf cs (orderOf cs) := by unfold takenBy takenOf; rw [if_pos (by rw [hlen]; exact h2)]
    have hone : ∀ r, r < (orderOf cs).length → tally (takenBy cs top) ((orderOf cs).getD r 0) = 1 := by
      intro r hr
      have := T.one (thingsOf cs (orderOf cs)).length r (Nat.le_refl _) (by rw [hlen]; exact hr)
      rw [List.take_length, if_pos (by rw [hlen]; exact hr)] at this
      rw [e]; exact this
    refine ⟨fun _ _ => rfl, fun r hr => by rw [hone r hr]; omega, fun r hr => by rw [hone r hr]; exact h1, fun r q hrq hq => by rw [hone r (by omega), hone q hq]; omega, fun h => by omega, fun l hl _ => ?_⟩
    refine sumTo_le fun r hr => ?_
    rw [hone r hr]
    exact Nat.mul_le_mul_left _ (hl r hr).1
  · have hk : 2 ≤ (thingsOf cs (orderOf cs)).length := by rw [hlen]; omega
    have e : takenBy cs top = (row (thingsOf cs (orderOf cs)) (top - 1)).take (2 * (thingsOf cs (orderOf cs)).length - 2) := by
      unfold takenBy takenOf; rw [if_neg (by rw [hlen]; exact h2)]; rfl
    have hen := row_enough (thingsOf cs (orderOf cs)) hk (top - 1) (by rw [hlen, show top - 1 + 1 = top by omega]; exact hn)
    rw [hlen] at e hen
    obtain ⟨A, G⟩ := good T (top - 1) _ hen
    rw [← e] at G
    have ht : top - 1 + 1 = top := by omega
    have hkr := G.kraft
    rw [hlen, ht] at hkr
    have p2 : (2 * (orderOf cs).length - 2) * 2 ^ (top - 1) + 2 ^ top = (orderOf cs).length * 2 ^ top := by
      have : 2 ^ top = 2 * 2 ^ (top - 1) := by rw [← Nat.pow_succ', Nat.succ_eq_add_one, ht]
      rw [this, Nat.mul_left_comm, ← Nat.mul_assoc, ← Nat.add_mul]
      congr 1
      omega
    have hw : sumTo (orderOf cs).length (fun r => 2 ^ (top - tally (takenBy cs top) ((orderOf cs).getD r 0))) = 2 ^ top := by
      omega
    have hA : A = (orderOf cs).length := by
      refine Nat.le_antisymm (by have := G.le; rwa [hlen] at this) (Nat.le_of_not_lt fun hlt => ?_)
      have h0 : tally (takenBy cs top) ((orderOf cs).getD A 0) = 0 := by
        have := (G.pos A (by rw [hlen]; exact hlt))
        omega
      have hle : 2 ^ (top - tally (takenBy cs top) ((orderOf cs).getD A 0)) + 1 ≤ sumTo (orderOf cs).length (fun r => 2 ^ (top - tally (takenBy cs top) ((orderOf cs).getD r 0))) := by
        have hany : ∀ (F : Nat → Nat) (k a : Nat), a < k → 2 ≤ k → (∀ r, 1 ≤ F r) → F a + 1 ≤ sumTo k F := by
          intro F k a ha hk2 hF
          have hb : ∀ (m : Nat), m ≤ sumTo m F := by
            intro m
            induction m with
            | zero => omega
            | succ m ih => simp only [sumTo]; have := hF m; omega
          have hc : ∀ (m a : Nat), a < m → F a + (m - 1) ≤ sumTo m F := by
            intro m
            induction m with
            | zero => intro a h; omega
            | succ m ih =>
              intro a h
              simp only [sumTo]
              by_cases e : a = m
              · subst e; have := hb a; omega
              · have := ih a (by omega); have := hF m; omega
          have := hc k a ha
          omega
        exact hany (fun r => 2 ^ (top - tally (takenBy cs top) ((orderOf cs).getD r 0))) _ A hlt (by omega) (fun r => Nat.two_pow_pos _)
      rw [hw, h0, Nat.sub_zero] at hle
      omega
    refine ⟨fun _ _ => rfl, fun r hr => (G.pos r (by rw [hlen]; exact hr)).2 (by omega), fun r hr => by have := G.top r (by rw [hlen]; exact hr); omega, fun r q hrq hq => G.down r q hrq (by rw [hlen]; exact hq), fun _ => hw, fun l hl hs => ?_⟩
    have hc := G.cost
    rw [hlen] at hc
    rw [← hc]
    have := least T (top - 1) (2 * (orderOf cs).length - 2) l (fun r hr => by have := hl r (by rwa [hlen] at hr); omega) (by rw [hlen, ht]; omega)
    rw [hlen] at this
    exact this
end Go.Proofs.YthdblnfohbldcaaGreat.Pm
/-
  Lengths that are taken, symbol by symbol.
-/
namespace Go.Proofs.YthdblnfohbldcaaGreat.Pm
open Go.Proofs.YthdblnfohbldcaaGreat.Base
set_option linter.unusedVariables false
theorem rank_of {cs : List Int} {s : Nat} (h1 : s < cs.length) (h2 : 0 < cs.getD s 0) : ∃ r, r < (orderOf cs).length ∧ (orderOf cs).getD r 0 = s := by
  have hm := (ordered_mem (orderOf_ok cs) s).2 ⟨h1, h2⟩
  obtain ⟨r, hr, he⟩ := List.getElem_of_mem hm
  exact ⟨r, hr, by rw [List.getD_eq_getElem?_getD, List.getElem?_eq_getElem hr]; exact he⟩
theorem rank_in {cs : List Int} {r : Nat} (h : r < (orderOf cs).length) : (orderOf cs).getD r 0 < cs.length ∧ 0 < cs.getD ((orderOf cs).getD r 0) 0 := by
  refine (ordered_mem (orderOf_ok cs) _).1 ?_
  rw [List.getD_eq_getElem?_getD, List.getElem?_eq_getElem h]; exact List.getElem_mem _
theorem tally_none {cs : List Int} (hl : cs.length ≤ 256) {s : Nat} (h1 : s < cs.length) (h2 : ¬ 0 < cs.getD s 0) (top : Nat) : tally (takenBy cs top) s = 0 := by
  have h0 : tally (thingsOf cs (orderOf cs)) s = 0 := by
    rw [things_tally cs s (by omega)]
    exact List.count_eq_zero_of_not_mem (fun hm => h2 ((ordered_mem (orderOf_ok cs) s).1 hm).2)
  unfold takenBy takenOf
  split
  · exact h0
  · have h3 := row_tally (things_wide cs (orderOf cs)) s (top - 1)
    rw [h0, Nat.mul_zero] at h3
    have h4 := tally_take_le s (row (thingsOf cs (orderOf cs)) (top - 1)) (2 * (thingsOf cs (orderOf cs)).length - 2)
    unfold cut
    omega
theorem wt_things (cs : List Int) (os : List Nat) (r : Nat) (h : r < os.length) : wt (thingsOf cs os) r = (cs.getD (os.getD r 0) 0).toNat := by
  unfold wt thingsOf
  rw [List.getD_eq_getElem?_getD, List.getElem?_map, List.getElem?_eq_getElem h, List.getD_eq_getElem?_getD (l := os), List.getElem?_eq_getElem h]; rfl
structure Lens (cs : List Int) (top : Nat) : Prop where
  each : ∀ s, s < cs.length → 0 ≤ (lensBy cs top).getD s 0 ∧ (lensBy cs top).getD s 0 ≤ top ∧ (0 < (lensBy cs top).getD s 0 ↔ 0 < cs.getD s 0)
  all : Huff.allIn 15 (lensBy cs top) = true
  right : kraftTo (lensBy cs top) cs.length ≤ 32768
  whole : 2 ≤ (orderOf cs).length → kraftTo (lensBy cs top) cs.length = 32768
  one : (orderOf cs).length < 2 → kraftTo (lensBy cs top) cs.length = (orderOf cs).length * 16384
  down : ∀ s t, s < cs.length → t < cs.length → cs.getD t 0 < cs.getD s 0 → 0 < cs.getD t 0 → (lensBy cs top).getD s 0 ≤ (lensBy cs top).getD t 0
  least : ∀ mine : List Int, (∀ s, s < cs.length → (0 < cs.getD s 0 → 1 ≤ mine.getD s 0 ∧ mine.getD s 0 ≤ top) ∧ (¬ 0 < cs.getD s 0 → mine.getD s 0 = 0)) → mine.length = cs.length → kraftTo mine cs.length ≤ 32768 → Huff.sumTo cs (lensBy cs top) cs.length ≤ Huff.sumTo cs mine cs.length
theorem kraft_rank {cs xs : List Int} {top : Nat} (h15 : top ≤ 15) (hx : xs.length = cs.length) (f : Nat → Nat) (hp : ∀ r, r < (orderOf cs).length → xs.getD ((orderOf cs).getD r 0) 0 = (f r : Int) ∧ 0 < f r ∧ f r ≤ top) (h0 : ∀ s, s < cs.length → ¬ 0 < cs.getD s 0 → xs.getD s 0 = 0) :
    kraftTo xs cs.length = 2 ^ (15 - top) * sumTo (orderOf cs).length (fun r => 2 ^ (top - f r)) := by
  rw [kraft_nat xs cs.length (by omega), sum_syms (orderOf_ok cs) _ (fun s h1 h2 => by rw [h0 s h1 h2, share_zero]), ← sumTo_mul]
  refine sumTo_congr fun r hr => ?_
  obtain ⟨e1, e2, e3⟩ := hp r hr
  rw [e1, share_nat _ e2 (by omega), pow_split top (f r) e3 h15]
theorem lens_ok (cs : List Int) (hl : cs.length ≤ 256) (hc : Huff.allIn 1099511627776 cs = true) (top : Nat) (h1 : 1 ≤ top) (h15 : top ≤ 15) (hn : (orderOf cs).length ≤ 2 ^ top) : Lens cs top := by
  have F := fine cs hl top h1 hn
  have hin := fun s h => Huff.allIn_get hc s h
  have p15 : 2 ^ (15 - top) * 2 ^ top = 32768 := by rw [← Nat.pow_add, show 15 - top + top = 15 by omega]
  have each : ∀ s, s < cs.length → 0 ≤ (lensBy cs top).getD s 0 ∧ (lensBy cs top).getD s 0 ≤ top ∧ (0 < (lensBy cs top).getD s 0 ↔ 0 < cs.getD s 0) := by
    intro s hs
    rw [lensBy_get cs top s hs]
    by_cases hp : 0 < cs.getD s 0
    · obtain ⟨r, hr, rfl⟩ := rank_of hs hp
      have a1 := F.pos r hr
      have a2 := F.le r hr
      refine ⟨by omega, by omega, ⟨fun _ => hp, fun _ => by omega⟩⟩
    · rw [tally_none hl hs hp]
      exact ⟨by simp, by omega, ⟨fun h => by simp at h, fun h => absurd h hp⟩⟩
  have hk : kraftTo (lensBy cs top) cs.length = 2 ^ (15 - top) * sumTo (orderOf cs).length (fun r => 2 ^ (top - tally (takenBy cs top) ((orderOf cs).getD r 0))) :=
    kraft_rank h15 (lensBy_len cs top) _ (fun r hr => ⟨lensBy_get cs top _ (rank_in hr).1, F.pos r hr, F.le r hr⟩) (fun s h2 h3 => by rw [lensBy_get cs top s h2, tally_none hl h2 h3]; rfl)
  have whole : 2 ≤ (orderOf cs).length → kraftTo (lensBy cs top) cs.length = 32768 := fun h => by rw [hk, F.whole h, p15]
  have one : (orderOf cs).length < 2 → kraftTo (lensBy cs top) cs.length = (orderOf cs).length * 16384 := by
    intro h
    have e : takenBy cs top = thingsOf cs (orderOf cs) := by unfold takenBy takenOf; rw [if_pos (by rw [things_len]; exact h)]
    have T := things_ok (orderOf_ok cs) hl
    have hone : ∀ r, r < (orderOf cs).length → tally (takenBy cs top) ((orderOf cs).getD r 0) = 1 := by
      intro r hr
      have := T.one (thingsOf cs (orderOf cs)).length r (Nat.le_refl _) (by rw [things_len]; exact hr)
      rw [List.take_length, if_pos (by rw [things_len]; exact hr)] at this
      rw [e]; exact this
    rw [hk, sumTo_congr (g := fun _ => 2 ^ (top - 1)) (fun r hr => by rw [hone r hr]), sumTo_one, Nat.mul_left_comm, ← Nat.pow_add, show 15 - top + (top - 1) = 14 by omega]
  refine ⟨each, ?_, ?_, whole, one, ?_, ?_⟩
  · unfold Huff.allIn
    rw [List.all_eq_true]
    intro x hx
    obtain ⟨s, hs, rfl⟩ := List.getElem_of_mem hx
    have hs' : s < cs.length := by rwa [lensBy_len] at hs
    have := each s hs'
    rw [List.getD_eq_getElem?_getD, List.getElem?_eq_getElem hs] at this
    simp only [Option.getD_some] at this
    rw [decide_eq_true_iff]; omega
  · by_cases h : 2 ≤ (orderOf cs).length
    · rw [whole h]; omega
    · rw [one (by omega)]; omega
  · intro s t hs ht hlt hpt
    obtain ⟨r, hr, er⟩ := rank_of hs (by omega)
    obtain ⟨q, hq, eq⟩ := rank_of ht hpt
    rw [lensBy_get cs top s hs, lensBy_get cs top t ht, ← er, ← eq]
    have hrq : q ≤ r := Nat.le_of_not_lt fun hlt2 => by
      have hp := (orderOf_ok cs).2
      have := List.pairwise_iff_getElem.1 hp r q hr hq hlt2
      unfold aheadOf at this
      rw [List.getD_eq_getElem?_getD, List.getElem?_eq_getElem hr] at er
      rw [List.getD_eq_getElem?_getD, List.getElem?_eq_getElem hq] at eq
      simp only [Option.getD_some] at er eq
      rw [er, eq] at this
      omega
    have := F.down q r hrq hr
    omega
  · intro mine hm hml hkm
    have hpos : ∀ r, r < (orderOf cs).length → mine.getD ((orderOf cs).getD r 0) 0 = (((mine.getD ((orderOf cs).getD r 0) 0).toNat : Nat) : Int) ∧ 0 < (mine.getD ((orderOf cs).getD r 0) 0).toNat ∧ (mine.getD ((orderOf cs).getD r 0) 0).toNat ≤ top := by
      intro r hr
      obtain ⟨a1, a2⟩ := rank_in hr
      obtain ⟨b1, b2⟩ := (hm _ a1).1 a2
      omega
    rw [kraft_rank h15 hml (fun r => (mine.getD ((orderOf cs).getD r 0) 0).toNat) hpos (fun s h2 h3 => (hm s h2).2 h3)] at hkm
    have hs : sumTo (orderOf cs).length (fun r => 2 ^ (top - (mine.getD ((orderOf cs).getD r 0) 0).toNat)) ≤ 2 ^ top := by
      rw [← p15] at hkm
      exact Nat.le_of_mul_le_mul_left hkm (Nat.two_pow_pos _)
    have hlst := F.least (fun r => (mine.getD ((orderOf cs).getD r 0) 0).toNat) (fun r hr => ⟨(hpos r hr).2.1, (hpos r hr).2.2⟩) hs
    rw [cost_nat cs (lensBy cs top) (fun s => (cs.getD s 0).toNat) (fun s => tally (takenBy cs top) s) cs.length (fun s h2 => ⟨by have := (hin s h2).1; omega, lensBy_get cs top s h2⟩),
      cost_nat cs mine (fun s => (cs.getD s 0).toNat) (fun s => (mine.getD s 0).toNat) cs.length (fun s h2 => ⟨by have := (hin s h2).1; omega, by
        by_cases hp : 0 < cs.getD s 0
        · have := (hm s h2).1 hp; omega
        · have := (hm s h2).2 hp; omega⟩),
      sum_syms (orderOf_ok cs) (fun s => (cs.getD s 0).toNat * tally (takenBy cs top) s) (fun s h2 h3 => by rw [show (cs.getD s 0).toNat = 0 by omega, Nat.zero_mul]),
      sum_syms (orderOf_ok cs) (fun s => (cs.getD s 0).toNat * (mine.getD s 0).toNat) (fun s h2 h3 => by rw [show (cs.getD s 0).toNat = 0 by omega, Nat.zero_mul])]
    have e1 : sumTo (orderOf cs).length (fun r => wt (thingsOf cs (orderOf cs)) r * tally (takenBy cs top) ((orderOf cs).getD r 0)) = sumTo (orderOf cs).length (fun r => (cs.getD ((orderOf cs).getD r 0) 0).toNat * tally (takenBy cs top) ((orderOf cs).getD r 0)) := sumTo_congr fun r hr => by rw [wt_things cs _ r hr]
    have e2 : sumTo (orderOf cs).length (fun r => wt (thingsOf cs (orderOf cs)) r * (mine.getD ((orderOf cs).getD r 0) 0).toNat) = sumTo (orderOf cs).length (fun r => (cs.getD ((orderOf cs).getD r 0) 0).toNat * (mine.getD ((orderOf cs).getD r 0) 0).toNat) := sumTo_congr fun r hr => by rw [wt_things cs _ r hr]
    rw [← e1, ← e2]
    exact Int.ofNat_le.2 hlst
end Go.Proofs.YthdblnfohbldcaaGreat.Pm
