/-
  An entry read off what is left of a cursor; what is written is read back.
-/
import Derived.Test.YthdblnfohbldcaaGreatCzTileJ
import Derived.Test.YthdblnfohbldcaaGreatLzC4J
import Derived.Test.YthdblnfohbldcaaGreatBlModJ
namespace Go.Proofs.YthdblnfohbldcaaGreat.Bl
open Go.Proofs.YthdblnfohbldcaaGreat.Base Go.Proofs.YthdblnfohbldcaaGreat.Nums Go.Proofs.YthdblnfohbldcaaGreat.Curs
open Go.Proofs.YthdblnfohbldcaaGreat.Fa (St numS fixS)
set_option linter.unusedVariables false
/-- Bytes are read. -/
def takS (s : St) (n : Nat) : List (BitVec 8) × St :=
  match s with
  | none => ([], none)
  | some L => if n ≤ L.length then (L.take n, some (L.drop n)) else ([], none)
/-- What is left where the cursor is failed but for c. -/
def okS (c : Bool) (s : St) : St := if c then s else none
/-- The entry that comes next behind the key k0, and what is left. -/
def nextW (k0 : ByteArray) (s : St) : (ByteArray × ByteArray) × St :=
  let a := numS s (k0.size : Int)
  let b := numS a.2 ((1024 : Int) - (a.1 : Int))
  let c := numS b.2 1024
  let d := takS c.2 b.1
  let e := takS d.2 c.1
  let key := k0.extract 0 a.1 ++ str d.1
  ((key, str e.1), okS (common (txt k0) (txt key) == a.1) e.2)
theorem numS_put (v : Nat) (rest : List (BitVec 8)) (most : Int) (hv : v < 9223372036854775808) (h : (v : Int) ≤ most) : numS (some (put v ++ rest)) most = (v, some rest) := by
  unfold numS
  simp only
  rw [atMost_put v rest most hv h]
  simp
theorem takS_app (a rest : List (BitVec 8)) : takS (some (a ++ rest)) a.length = (a, some rest) := by
  unfold takS
  simp
theorem txt_extract (s : ByteArray) (a b : Nat) : txt (s.extract a b) = ((txt s).drop a).take (b - a) := by
  unfold txt
  rw [ByteArray.data_extract, Array.toList_extract]
theorem txt_append (a b : ByteArray) : txt (a ++ b) = txt a ++ txt b := by
  unfold txt
  rw [ByteArray.data_append, Array.toList_append]
theorem txt_inj {a b : ByteArray} (h : txt a = txt b) : a = b := by
  unfold txt at h
  exact ByteArray.ext (Array.toList_inj.1 h)
theorem str_btx (s : ByteArray) : str (btx s) = s := str_txt s
theorem key_back (k0 key : ByteArray) : k0.extract 0 (common (txt k0) (txt key)) ++ key.extract (common (txt k0) (txt key)) key.size = key := by
  apply txt_inj
  rw [txt_append, txt_extract, txt_extract]
  have h := common_take (txt k0) (txt key)
  have hl := length_txt key
  have hc := (common_sizes k0 key).2
  simp only [List.drop_zero, Nat.sub_zero]
  rw [h]
  rw [List.take_of_length_le (l := (txt key).drop _) (by rw [List.length_drop]; omega)]
  exact List.take_append_drop _ _
theorem next_read (k0 key value : ByteArray) (rest : List (BitVec 8)) (hk0 : k0.size ≤ 1024) (hk : key.size ≤ 1024) (hv : value.size ≤ 1024) :
    nextW k0 (some (entL (common (txt k0) (txt key)) key value ++ rest)) = ((key, value), some rest) := by
  obtain ⟨c, hc⟩ : ∃ c, common (txt k0) (txt key) = c := ⟨_, rfl⟩
  have h1 := (common_sizes k0 key).1
  have h2 := (common_sizes k0 key).2
  have hkb := key_back k0 key
  rw [hc] at h1 h2 hkb
  rw [hc]
  have e1 : entL c key value ++ rest = put c ++ (put (key.size - c) ++ (put value.size ++ (btx (key.extract c key.size) ++ (btx value ++ rest)))) := by
    unfold entL; simp only [List.append_assoc]
  rw [e1]
  have hx : (btx (key.extract c key.size)).length = key.size - c := by rw [btx_len, ByteArray.size_extract]; omega
  have t1 := takS_app (btx (key.extract c key.size)) (btx value ++ rest)
  rw [hx] at t1
  have t2 := takS_app (btx value) rest
  rw [btx_len] at t2
  unfold nextW
  rw [numS_put c _ _ (by omega) (by omega)]
  simp only
  rw [numS_put (key.size - c) _ _ (by omega) (by omega)]
  simp only
  rw [numS_put value.size _ _ (by omega) (by omega)]
  simp only
  rw [t1]
  simp only
  rw [t2]
  simp only
  rw [str_btx, str_btx, hkb, hc]
  simp [okS]
/-- So many entries. -/
def entsW : Nat → ByteArray → St → List (ByteArray × ByteArray) × St
  | 0, _, s => ([], s)
  | m + 1, k, s => ((nextW k s).1 :: (entsW m (nextW k s).1.1 (nextW k s).2).1, (entsW m (nextW k s).1.1 (nextW k s).2).2)
/-- Entries as they stand in the raw bytes, behind the key k0. -/
def encG : ByteArray → List (ByteArray × ByteArray) → List (BitVec 8)
  | _, [] => []
  | k0, e :: l => entL (common (txt k0) (txt e.1)) e.1 e.2 ++ encG e.1 l
def Small (l : List (ByteArray × ByteArray)) : Prop := ∀ e ∈ l, e.1.size ≤ 1024 ∧ e.2.size ≤ 1024
theorem ents_read : ∀ (l : List (ByteArray × ByteArray)) (k0 : ByteArray) (rest : List (BitVec 8)), k0.size ≤ 1024 → Small l → entsW l.length k0 (some (encG k0 l ++ rest)) = (l, some rest)
  | [], k0, rest, _, _ => rfl
  | e :: l, k0, rest, h0, hs => by
    have he := hs e (List.mem_cons_self ..)
    have h := next_read k0 e.1 e.2 (encG e.1 l ++ rest) h0 he.1 he.2
    have hi := ents_read l e.1 rest he.1 (fun x hx => hs x (List.mem_cons_of_mem _ hx))
    rw [List.length_cons]
    unfold encG
    rw [List.append_assoc]
    unfold entsW
    rw [h]
    simp only
    rw [hi]
theorem ents_len : ∀ (m : Nat) (k : ByteArray) (s : St), (entsW m k s).1.length = m
  | 0, _, _ => rfl
  | m + 1, k, s => by unfold entsW; simp only [List.length_cons]; rw [ents_len m]
/-- What is left behind so many entries, and the last key. -/
def leftW : Nat → ByteArray → St → ByteArray × St
  | 0, k, s => (k, s)
  | m + 1, k, s => leftW m (nextW k s).1.1 (nextW k s).2
theorem left_snoc : ∀ (m : Nat) (k : ByteArray) (s : St), leftW (m + 1) k s = ((nextW (leftW m k s).1 (leftW m k s).2).1.1, (nextW (leftW m k s).1 (leftW m k s).2).2)
  | 0, k, s => rfl
  | m + 1, k, s => by
    show leftW (m + 1) (nextW k s).1.1 (nextW k s).2 = _
    rw [left_snoc m]
    rfl
theorem ents_get : ∀ (m i : Nat) (k : ByteArray) (s : St), i < m → (entsW m k s).1[i]? = some (nextW (leftW i k s).1 (leftW i k s).2).1
  | 0, i, k, s, h => absurd h (by omega)
  | m + 1, 0, k, s, _ => rfl
  | m + 1, i + 1, k, s, h => by
    show (entsW m (nextW k s).1.1 (nextW k s).2).1[i]? = _
    rw [ents_get m i _ _ (by omega)]
    rfl
theorem ents_left : ∀ (m : Nat) (k : ByteArray) (s : St), (entsW m k s).2 = (leftW m k s).2
  | 0, _, _ => rfl
  | m + 1, k, s => by
    show (entsW m (nextW k s).1.1 (nextW k s).2).2 = _
    rw [ents_left m]
    rfl
theorem str_size (bs : List (BitVec 8)) : (str bs).size = bs.length := by simp [str, ByteArray.size]
theorem numS_le' (s : St) (k : Int) (hk : 0 ≤ k) : ((numS s k).1 : Int) ≤ k := by
  cases s with
  | none => simpa [numS] using hk
  | some L =>
    unfold numS
    simp only
    split
    · unfold atMost
      split
      · simpa using hk
      · split
        · simpa using hk
        · omega
    · simpa using hk
theorem takS_le (s : St) (n : Nat) : (takS s n).1.length ≤ n := by
  cases s with
  | none => exact Nat.zero_le _
  | some L =>
    unfold takS
    simp only
    split
    · rw [List.length_take]; omega
    · exact Nat.zero_le _
/-- Keys and values that are read are within their bounds. -/
theorem next_small (k0 : ByteArray) (s : St) (h0 : k0.size ≤ 1024) : (nextW k0 s).1.1.size ≤ 1024 ∧ (nextW k0 s).1.2.size ≤ 1024 := by
  unfold nextW
  simp only
  have h1 := numS_le' s (k0.size : Int) (by omega)
  obtain ⟨a, s1, ha⟩ : ∃ a s1, numS s (k0.size : Int) = (a, s1) := ⟨_, _, rfl⟩
  rw [ha] at h1 ⊢
  simp only at h1 ⊢
  have h2 := numS_le' s1 ((1024 : Int) - a) (by omega)
  obtain ⟨b, s2, hb⟩ : ∃ b s2, numS s1 ((1024 : Int) - a) = (b, s2) := ⟨_, _, rfl⟩
  rw [hb] at h2 ⊢
  simp only at h2 ⊢
  have h3 := numS_le' s2 1024 (by omega)
  obtain ⟨c, s3, hc⟩ : ∃ c s3, numS s2 1024 = (c, s3) := ⟨_, _, rfl⟩
  rw [hc] at h3 ⊢
  simp only at h3 ⊢
  have h4 := takS_le s3 b
  obtain ⟨d, s4, hd⟩ : ∃ d s4, takS s3 b = (d, s4) := ⟨_, _, rfl⟩
  rw [hd] at h4 ⊢
  simp only at h4 ⊢
  have h5 := takS_le s4 c
  rw [ByteArray.size_append, ByteArray.size_extract, str_size, str_size]
  constructor <;> omega
theorem left_small : ∀ (m : Nat) (k : ByteArray) (s : St), k.size ≤ 1024 → (leftW m k s).1.size ≤ 1024
  | 0, _, _, h => h
  | m + 1, k, s, h => left_small m _ _ (next_small k s h).1
end Go.Proofs.YthdblnfohbldcaaGreat.Bl
/-
  A cursor that may have failed: Take, Fail, End, Rest.
-/
namespace Go.Proofs.YthdblnfohbldcaaGreat.Bl
open Go.ChangeShapes Go.WideShapes Go.ChangeAt Go.RowKit
open Go.Proofs.YthdblnfohbldcaaGreat.Base Go.Proofs.YthdblnfohbldcaaGreat.Nums Go.Proofs.YthdblnfohbldcaaGreat.Curs
open Go.Proofs.YthdblnfohbldcaaGreat.Fa (St Cst numS fixS)
set_option linter.unusedVariables false
theorem take_st (g : Nat) (s : St) (n : Nat) (w : World) (h : Cst w g s) :
    Calls Tryz.prog 103 #[.pointer (some ⟨g, 0, none⟩), .int .i64 (n : Int)] w fun e w' => ∃ v, e = .returned v ∧ Own w' w.heap.size v (takS s n).1 ∧ w.grownBy w' (some g) ∧ Cst w' g (takS s n).2 := by
  cases s with
  | none =>
    obtain ⟨p, er, hr, he⟩ := h
    refine (take_dead g _ p er n w hr he).mono ?_
    rintro e w' ⟨rfl, hb⟩
    exact ⟨_, rfl, own_none _ _, grown_any (below_grown hb) _, ⟨p, er, hr.grown (below_grown hb) (by simp), he⟩⟩
  | some L =>
    obtain ⟨p, hc⟩ := h
    refine (take_any g p L n w hc).mono ?_
    rintro e w' ⟨⟨v, rfl, ho⟩, hg, hif⟩
    by_cases hl : n ≤ L.length
    · have ht : takeAt L (n : Int) = (n, 0) := by unfold takeAt; rw [if_neg (by omega), if_neg (by omega), Int.toNat_natCast]
      have ht2 : takS (some L) n = (L.take n, some (L.drop n)) := by unfold takS; simp only; rw [if_pos hl]
      rw [ht] at ho hif
      rw [if_pos rfl] at hif
      rw [ht2]
      exact ⟨v, rfl, ho, hg, ⟨_, hif⟩⟩
    · have ht : takeAt L (n : Int) = (0, 20) := by unfold takeAt; rw [if_neg (by omega), if_pos (by omega)]
      have ht2 : takS (some L) n = ([], none) := by unfold takS; simp only; rw [if_neg hl]
      rw [ht] at ho hif
      rw [if_neg (by decide)] at hif
      rw [ht2]
      exact ⟨v, rfl, ho, hg, ⟨_, _, hif.1, by decide⟩⟩
theorem fail_st (g : Nat) (s : St) (w : World) (h : Cst w g s) :
    Calls Tryz.prog 104 #[.pointer (some ⟨g, 0, none⟩), .int .i64 60] w fun e w' => e = .returned (.tuple #[]) ∧ w.grownBy w' (some g) ∧ Cst w' g none := by
  cases s with
  | none =>
    obtain ⟨p, er, hr, he⟩ := h
    refine (fail_none g _ p er 60 w hr (.inl he)).mono ?_
    rintro e w' ⟨rfl, rfl⟩
    exact ⟨rfl, World.grownBy.refl _ _, ⟨p, er, hr, he⟩⟩
  | some L =>
    obtain ⟨p, hc⟩ := h
    obtain ⟨v, q, hr⟩ := Fa.Cur.row hc
    refine (fail_any g v q 60 w hr (by decide)).mono ?_
    rintro e w' ⟨rfl, h1, h2⟩
    exact ⟨rfl, h2, ⟨q, 60, h1, by decide⟩⟩
theorem end_st (g : Nat) (s : St) (w : World) (h : Cst w g s) :
    Calls Tryz.prog 85 #[.pointer (some ⟨g, 0, none⟩)] w fun e w' => (∃ er p : Int, e = .returned (.agg #[.int .i64 er, .int .i64 p]) ∧ ((er != 0) = !decide (s = some []))) ∧ Below w.heap.size w w' := by
  cases s with
  | none =>
    obtain ⟨p, er, hr, he⟩ := h
    refine (end_none g p er w hr (fun e => absurd e he)).mono ?_
    rintro e w' ⟨rfl, hb⟩
    exact ⟨⟨er, p, rfl, by rw [decide_eq_false (by simp)]; simpa using he⟩, hb⟩
  | some L =>
    obtain ⟨p, hc⟩ := h
    refine (end_any g p L w hc).mono ?_
    rintro e w' ⟨rfl, hb⟩
    by_cases h0 : L.length = 0
    · have hL : L = [] := List.length_eq_zero_iff.1 h0
      exact ⟨⟨0, 0, by rw [if_pos h0], by rw [decide_eq_true (by rw [hL])]; rfl⟩, hb⟩
    · have hL : ¬ (some L = some []) := fun e => h0 (by cases e; rfl)
      exact ⟨⟨22, p, by rw [if_neg h0], by rw [decide_eq_false hL]; rfl⟩, hb⟩
theorem field_spot (x y : Int) : ∀ W : World, (Instr.field 139 (.agg #[.int .i64 x, .int .i64 y]) 0).run Tryz.prog W = .ok (.int .i64 x) W := fun _ => by kernel_rfl
def restS : St → Nat
  | none => 0
  | some L => L.length
theorem rest_st (g : Nat) (s : St) (w : World) (h : Cst w g s) :
    Calls Tryz.prog 114 #[.pointer (some ⟨g, 0, none⟩)] w fun e w' => e = .returned (.int .i64 (restS s : Nat)) ∧ w' = w := by
  cases s with
  | none =>
    obtain ⟨p, er, hr, he⟩ := h
    exact rest_none g p er w hr
  | some L =>
    obtain ⟨p, hc⟩ := h
    exact rest_any g p L w hc
theorem conv_none0 (W : World) : (convert 24 9 (.slice none 0 0)).run Tryz.prog W = .ok (.string ⟨#[]⟩) W := by kernel_rfl
/-- A text made of bytes of the call's own. -/
theorem conv_own {w : World} {base n c : Nat} {a : Option Addr} {bs : List (BitVec 8)} (h : Own w base (.slice a n c) bs) (hl : bs.length ≤ 140737488355328) : (convert 24 9 (.slice a n c)).run Tryz.prog w = .ok (.string (str bs)) w := by
  cases a with
  | none =>
    obtain ⟨rfl, rfl⟩ := Got.nil h rfl
    have : bs = [] := List.length_eq_zero_iff.1 (Got.cap h).2.symm
    subst this
    exact conv_none0 w
  | some x => exact conv_str (Got.rd h hl)
end Go.Proofs.YthdblnfohbldcaaGreat.Bl
/-
  A cursor whose bytes lie below a bound.
-/
namespace Go.Proofs.YthdblnfohbldcaaGreat.Bl
open Go.ChangeShapes Go.WideShapes Go.ChangeAt Go.RowKit
open Go.Proofs.YthdblnfohbldcaaGreat.Base Go.Proofs.YthdblnfohbldcaaGreat.Nums Go.Proofs.YthdblnfohbldcaaGreat.Curs
open Go.Proofs.YthdblnfohbldcaaGreat.Fa (St Cst fixS fix_st)
set_option linter.unusedVariables false
set_option maxHeartbeats 1000000 in
set_option maxRecDepth 100000 in
theorem newC_any (a : Option Addr) (n c : Nat) (L : List (BitVec 8)) (w : World) (hr : Rd w a n L) (hn : n ≤ c) (hm : n ≤ 140737488355328) (hz : a = none → n = 0 ∧ c = 0) :
    Calls Tryz.prog 83 #[.slice a n c] w fun e w' => ∃ g, e = .returned (.pointer (some ⟨g, 0, none⟩)) ∧ w.heap.size ≤ g ∧ g < w'.heap.size ∧ CurD w' g w'.heap.size L 0 ∧ (∀ a n c p e, Row w' g (.slice (some a) n c) p e → w.heap.size ≤ a.block) ∧ Below w.heap.size w w' := by
  have R := hide hr
  have HL := hide hr.1
  clear hr
  obtain ⟨i0, hi, hz0, hz1, hz2⟩ := info_parts info8
  go_enter Tryz.func83, Tryz.ntmps83
  go_wp2_with (at_make; refine wpList_make_full _ rfl _ _ 24 rfl w.heap.size 5 i0 (.int .u8 0) 1 Tryz.underlying24 hi hz0 hz1 .i64 .i64 _ _ n rfl rfl (by omega) (by omega) (by rw [hz2]; omega) (by unfold maxLen; omega) (Nat.le_refl _) ?_
               intro w1 hown hgrow
               have HB1 : Hid (Below w.heap.size w w1) := (Below.refl _ _).grown hgrow (Nat.le_refl _) (by intro k h; cases h)
               have HO1 : Hid (Own w1 w.heap.size (.slice (some ⟨w.heap.size, 0, none⟩) n n) (List.replicate n (BitVec.ofNat 8 0))) := by
                 show Own _ _ _ _
                 unfold Own
                 rw [List.length_replicate, ← vals_replicate]
                 exact hown
               obtain ⟨w2, hcopy, HO2, HB2, _⟩ := copy_from (sLen := n) (cap := c) HO1.out (R.out.below HB1.out) (Nat.le_refl _) HB1.out (by unfold maxLen; omega)
               clear hown hgrow)
  go_ret
  have hlt := HO2.out.lt'
  refine ⟨w2.heap.size, rfl, HB2.out.size, by simp, ⟨⟨w.heap.size, 0, none⟩, n, ?_, ?_, by rw [HL.out]; omega, by omega, rfl, ?_, ?_, Nat.le_refl _, ?_⟩, ?_, HB2.out.alloc HB2.out.size _⟩
  · rw [HL.out]; exact heap_alloc_new _ _
  · rw [HL.out]
    exact (HO2.out.below ((Below.refl _ _).alloc (Nat.le_refl _) _)).rd (by rw [HL.out]; exact hm)
  · show w.heap.size ≠ w2.heap.size; omega
  · show w.heap.size < _; simp; omega
  · rw [HL.out]; omega
  · intro a n' c' p e hrow
    have h1 : Row (w2.alloc (.cells #[.slice (some ⟨w.heap.size, 0, none⟩) n n, .int .i64 0, .int .i64 0] 179)) w2.heap.size (.slice (some ⟨w.heap.size, 0, none⟩) n n) 0 0 := heap_alloc_new _ _
    have h2 := h1.c0.symm.trans hrow.c0
    simp only [Option.some.injEq, Value.slice.injEq] at h2
    rw [← h2.1]; exact Nat.le_refl _
def CstD (w : World) (g D : Nat) : St → Prop
  | some L => ∃ p, CurD w g D L p
  | none => ∃ (p er : Int), Row w g (.slice none 0 0) p er ∧ er ≠ 0
theorem CstD.cst {w : World} {g D : Nat} {s : St} (h : CstD w g D s) : Cst w g s := by
  cases s with
  | none => exact h
  | some L => obtain ⟨p, hp⟩ := h; exact ⟨p, hp.cur⟩
theorem fixD_any (g D : Nat) (s : St) (k : Int) (w : World) (h : CstD w g D s) :
    Calls Tryz.prog 84 #[.pointer (some ⟨g, 0, none⟩), .int .i64 k] w fun e w' => e = .returned (.int .u64 ((fixS s k).1 : Nat)) ∧ w.grownBy w' (some g) ∧ CstD w' g D (fixS s k).2 := by
  cases s with
  | none =>
    obtain ⟨p, er, hr, he⟩ := h
    refine (fixed_dead g _ p er k w hr he).mono ?_
    rintro e w' ⟨rfl, hb⟩
    exact ⟨rfl, grown_any (below_grown hb) _, ⟨p, er, hr.grown (below_grown hb) (by simp), he⟩⟩
  | some L =>
    obtain ⟨p, hc⟩ := h
    refine (fixed_d g D p L k w hc).mono ?_
    rintro e w' ⟨rfl, hg, hif⟩
    unfold fixS
    simp only
    by_cases h0 : (fixAt L k).2.2 = 0
    · rw [if_pos h0] at hif ⊢
      exact ⟨rfl, hg, ⟨_, hif⟩⟩
    · rw [if_neg h0] at hif ⊢
      exact ⟨by rw [Fa.fixAt_zero L k h0], hg, ⟨_, _, hif.1, by have := hif.2; omega⟩⟩
theorem CstD.keep {w w' : World} {g D : Nat} {o : Option Nat} {s : St} (h : CstD w g D s) (hg : w.grownBy w' o) (hne : o ≠ some g)
    (hk : ∀ b, o = some b → D ≤ b ∨ ∀ i (c : BitVec 8), w.cell? ⟨b, i, none⟩ = some (.int .u8 (c.toNat : Int)) → False) : CstD w' g D s := by
  cases s with
  | none =>
    obtain ⟨p, er, hr, he⟩ := h
    exact ⟨p, er, hr.grown hg hne, he⟩
  | some L =>
    obtain ⟨p, a, c, hrow, hrd, h1, h2, h3, h4, h5, h6, h7⟩ := h
    refine ⟨p, a, c, hrow.grown hg hne, ?_, h1, h2, h3, h4, h5, Nat.le_trans h6 hg.size, h7⟩
    by_cases h0 : L.length = 0
    · have : L = [] := List.length_eq_zero_iff.1 h0
      subst this
      exact rd_zero _ _
    · refine hrd.grown hg (fun ad e e2 => ?_)
      obtain ⟨b1, off, e3, hlt, hc⟩ := hrd.2.2 (by omega)
      cases e
      cases e3
      rcases hk _ e2 with h8 | h8
      · exact absurd h5 (by show ¬ b1 < D; omega)
      · exact h8 _ _ (hc 0 (by omega))
theorem fixS_lt (s : St) : (fixS s 4).1 < 4294967296 := by
  cases s with
  | none => exact (by decide : (0 : Nat) < 4294967296)
  | some L =>
    unfold fixS
    simp only
    split
    · unfold fixAt
      split
      · exact (by decide : (0 : Nat) < 4294967296)
      · split
        · exact (by decide : (0 : Nat) < 4294967296)
        · show word (L.take (4 : Int).toNat) < _
          unfold word
          have h1 := wordFrom_lt ((L.take (4 : Int).toNat).take 8) 0
          have h2 : ((L.take (4 : Int).toNat).take 8).length ≤ 4 := by rw [List.length_take, List.length_take]; omega
          have h3 : 256 ^ (0 + ((L.take (4 : Int).toNat).take 8).length) ≤ 256 ^ 4 := Nat.pow_le_pow_right (by omega) (by omega)
          omega
    · exact (by decide : (0 : Nat) < 4294967296)
end Go.Proofs.YthdblnfohbldcaaGreat.Bl
