/-
  An entry read off what is left of a cursor; what is written is read back.
-/
import Derived.Test.YthdblnfohbldcaaGreatBlEnt
import Derived.Test.YthdblnfohbldcaaGreatFaCur
import Derived.Test.YthdblnfohbldcaaGreatNumsRowsMath
import Derived.Test.YthdblnfohbldcaaGreatNumsOrd
namespace Go.Proofs.YthdblnfohbldcaaGreat.Bl
open Go.Proofs.YthdblnfohbldcaaGreat.Base Go.Proofs.YthdblnfohbldcaaGreat.Nums Go.Proofs.YthdblnfohbldcaaGreat.Curs
open Go.Proofs.YthdblnfohbldcaaGreat.Fa (St numS fixS)
set_option linter.unusedVariables false
/-- Bytes are read. -/
def takS (s : St) (n : Nat) : List (BitVec 8) × St :=
  match s with
  | none => ([], none)
  | some L => if n ≤ L.length then (L.take n, some (L.drop n)) else ([], none)
/-- What is left where the cursor is failed but for c. -/
def okS (c : Bool) (s : St) : St := if c then s else none
/-- The entry that comes next behind the key k0, and what is left. -/
def nextW (k0 : ByteArray) (s : St) : (ByteArray × ByteArray) × St :=
  let a := numS s (k0.size : Int)
  let b := numS a.2 ((1024 : Int) - (a.1 : Int))
  let c := numS b.2 1024
  let d := takS c.2 b.1
  let e := takS d.2 c.1
  let key := k0.extract 0 a.1 ++ str d.1
  ((key, str e.1), okS (common (txt k0) (txt key) == a.1) e.2)
theorem numS_put (v : Nat) (rest : List (BitVec 8)) (most : Int) (hv : v < 9223372036854775808) (h : (v : Int) ≤ most) : numS (some (put v ++ rest)) most = (v, some rest) := by
  unfold numS
  simp only
  rw [atMost_put v rest most hv h]
  simp
theorem takS_app (a rest : List (BitVec 8)) : takS (some (a ++ rest)) a.length = (a, some rest) := by
  unfold takS
  simp
theorem txt_extract (s : ByteArray) (a b : Nat) : txt (s.extract a b) = ((txt s).drop a).take (b - a) := by
  unfold txt
  rw [ByteArray.data_extract, Array.toList_extract]
theorem txt_append (a b : ByteArray) : txt (a ++ b) = txt a ++ txt b := by
  unfold txt
  rw [ByteArray.data_append, Array.toList_append]
theorem txt_inj {a b : ByteArray} (h : txt a = txt b) : a = b := by
  unfold txt at h
  exact ByteArray.ext (Array.toList_inj.1 h)
theorem str_btx (s : ByteArray) : str (btx s) = s := str_txt s
theorem key_back (k0 key : ByteArray) : k0.extract 0 (common (txt k0) (txt key)) ++ key.extract (common (txt k0) (txt key)) key.size = key := by
  apply txt_inj
  rw [txt_append, txt_extract, txt_extract]
  have h := common_take (txt k0) (txt key)
  have hl := length_txt key
  have hc := (common_sizes k0 key).2
  simp only [List.drop_zero, Nat.sub_zero]
  rw [h]
  rw [List.take_of_length_le (l := (txt key).drop _) (by rw [List.length_drop]; omega)]
  exact List.take_append_drop _ _
theorem next_read (k0 key value : ByteArray) (rest : List (BitVec 8)) (hk0 : k0.size ≤ 1024) (hk : key.size ≤ 1024) (hv : value.size ≤ 1024) :
    nextW k0 (some (entL (common (txt k0) (txt key)) key value ++ rest)) = ((key, value), some rest) := by
  obtain ⟨c, hc⟩ : ∃ c, common (txt k0) (txt key) = c := ⟨_, rfl⟩
  have h1 := (common_sizes k0 key).1
  have h2 := (common_sizes k0 key).2
  have hkb := key_back k0 key
  rw [hc] at h1 h2 hkb
  rw [hc]
  have e1 : entL c key value ++ rest = put c ++ (put (key.size - c) ++ (put value.size ++ (btx (key.extract c key.size) ++ (btx value ++ rest)))) := by
    unfold entL; simp only [List.append_assoc]
  rw [e1]
  have hx : (btx (key.extract c key.size)).length = key.size - c := by rw [btx_len, ByteArray.size_extract]; omega
  have t1 := takS_app (btx (key.extract c key.size)) (btx value ++ rest)
  rw [hx] at t1
  have t2 := takS_app (btx value) rest
  rw [btx_len] at t2
  unfold nextW
  rw [numS_put c _ _ (by omega) (by omega)]
  simp only
  rw [numS_put (key.size - c) _ _ (by omega) (by omega)]
  simp only
  rw [numS_put value.size _ _ (by omega) (by omega)]
  simp only
  rw [t1]
  simp only
  rw [t2]
  simp only
  rw [str_btx, str_btx, hkb, hc]
  simp [okS]
/-- So many entries. -/
def entsW : Nat → ByteArray → St → List (ByteArray × ByteArray) × St
  | 0, _, s => ([], s)
  | m + 1, k, s => ((nextW k s).1 :: (entsW m (nextW k s).1.1 (nextW k s).2).1, (entsW m (nextW k s).1.1 (nextW k s).2).2)
/-- Entries as they stand in the raw bytes, behind the key k0. -/
def encG : ByteArray → List (ByteArray × ByteArray) → List (BitVec 8)
  | _, [] => []
  | k0, e :: l => entL (common (txt k0) (txt e.1)) e.1 e.2 ++ encG e.1 l
def Small (l : List (ByteArray × ByteArray)) : Prop := ∀ e ∈ l, e.1.size ≤ 1024 ∧ e.2.size ≤ 1024
theorem ents_read : ∀ (l : List (ByteArray × ByteArray)) (k0 : ByteArray) (rest : List (BitVec 8)), k0.size ≤ 1024 → Small l → entsW l.length k0 (some (encG k0 l ++ rest)) = (l, some rest)
  | [], k0, rest, _, _ => rfl
  | e :: l, k0, rest, h0, hs => by
    have he := hs e (List.mem_cons_self ..)
    have h := next_read k0 e.1 e.2 (encG e.1 l ++ rest) h0 he.1 he.2
    have hi := ents_read l e.1 rest he.1 (fun x hx => hs x (List.mem_cons_of_mem _ hx))
    rw [List.length_cons]
    unfold encG
    rw [List.append_assoc]
    unfold entsW
    rw [h]
    simp only
    rw [hi]
theorem ents_len : ∀ (m : Nat) (k : ByteArray) (s : St), (entsW m k s).1.length = m
  | 0, _, _ => rfl
  | m + 1, k, s => by unfold entsW; simp only [List.length_cons]; rw [ents_len m]
/-- What is left behind so many entries, and the last key. -/
def leftW : Nat → ByteArray → St → ByteArray × St
  | 0, k, s => (k, s)
  | m + 1, k, s => leftW m (nextW k s).1.1 (nextW k s).2
theorem left_snoc : ∀ (m : Nat) (k : ByteArray) (s : St), leftW (m + 1) k s = ((nextW (leftW m k s).1 (leftW m k s).2).1.1, (nextW (leftW m k s).1 (leftW m k s).2).2)
  | 0, k, s => rfl
  | m + 1, k, s => by
    show leftW (m + 1) (nextW k s).1.1 (nextW k s).2 = _
    rw [left_snoc m]
    rfl
theorem ents_get : ∀ (m i : Nat) (k : ByteArray) (s : St), i < m → (entsW m k s).1[i]? = some (nextW (leftW i k s).1 (leftW i k s).2).1
  | 0, i, k, s, h => absurd h (by omega)
  | m + 1, 0, k, s, _ => rfl
  | m + 1, i + 1, k, s, h => by
    show (entsW m (nextW k s).1.1 (nextW k s).2).1[i]? = _
    rw [ents_get m i _ _ (by omega)]
    rfl
theorem ents_left : ∀ (m : Nat) (k : ByteArray) (s : St), (entsW m k s).2 = (leftW m k s).2
  | 0, _, _ => rfl
  | m + 1, k, s => by
    show (entsW m (nextW k s).1.1 (nextW k s).2).2 = _
    rw [ents_left m]
    rfl
theorem str_size (bs : List (BitVec 8)) : (str bs).size = bs.length := by simp [str, ByteArray.size]
theorem numS_le' (s : St) (k : Int) (hk : 0 ≤ k) : ((numS s k).1 : Int) ≤ k := by
  cases s with
  | none => simpa [numS] using hk
  | some L =>
    unfold numS
    simp only
    split
    · unfold atMost
      split
      · simpa using hk
      · split
        · simpa using hk
        · omega
    · simpa using hk
theorem takS_le (s : St) (n : Nat) : (takS s n).1.length ≤ n := by
  cases s with
  | none => exact Nat.zero_le _
  | some L =>
    unfold takS
    simp only
    split
    · rw [List.length_take]; omega
    · exact Nat.zero_le _
/-- Keys and values that are read are within their bounds. -/
theorem next_small (k0 : ByteArray) (s : St) (h0 : k0.size ≤ 1024) : (nextW k0 s).1.1.size ≤ 1024 ∧ (nextW k0 s).1.2.size ≤ 1024 := by
  unfold nextW
  simp only
  have h1 := numS_le' s (k0.size : Int) (by omega)
  obtain ⟨a, s1, ha⟩ : ∃ a s1, numS s (k0.size : Int) = (a, s1) := ⟨_, _, rfl⟩
  rw [ha] at h1 ⊢
  simp only at h1 ⊢
  have h2 := numS_le' s1 ((1024 : Int) - a) (by omega)
  obtain ⟨b, s2, hb⟩ : ∃ b s2, numS s1 ((1024 : Int) - a) = (b, s2) := ⟨_, _, rfl⟩
  rw [hb] at h2 ⊢
  simp only at h2 ⊢
  have h3 := numS_le' s2 1024 (by omega)
  obtain ⟨c, s3, hc⟩ : ∃ c s3, numS s2 1024 = (c, s3) := ⟨_, _, rfl⟩
  rw [hc] at h3 ⊢
  simp only at h3 ⊢
  have h4 := takS_le s3 b
  obtain ⟨d, s4, hd⟩ : ∃ d s4, takS s3 b = (d, s4) := ⟨_, _, rfl⟩
  rw [hd] at h4 ⊢
  simp only at h4 ⊢
  have h5 := takS_le s4 c
  rw [ByteArray.size_append, ByteArray.size_extract, str_size, str_size]
  constructor <;> omega
theorem left_small : ∀ (m : Nat) (k : ByteArray) (s : St), k.size ≤ 1024 → (leftW m k s).1.size ≤ 1024
  | 0, _, _, h => h
  | m + 1, k, s, h => left_small m _ _ (next_small k s h).1
end Go.Proofs.YthdblnfohbldcaaGreat.Bl
