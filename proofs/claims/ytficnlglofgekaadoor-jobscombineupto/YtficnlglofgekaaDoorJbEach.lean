/-
  The program's eachWord: a pair for each word that may be.
-/
import Derived.Test.YtficnlglofgekaaDoorJbProg1
namespace Go.Proofs.YtficnlglofgekaaDoor.Jb
open Go.ChangeShapes Go.WideShapes Go.ChangeAt Go.RowKit
open Go.Lib hiding intOf
open Go.Proofs.YtficnlglofgekaaDoor.Base
open Go.Proofs.YtficnlglofgekaaDoor.Pa (OwnS RdS)
set_option linter.unusedVariables false
def short (x : ByteArray) : Bool := decide (x.size ≤ 1024)
def eachP (ws : List ByteArray) (v : ByteArray) : List Pr := (ws.filter short).map fun x => (x, v)
def eachN (ws : List ByteArray) : Nat := (ws.filter fun x => !short x).length
theorem eachP_snoc (ws : List ByteArray) (x v : ByteArray) : eachP (ws ++ [x]) v = if short x then eachP ws v ++ [(x, v)] else eachP ws v := by
  unfold eachP
  rw [List.filter_append]
  cases h : short x <;> simp [h]
theorem eachN_snoc (ws : List ByteArray) (x : ByteArray) : eachN (ws ++ [x]) = if short x then eachN ws else eachN ws + 1 := by
  unfold eachN
  rw [List.filter_append]
  cases h : short x <;> simp [h]
theorem eachP_len (ws : List ByteArray) (v : ByteArray) : (eachP ws v).length ≤ ws.length := by
  unfold eachP; rw [List.length_map]; exact List.length_filter_le _ _
theorem eachN_len (ws : List ByteArray) : eachN ws ≤ ws.length := by unfold eachN; exact List.length_filter_le _ _
theorem take_snoc (ws : List ByteArray) (i : Nat) (h : i < ws.length) : ws.take (i + 1) = ws.take i ++ [ws.getD i ⟨#[]⟩] := by
  rw [List.take_succ_eq_append_getElem h, List.getD_eq_getElem?_getD, List.getElem?_eq_getElem h]; rfl
theorem may_short (x v : ByteArray) (hv : v.size ≤ 1024) : may x v = short x := by
  unfold may short; rw [decide_eq_true hv, Bool.and_true]
/-- How many words there are, and how long. -/
theorem spB_len (s : ByteArray) : ∀ (f pos fr : Nat) (acc : List (Nat × Nat)), (spB s f pos fr acc).1.length ≤ acc.length + f
  | 0, _, _, acc => by unfold spB; simp
  | f + 1, pos, fr, acc => by
    unfold spB
    split
    · have := spB_len s f (pos + 1) fr acc; omega
    · have := spB_len s f (pos + 1) (pos + 1) (if fr < pos then acc ++ [(fr, pos)] else acc)
      split at this
      · rw [List.length_append, List.length_singleton] at this
        rename_i h
        rw [if_pos h]; omega
      · rename_i h
        rw [if_neg h]; omega
theorem words_len (s : ByteArray) : (wordsL s).length ≤ s.size + 1 := by
  unfold wordsL closeB
  rw [List.length_map]
  have := spB_len s s.size 0 0 []
  split
  · rw [List.length_append, List.length_singleton]; simp at this; omega
  · simp at this; omega
theorem words_size (s : ByteArray) : ∀ x ∈ wordsL s, x.size ≤ s.size := by
  intro x hx
  unfold wordsL at hx
  obtain ⟨p, _, rfl⟩ := List.mem_map.1 hx
  rw [ByteArray.size_extract]; omega
theorem OwnP.mono {w : World} {base b2 : Nat} {v : Value} {ps : List Pr} (h : OwnP w base v ps) (hb : b2 ≤ base) : OwnP w b2 v ps := by
  refine ⟨h.1, ?_⟩
  rcases h.2 with h1 | ⟨g, c, cur, h1, h2, h3⟩
  · exact .inl h1
  · exact .inr ⟨g, c, cur, h1, Nat.le_trans hb h2, h3⟩
set_option maxHeartbeats 2000000 in
set_option maxRecDepth 100000 in
theorem each_any (s v : ByteArray) (w : World) (hs : s.size ≤ 1048576) (hv : v.size ≤ 1024) :
    Calls Tryd.prog 34 #[.string s, .string v] w fun e w' => ∃ x, e = .returned (.tuple #[x, .int .i64 (eachN (wordsL s) : Nat)]) ∧ OwnP w' w.heap.size x (eachP (wordsL s) v) ∧ Below w.heap.size w w' := by
  have HFA := hide (fields_any s w (by omega))
  have hwl := words_len s
  have HWS := hide (words_size s)
  generalize wordsL s = ws at HFA hwl HWS ⊢
  go_enter Tryd.func34, Tryd.ntmps34
  go_wp2_with (go_at_call 44; refine HFA.out.mono ?_; rintro e w1 ⟨A, rfl, ho1, hb1⟩; have HO1 := hide ho1; have HB1 := hide hb1; clear ho1 hb1)
  obtain ⟨n, hn⟩ : ∃ n, ws.length = n := ⟨_, rfl⟩
  rw [hn] at HO1 hwl ⊢
  have HN := hide hn
  clear hn HFA
  go_loopw [6, 7, 9, 13] (fun s6 s7 s9 s13 wr => ∃ (i d : Nat) (x y : Value), i ≤ n ∧ d ≤ i ∧ x = s6 ∧ y = s9 ∧ .int .i64 (d : Int) = s7 ∧ .int .i64 (i : Int) = s13 ∧ Hid (eachN (ws.take i) = d) ∧ Hid (OwnP wr w1.heap.size x (eachP (ws.take i) v)) ∧ Hid (Below w1.heap.size w1 wr)) (fun _ _ _ s13 _ => n - (intOf s13).toNat)
  case atStart => exact ⟨0, 0, _, _, by omega, by omega, rfl, rfl, rfl, rfl, rfl, ownp_none _ _, Below.refl _ _⟩
  case round =>
    obtain ⟨i, d, x, y, hi, hd, rfl, rfl, rfl, rfl, HD, HP, HB⟩ := hrel
    by_cases hin : i < n
    · have hii : (i : Int) < (n : Int) := by omega
      have hi0 : (0 : Int) ≤ (i : Int) := by omega
      have hlw : i < ws.length := by rw [HN.out]; exact hin
      have hcell := (HO1.out.below HB.out).cell i hin
      obtain ⟨z, hz⟩ : ∃ z, ws.getD i ⟨#[]⟩ = z := ⟨_, rfl⟩
      have HZ : Hid (z.size ≤ s.size) := by rw [← hz]; exact HWS.out _ (Pa.getS_mem hlw)
      have HT := hide (take_snoc ws i hlw)
      rw [hz] at hcell HT
      have HMA := hide (fun W => may_any z v W (by have := HZ.out; omega) (by omega))
      have hms := may_short z v hv
      cases hsh : short z with
      | true =>
        rw [hsh] at hms
        have HMB : Hid (∀ W, Calls Tryd.prog 46 #[.string z, .string v] W fun e w' => e = .returned (.bool true) ∧ w' = W) := fun W => by have h := HMA.out W; rw [hms] at h; exact h
        have HE : Hid (eachP (ws.take (i + 1)) v = eachP (ws.take i) v ++ [(z, v)] ∧ eachN (ws.take (i + 1)) = d) := by
          show _ ∧ _
          rw [HT.out, eachP_snoc, eachN_snoc, hsh]; exact ⟨rfl, HD.out⟩
        have HPL : Hid ((eachP (ws.take i) v).length ≤ i) := by
          have h := eachP_len (ws.take i) v
          rw [List.length_take] at h
          show _ ≤ _; omega
        have HCl := hide (fun W => St.clone_any z W (by have := HZ.out; omega))
        clear hms hsh HMA hz
        go_wp2_with (first
          | (go_at_call 46; refine (HMB.out _).mono ?_; rintro e w2 ⟨rfl, hq2⟩; obtain rfl := hq2.symm)
          | (go_at_call 41; refine (HCl.out _).mono ?_; rintro e w3 ⟨rfl, hb3⟩; have HB3 := hide (below_trans HB.out hb3); have HP3 := hide (HP.out.below hb3); clear hb3; obtain ⟨wa, hwa⟩ : ∃ wa, w3.alloc (.cells #[.string z, .string v] 30) = wa := ⟨_, rfl⟩; have HBA : Hid (Below w3.heap.size w3 wa) := (by rw [← hwa]; exact (Below.refl _ _).alloc (Nat.le_refl _) _); have HCA : Hid (wa.heap[w3.heap.size]? = some (.cells #[.string z, .string v] 30)) := (by rw [← hwa]; exact heap_alloc_new _ _))
          | (at_builtin; refine pushP wa rfl _ _ rfl w1.heap.size x (eachP (ws.take i) v) rfl (HP3.out.below HBA.out) w3.heap.size (z, v) rfl HCA.out (by have := HPL.out; omega) (by have := HB1.out.size; have := HB3.out.size; have := HBA.out.size; omega) ?_; intro g c w4 ho4 hg4 _; have HP4 := hide ho4; have HB4 := hide ((below_trans HB3.out HBA.out).grown hg4 (below_trans HB3.out HBA.out).size (fun k e => (HP.out.blk k e).1)); clear ho4 hg4))
        go_roundw
        case rel => exact ⟨i + 1, d, _, _, by omega, by omega, rfl, rfl, rfl, by go_num, HE.out.2, by rw [HE.out.1]; exact HP4.out, HB4.out⟩
        case measure => (simp [intOf] <;> omega)
      | false =>
        rw [hsh] at hms
        have HMB : Hid (∀ W, Calls Tryd.prog 46 #[.string z, .string v] W fun e w' => e = .returned (.bool false) ∧ w' = W) := fun W => by have h := HMA.out W; rw [hms] at h; exact h
        have HE : Hid (eachP (ws.take (i + 1)) v = eachP (ws.take i) v ∧ eachN (ws.take (i + 1)) = d + 1) := by
          show _ ∧ _
          rw [HT.out, eachP_snoc, eachN_snoc, hsh]; exact ⟨rfl, by rw [HD.out]; rfl⟩
        clear hms hsh HMA hz
        go_wp2_with (go_at_call 46; refine (HMB.out _).mono ?_; rintro e w2 ⟨rfl, hq2⟩; obtain rfl := hq2.symm)
        go_roundw
        case rel => exact ⟨i + 1, d + 1, _, _, by omega, by omega, rfl, rfl, by go_num, by go_num, HE.out.2, by rw [HE.out.1]; exact HP.out, HB.out⟩
        case measure => (simp [intOf] <;> omega)
    · have hie : i = n := by omega
      subst hie
      have HE : Hid (ws.take i = ws) := by show _ = _; rw [List.take_of_length_le (by rw [HN.out]; exact Nat.le_refl _)]
      go_wp2_with fail
      go_ret2
      refine ⟨x, ?_, ?_, HB1.out.trans (HB.out.mono HB1.out.size)⟩
      · have h := HD.out
        rw [HE.out] at h
        rw [h]; rfl
      · have h := HP.out
        rw [HE.out] at h
        exact h.mono HB1.out.size
end Go.Proofs.YtficnlglofgekaaDoor.Jb
