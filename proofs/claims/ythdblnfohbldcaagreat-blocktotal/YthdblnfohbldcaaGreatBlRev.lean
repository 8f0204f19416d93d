/-
  What is read is what would be written: entries read off bytes are those bytes; a reader that is right is one of entries.
-/
import Derived.Test.YthdblnfohbldcaaGreatBlSeek
namespace Go.Proofs.YthdblnfohbldcaaGreat.Bl
open Go.Proofs.YthdblnfohbldcaaGreat.Base Go.Proofs.YthdblnfohbldcaaGreat.Nums Go.Proofs.YthdblnfohbldcaaGreat.Curs
open Go.Proofs.YthdblnfohbldcaaGreat.Fa (St numS fixS)
set_option linter.unusedVariables false
theorem numS_back {X : List (BitVec 8)} {k : Int} {a : Nat} {Y : List (BitVec 8)} (h : numS (some X) k = (a, some Y)) : X = put a ++ Y ∧ (a : Int) ≤ k := by
  unfold numS at h
  simp only at h
  by_cases h0 : (atMost X k).2.2 = 0
  · rw [if_pos h0] at h
    simp only [Prod.mk.injEq, Option.some.injEq] at h
    unfold atMost at h0 h
    by_cases h1 : (Nums.get X).2.2 ≠ 0
    · rw [if_pos h1] at h0; exact absurd h0 h1
    rw [if_neg h1] at h0 h
    by_cases h2 : k < ((Nums.get X).1 : Int)
    · rw [if_pos h2] at h0; exact absurd h0 (by decide)
    rw [if_neg h2] at h
    rcases get_cases X with ⟨u, m, g1, g2, g3, g4, g5, g6⟩ | ⟨g1, _⟩ | ⟨g1, _⟩
    · rw [g1] at h h2
      simp only at h h2
      obtain ⟨rfl, rfl⟩ := h
      exact ⟨by rw [g5, List.take_append_drop], by omega⟩
    · rw [g1] at h1; exact absurd (by decide) h1
    · rw [g1] at h1; exact absurd (by decide) h1
  · rw [if_neg h0] at h
    simp at h
theorem takS_back {s : St} {n : Nat} {d Y : List (BitVec 8)} (h : takS s n = (d, some Y)) : s = some (d ++ Y) ∧ d.length = n := by
  unfold takS at h
  cases s with
  | none => simp at h
  | some L =>
    simp only at h
    split at h
    · next hl =>
      simp only [Prod.mk.injEq, Option.some.injEq] at h
      obtain ⟨rfl, rfl⟩ := h
      exact ⟨by rw [List.take_append_drop], by rw [List.length_take]; omega⟩
    · simp at h
theorem btx_str (d : List (BitVec 8)) : btx (str d) = d := by
  unfold btx str
  simp only [List.map_map]
  conv => rhs; rw [← List.map_id d]
  apply List.map_congr_left
  intro x _
  rfl
theorem next_back (k0 : ByteArray) (X Y : List (BitVec 8)) (hk0 : k0.size ≤ 1024) (h : (nextW k0 (some X)).2 = some Y) :
    X = entL (common (txt k0) (txt (nextW k0 (some X)).1.1)) (nextW k0 (some X)).1.1 (nextW k0 (some X)).1.2 ++ Y := by
  obtain ⟨a, s1, ha⟩ : ∃ a s1, numS (some X) (k0.size : Int) = (a, s1) := ⟨_, _, rfl⟩
  obtain ⟨b, s2, hb⟩ : ∃ b s2, numS s1 ((1024 : Int) - (a : Int)) = (b, s2) := ⟨_, _, rfl⟩
  obtain ⟨c, s3, hc⟩ : ∃ c s3, numS s2 1024 = (c, s3) := ⟨_, _, rfl⟩
  obtain ⟨d, s4, hd⟩ : ∃ d s4, takS s3 b = (d, s4) := ⟨_, _, rfl⟩
  obtain ⟨v, s5, hv⟩ : ∃ v s5, takS s4 c = (v, s5) := ⟨_, _, rfl⟩
  have hn : nextW k0 (some X) = ((k0.extract 0 a ++ str d, str v), okS (common (txt k0) (txt (k0.extract 0 a ++ str d)) == a) s5) := by
    unfold nextW
    simp only [ha, hb, hc, hd, hv]
  rw [hn] at h ⊢
  simp only at h ⊢
  obtain ⟨K, hK⟩ : ∃ K, k0.extract 0 a ++ str d = K := ⟨_, rfl⟩
  rw [hK] at h ⊢
  have hok : common (txt k0) (txt K) = a ∧ s5 = some Y := by
    unfold okS at h
    split at h
    · next hc2 => exact ⟨by simpa using hc2, h⟩
    · cases h
  obtain ⟨hcm, rfl⟩ := hok
  obtain ⟨rfl, hvl⟩ := takS_back hv
  obtain ⟨rfl, hdl⟩ := takS_back hd
  cases s2 with
  | none => simp [numS] at hc
  | some X2 =>
    obtain ⟨rfl, hcl⟩ := numS_back hc
    cases s1 with
    | none => simp [numS] at hb
    | some X1 =>
      obtain ⟨rfl, hbl⟩ := numS_back hb
      obtain ⟨rfl, hal⟩ := numS_back ha
      have hex : (k0.extract 0 a).size = a := by rw [ByteArray.size_extract]; omega
      have hKs : K.size = a + b := by rw [← hK, ByteArray.size_append, hex, str_size, hdl]
      have hKx : K.extract a K.size = str d := by
        apply txt_inj
        rw [txt_extract, ← hK, txt_append]
        have h1 : (txt (k0.extract 0 a)).length = a := by rw [length_txt]; exact hex
        rw [List.drop_left' h1, List.take_of_length_le]
        rw [length_txt, ByteArray.size_append, hex]
        omega
      rw [hcm]
      unfold entL
      rw [hKx, btx_str, btx_str, hKs, Nat.add_sub_cancel_left, str_size, hvl]
      simp only [List.append_assoc]
theorem ents_none (m : Nat) (k : ByteArray) : (entsW m k none).2 = none := by rw [ents_left, left_none]
theorem ents_back : ∀ (m : Nat) (k : ByteArray) (X Y : List (BitVec 8)), k.size ≤ 1024 → (entsW m k (some X)).2 = some Y → X = encG k (entsW m k (some X)).1 ++ Y ∧ Small (entsW m k (some X)).1
  | 0, k, X, Y, _, h => by
    have h2 : some X = some Y := h
    cases h2
    exact ⟨rfl, fun e he => absurd he List.not_mem_nil⟩
  | m + 1, k, X, Y, hk, h => by
    have hs := next_small k (some X) hk
    have h2 : (entsW m (nextW k (some X)).1.1 (nextW k (some X)).2).2 = some Y := h
    have he : (entsW (m + 1) k (some X)).1 = (nextW k (some X)).1 :: (entsW m (nextW k (some X)).1.1 (nextW k (some X)).2).1 := rfl
    rw [he]
    cases hx : (nextW k (some X)).2 with
    | none => rw [hx, ents_none] at h2; cases h2
    | some X1 =>
      have hb := next_back k X X1 hk hx
      rw [hx] at h2
      obtain ⟨i1, i2⟩ := ents_back m _ X1 Y hs.1 h2
      refine ⟨?_, ?_⟩
      · unfold encG
        rw [List.append_assoc, ← i1]
        exact hb
      · intro e he
        rcases List.mem_cons.1 he with rfl | he
        · exact hs
        · exact i2 e he
/-- The entries of the group g; of so many groups from g on. -/
def lgE (E : List (BitVec 8)) (ps : List Int) (r n g : Nat) : List En := (entsW (gszN r n g) ⟨#[]⟩ (some (grpL E ps g))).1
def catG (E : List (BitVec 8)) (ps : List Int) (r n : Nat) : Nat → Nat → List En
  | 0, _ => []
  | f + 1, g => lgE E ps r n g ++ catG E ps r n f (g + 1)
theorem lgE_len (E : List (BitVec 8)) (ps : List Int) (r n g : Nat) : (lgE E ps r n g).length = gszN r n g := ents_len _ _ _
theorem catG_len (E : List (BitVec 8)) (ps : List Int) (r n G : Nat) (hn : n ≤ G * r) : ∀ f g, f + g = G → (catG E ps r n f g).length = n - g * r
  | 0, g, h => by
    obtain rfl : g = G := by omega
    show 0 = _
    omega
  | f + 1, g, h => by
    show (lgE E ps r n g ++ catG E ps r n f (g + 1)).length = _
    rw [List.length_append, lgE_len, catG_len E ps r n G hn f (g + 1) (by omega)]
    unfold gszN
    rw [Nat.add_mul]
    omega
theorem right_ends (E : List (BitVec 8)) (ps : List Int) (r n : Nat) : ∀ f g k, rightF E ps r n f g k = true → (∀ i, i < f → (entsW (gszN r n (g + i)) ⟨#[]⟩ (some (grpL E ps (g + i)))).2 = some []) ∧ rises k (catG E ps r n f g) = true
  | 0, g, k, _ => ⟨fun i h => absurd h (by omega), rfl⟩
  | f + 1, g, k, h => by
    unfold rightF at h
    rw [Bool.and_eq_true, Bool.and_eq_true] at h
    obtain ⟨⟨h1, h2⟩, h3⟩ := h
    obtain ⟨i1, i2⟩ := right_ends E ps r n f (g + 1) _ h3
    refine ⟨?_, ?_⟩
    · intro i hi
      cases i with
      | zero => exact of_decide_eq_true h2
      | succ i =>
        have := i1 i (by omega)
        rw [show g + (i + 1) = g + 1 + i by omega]
        exact this
    · show rises k (lgE E ps r n g ++ catG E ps r n f (g + 1)) = true
      rw [rises_app, Bool.and_eq_true]
      exact ⟨h1, i2⟩
theorem catG_drop (E : List (BitVec 8)) (ps : List Int) (r n G : Nat) (hg : ∀ g, g < G → g * r < n) : ∀ g, g < G → (catG E ps r n G 0).drop (g * r) = catG E ps r n (G - g) g
  | 0, _ => by rw [Nat.zero_mul]; rfl
  | g + 1, h => by
    have ih := catG_drop E ps r n G hg g (by omega)
    rw [Nat.add_mul, Nat.one_mul, ← List.drop_drop, ih, show G - g = (G - (g + 1)) + 1 by omega]
    show (lgE E ps r n g ++ catG E ps r n (G - (g + 1)) (g + 1)).drop r = _
    have h1 := hg (g + 1) h
    rw [Nat.add_mul, Nat.one_mul] at h1
    rw [List.drop_left']
    rw [lgE_len]
    unfold gszN
    omega
theorem catG_take (E : List (BitVec 8)) (ps : List Int) (r n G g : Nat) (hg : ∀ g, g < G → g * r < n) (h : g < G) : ((catG E ps r n G 0).drop (g * r)).take (gszN r n g) = lgE E ps r n g := by
  rw [catG_drop E ps r n G hg g h, show G - g = (G - (g + 1)) + 1 by omega]
  show (lgE E ps r n g ++ catG E ps r n (G - (g + 1)) (g + 1)).take _ = _
  rw [List.take_left' (lgE_len E ps r n g)]
theorem take_more {α : Type} (E : List α) (a b : Nat) (h : a ≤ b) : E.take b = E.take a ++ (E.drop a).take (b - a) := by
  obtain ⟨d, rfl⟩ : ∃ d, b = a + d := ⟨b - a, by omega⟩
  rw [Nat.add_sub_cancel_left, List.take_add]
theorem small_cat (E : List (BitVec 8)) (ps : List Int) (r n : Nat) : ∀ f g, (∀ i, i < f → (entsW (gszN r n (g + i)) ⟨#[]⟩ (some (grpL E ps (g + i)))).2 = some []) → Small (catG E ps r n f g)
  | 0, _, _ => fun e he => absurd he List.not_mem_nil
  | f + 1, g, h => by
    intro e he
    rcases List.mem_append.1 he with h1 | h1
    · exact (ents_back _ ⟨#[]⟩ _ [] (Nat.zero_le _) (h 0 (by omega))).2 e h1
    · exact small_cat E ps r n f (g + 1) (fun i hi => by rw [show g + 1 + i = g + (i + 1) by omega]; exact h (i + 1) (by omega)) e h1
/-- A reader that is right is one of entries, and their bytes are the ones that it holds. -/
theorem right_rg (E : List (BitVec 8)) (ps : List Int) (r n G : Nat) (hp : PsOk E ps) (hpl : ps.length = G + 1) (h0 : ps.getD 0 0 = 0) (hl : ps.getD G 0 = (E.length : Int)) (hg : ∀ g, g < G → g * r < n) (hn : n ≤ G * r) (hE : E.length ≤ 65536) (hG : G ≤ 65536) (hr1 : 1 ≤ r) (hr2 : r ≤ 64) (hn6 : n ≤ 65536) (h : rightF E ps r n G 0 ⟨#[]⟩ = true) :
    ∃ L, L.length = n ∧ RG E ps r G L ∧ esL r L = E := by
  obtain ⟨h1, h2⟩ := right_ends E ps r n G 0 ⟨#[]⟩ h
  have hlen : (catG E ps r n G 0).length = n := by rw [catG_len E ps r n G hn G 0 rfl]; omega
  have h1' : ∀ g, g < G → (entsW (gszN r n g) ⟨#[]⟩ (some (grpL E ps g))).2 = some [] := fun g hgG => by
    have := h1 g hgG
    rw [Nat.zero_add] at this
    exact this
  refine ⟨catG E ps r n G 0, hlen, ⟨hp, hpl, ?_, ?_, hE, hG, hr1, hr2, ?_, ?_, h2, small_cat E ps r n G 0 h1⟩, ?_⟩
  · rw [hlen]; exact hg
  · rw [hlen]; exact hn
  · rw [hlen]; exact hn6
  · intro g hgG
    rw [hlen, catG_take E ps r n G g hg hgG]
    exact Prod.ext rfl (h1' g hgG)
  · have hps : ∀ g, g ≤ G → 0 ≤ ps.getD g 0 := by
      intro g hgG
      cases g with
      | zero => rw [h0]; exact Int.le_refl _
      | succ g =>
        have := hp g (by omega)
        omega
    have key : ∀ g, g ≤ G → encA r (catG E ps r n G 0) (min (g * r) n) = E.take (ps.getD g 0).toNat := by
      intro g
      induction g with
      | zero => intro _; rw [Nat.zero_mul, Nat.zero_min, h0]; rfl
      | succ g ih =>
        intro hgG
        have ih := ih (by omega)
        have hgn := hg g (by omega)
        rw [Nat.min_eq_left (Nat.le_of_lt hgn)] at ih
        have hm : min ((g + 1) * r) n = g * r + gszN r n g := by unfold gszN; rw [Nat.add_mul]; omega
        have hk := encA_grp r (catG E ps r n G 0) g (gszN r n g) (by unfold gszN; omega) (by rw [hlen]; unfold gszN; omega)
        rw [hm, hk, ih, catG_take E ps r n G g hg (by omega)]
        have hb := (ents_back _ ⟨#[]⟩ _ [] (Nat.zero_le _) (h1' g (by omega))).1
        rw [List.append_nil] at hb
        have hp3 := hp g (by omega)
        rw [take_more E (ps.getD g 0).toNat (ps.getD (g + 1) 0).toNat (by omega)]
        congr 1
        exact hb.symm
    have hf := key G (Nat.le_refl _)
    rw [Nat.min_eq_right hn, hl, Int.toNat_natCast, List.take_length] at hf
    unfold esL
    rw [hlen]
    exact hf
end Go.Proofs.YthdblnfohbldcaaGreat.Bl
