/-
  The loser tree, without memory: who has won each game, and what playing the winner's games anew leaves.
-/
import Derived.Test.YtcnfkgmefikcjaaBase
namespace Go.Proofs.Ytcnfkgmefikcjaa.Me
set_option linter.unusedVariables false
/-- Game h is played below g, or is g. -/
def In (g h : Nat) : Prop := ∃ k, h / 2 ^ k = g
theorem In.refl (g : Nat) : In g g := ⟨0, by simp⟩
theorem In.half {g h : Nat} (k : In g (h / 2)) : In g h := by
  obtain ⟨j, e⟩ := k
  exact ⟨j + 1, by rw [Nat.pow_succ, Nat.mul_comm, ← Nat.div_div_eq_div_mul]; exact e⟩
theorem In.left {g h : Nat} (k : In (2 * g) h) : In g h := by
  obtain ⟨j, e⟩ := k
  refine ⟨j + 1, ?_⟩
  rw [Nat.pow_succ, ← Nat.div_div_eq_div_mul, e]
  omega
theorem In.right {g h : Nat} (k : In (2 * g + 1) h) : In g h := by
  obtain ⟨j, e⟩ := k
  refine ⟨j + 1, ?_⟩
  rw [Nat.pow_succ, ← Nat.div_div_eq_div_mul, e]
  omega
theorem In.le {g h : Nat} (k : In g h) : g ≤ h := by
  obtain ⟨j, e⟩ := k
  rw [← e]
  exact Nat.div_le_self _ _
theorem pow_split {h k j : Nat} (hkj : k < j) : ∃ d, h / 2 ^ j = (h / 2 ^ k) / 2 ^ (d + 1) ∧ j = k + (d + 1) := by
  refine ⟨j - k - 1, ?_, by omega⟩
  rw [Nat.div_div_eq_div_mul, ← Nat.pow_add]
  congr 2
  omega
theorem div_lt {x d : Nat} (hx : 0 < x) : x / 2 ^ (d + 1) ≤ x / 2 := by
  rw [Nat.pow_succ, Nat.mul_comm, ← Nat.div_div_eq_div_mul]
  exact Nat.div_le_self _ _
/-- Nothing lies below both players of a game. -/
theorem In.apart {g h : Nat} (hg : 0 < g) (a : In (2 * g) h) (b : In (2 * g + 1) h) : False := by
  obtain ⟨k, ea⟩ := a
  obtain ⟨j, eb⟩ := b
  rcases Nat.lt_trichotomy k j with q | q | q
  · obtain ⟨d, e, _⟩ := pow_split (h := h) q
    rw [ea] at e
    have := div_lt (x := 2 * g) (d := d) (by omega)
    omega
  · subst q; omega
  · obtain ⟨d, e, _⟩ := pow_split (h := h) q
    rw [eb] at e
    have := div_lt (x := 2 * g + 1) (d := d) (by omega)
    omega
theorem In.trans {a b c : Nat} (h : In a b) (k : In b c) : In a c := by
  obtain ⟨i, e⟩ := h
  obtain ⟨j, f⟩ := k
  exact ⟨j + i, by rw [Nat.pow_add, ← Nat.div_div_eq_div_mul, f, e]⟩
theorem not_in_left {g : Nat} (hg : 0 < g) : ¬ In (2 * g) g := fun h => by have := h.le; omega
theorem not_in_right {g : Nat} : ¬ In (2 * g + 1) g := fun h => by have := h.le; omega
/-- The games below g are won, by r: of n players; ah a b: a comes ahead of b; pl: who lost each game. -/
def T (n : Nat) (ah : Nat → Nat → Bool) (pl : Nat → Nat) (g r : Nat) : Prop := ∀ R : Nat → Nat → Prop, (∀ g, n ≤ g → g < 2 * n → R g (g - n)) → (∀ g a b, 0 < g → g < n → R (2 * g) a → R (2 * g + 1) b → pl g = b → ah b a = false → R g a) → (∀ g a b, 0 < g → g < n → R (2 * g) a → R (2 * g + 1) b → pl g = a → ah a b = false → R g b) → R g r
theorem T.leaf {n : Nat} {ah : Nat → Nat → Bool} {pl : Nat → Nat} (g : Nat) (h1 : n ≤ g) (h2 : g < 2 * n) : T n ah pl g (g - n) := fun R q1 _ _ => q1 g h1 h2
theorem T.left {n : Nat} {ah : Nat → Nat → Bool} {pl : Nat → Nat} (g a b : Nat) (h0 : 0 < g) (h1 : g < n) (t1 : T n ah pl (2 * g) a) (t2 : T n ah pl (2 * g + 1) b) (e1 : pl g = b) (e2 : ah b a = false) : T n ah pl g a := fun R q1 q2 q3 => q2 g a b h0 h1 (t1 R q1 q2 q3) (t2 R q1 q2 q3) e1 e2
theorem T.right {n : Nat} {ah : Nat → Nat → Bool} {pl : Nat → Nat} (g a b : Nat) (h0 : 0 < g) (h1 : g < n) (t1 : T n ah pl (2 * g) a) (t2 : T n ah pl (2 * g + 1) b) (e1 : pl g = a) (e2 : ah a b = false) : T n ah pl g b := fun R q1 q2 q3 => q3 g a b h0 h1 (t1 R q1 q2 q3) (t2 R q1 q2 q3) e1 e2
theorem T.ind {n : Nat} {ah : Nat → Nat → Bool} {pl : Nat → Nat} {motive : (g r : Nat) → T n ah pl g r → Prop} (leaf : ∀ g (h1 : n ≤ g) (h2 : g < 2 * n), motive g (g - n) (T.leaf g h1 h2))
    (left : ∀ g a b (h0 : 0 < g) (h1 : g < n) (t1 : T n ah pl (2 * g) a) (t2 : T n ah pl (2 * g + 1) b) (e1 : pl g = b) (e2 : ah b a = false), motive (2 * g) a t1 → motive (2 * g + 1) b t2 → motive g a (T.left g a b h0 h1 t1 t2 e1 e2))
    (right : ∀ g a b (h0 : 0 < g) (h1 : g < n) (t1 : T n ah pl (2 * g) a) (t2 : T n ah pl (2 * g + 1) b) (e1 : pl g = a) (e2 : ah a b = false), motive (2 * g) a t1 → motive (2 * g + 1) b t2 → motive g b (T.right g a b h0 h1 t1 t2 e1 e2)) {g r : Nat} (h : T n ah pl g r) : motive g r h := by
  obtain ⟨t, ht⟩ := h (fun g r => ∃ t : T n ah pl g r, motive g r t) (fun g h1 h2 => ⟨T.leaf g h1 h2, leaf g h1 h2⟩) (fun g a b h0 h1 t1 t2 e1 e2 => by obtain ⟨x, hx⟩ := t1; obtain ⟨y, hy⟩ := t2; exact ⟨T.left g a b h0 h1 x y e1 e2, left g a b h0 h1 x y e1 e2 hx hy⟩) (fun g a b h0 h1 t1 t2 e1 e2 => by obtain ⟨x, hx⟩ := t1; obtain ⟨y, hy⟩ := t2; exact ⟨T.right g a b h0 h1 x y e1 e2, right g a b h0 h1 x y e1 e2 hx hy⟩)
  exact ht
theorem T.sub {n : Nat} {ah : Nat → Nat → Bool} {pl : Nat → Nat} {g r : Nat} (h : T n ah pl g r) : In g (r + n) ∧ r < n := by
  induction h using T.ind with
  | leaf g h1 h2 => exact ⟨by rw [Nat.sub_add_cancel h1]; exact In.refl g, by omega⟩
  | left g a b _ _ _ _ _ _ ih1 ih2 => exact ⟨ih1.1.left, ih1.2⟩
  | right g a b _ _ _ _ _ _ ih1 ih2 => exact ⟨ih2.1.right, ih2.2⟩
/-- What lies elsewhere does not matter. -/
theorem T.frame {n : Nat} {ah ah' : Nat → Nat → Bool} {pl pl' : Nat → Nat} {g r : Nat} (h : T n ah pl g r) (hp : ∀ x, In g x → pl' x = pl x) (ha : ∀ a b, In g (a + n) → In g (b + n) → a < n → b < n → ah' a b = ah a b) : T n ah' pl' g r := by
  induction h using T.ind with
  | leaf g h1 h2 => exact .leaf g h1 h2
  | left g a b h0 h1 t1 t2 e1 e2 ih1 ih2 =>
    have s1 := t1.sub
    have s2 := t2.sub
    exact .left g a b h0 h1 (ih1 (fun x hx => hp x hx.left) (fun a b h3 h4 => ha a b h3.left h4.left)) (ih2 (fun x hx => hp x hx.right) (fun a b h3 h4 => ha a b h3.right h4.right)) ((hp g (In.refl g)).trans e1) (by rw [ha b a s2.1.right s1.1.left s2.2 s1.2]; exact e2)
  | right g a b h0 h1 t1 t2 e1 e2 ih1 ih2 =>
    have s1 := t1.sub
    have s2 := t2.sub
    exact .right g a b h0 h1 (ih1 (fun x hx => hp x hx.left) (fun a b h3 h4 => ha a b h3.left h4.left)) (ih2 (fun x hx => hp x hx.right) (fun a b h3 h4 => ha a b h3.right h4.right)) ((hp g (In.refl g)).trans e1) (by rw [ha a b s1.1.left s2.1.right s1.2 s2.2]; exact e2)
/-- The rest of the tree, from node c up: who waits at each game. -/
def Up (n : Nat) (ah : Nat → Nat → Bool) (pl : Nat → Nat) (c : Nat) : Prop := ∀ R : Nat → Prop, R 1 → (∀ g b, 0 < g → g < n → T n ah pl (2 * g + 1) b → pl g = b → R g → R (2 * g)) → (∀ g a, 0 < g → g < n → T n ah pl (2 * g) a → pl g = a → R g → R (2 * g + 1)) → R c
theorem Up.root {n : Nat} {ah : Nat → Nat → Bool} {pl : Nat → Nat} : Up n ah pl 1 := fun R q1 _ _ => q1
theorem Up.left {n : Nat} {ah : Nat → Nat → Bool} {pl : Nat → Nat} (g b : Nat) (h0 : 0 < g) (h1 : g < n) (t : T n ah pl (2 * g + 1) b) (e : pl g = b) (u : Up n ah pl g) : Up n ah pl (2 * g) := fun R q1 q2 q3 => q2 g b h0 h1 t e (u R q1 q2 q3)
theorem Up.right {n : Nat} {ah : Nat → Nat → Bool} {pl : Nat → Nat} (g a : Nat) (h0 : 0 < g) (h1 : g < n) (t : T n ah pl (2 * g) a) (e : pl g = a) (u : Up n ah pl g) : Up n ah pl (2 * g + 1) := fun R q1 q2 q3 => q3 g a h0 h1 t e (u R q1 q2 q3)
theorem Up.ind {n : Nat} {ah : Nat → Nat → Bool} {pl : Nat → Nat} {motive : (c : Nat) → Up n ah pl c → Prop} (root : motive 1 Up.root)
    (left : ∀ g b (h0 : 0 < g) (h1 : g < n) (t : T n ah pl (2 * g + 1) b) (e : pl g = b) (u : Up n ah pl g), motive g u → motive (2 * g) (Up.left g b h0 h1 t e u))
    (right : ∀ g a (h0 : 0 < g) (h1 : g < n) (t : T n ah pl (2 * g) a) (e : pl g = a) (u : Up n ah pl g), motive g u → motive (2 * g + 1) (Up.right g a h0 h1 t e u)) {c : Nat} (h : Up n ah pl c) : motive c h := by
  obtain ⟨t, ht⟩ := h (fun c => ∃ u : Up n ah pl c, motive c u) ⟨Up.root, root⟩ (fun g b h0 h1 t e u => by obtain ⟨x, hx⟩ := u; exact ⟨Up.left g b h0 h1 t e x, left g b h0 h1 t e x hx⟩) (fun g a h0 h1 t e u => by obtain ⟨x, hx⟩ := u; exact ⟨Up.right g a h0 h1 t e x, right g a h0 h1 t e x hx⟩)
  exact ht
/-- What lies below c does not matter to what waits above. -/
theorem Up.frame {n : Nat} {ah : Nat → Nat → Bool} {pl pl' : Nat → Nat} {c : Nat} (h : Up n ah pl c) (hp : ∀ x, ¬ In c x → pl' x = pl x) : Up n ah pl' c := by
  induction h using Up.ind with
  | root => exact .root
  | left g b h0 h1 t e u ih =>
    exact .left g b h0 h1 (t.frame (fun x hx => hp x (fun q => q.apart h0 hx)) (fun _ _ _ _ _ _ => rfl)) ((hp g (not_in_left h0)).trans e) (ih (fun x hx => hp x (fun q => hx q.left)))
  | right g a h0 h1 t e u ih =>
    exact .right g a h0 h1 (t.frame (fun x hx => hp x (fun q => hx.apart h0 q)) (fun _ _ _ _ _ _ => rfl)) ((hp g not_in_right).trans e) (ih (fun x hx => hp x (fun q => hx q.right)))
/-- From the winner's leaf up: everybody else waits where he lost. -/
theorem T.zip {n : Nat} {ah ah' : Nat → Nat → Bool} {pl : Nat → Nat} {g w : Nat} (h : T n ah pl g w) (ha : ∀ a b, a ≠ w → b ≠ w → a < n → b < n → ah' a b = ah a b) (u : Up n ah' pl g) : Up n ah' pl (w + n) := by
  induction h using T.ind with
  | leaf g h1 h2 => rw [Nat.sub_add_cancel h1]; exact u
  | left g a b h0 h1 t1 t2 e1 e2 ih1 ih2 =>
    have s1 := t1.sub
    exact ih1 ha (.left g b h0 h1 (t2.frame (fun _ _ => rfl) (fun x y hx hy hxn hyn => ha x y (fun e => s1.1.apart h0 (e ▸ hx)) (fun e => s1.1.apart h0 (e ▸ hy)) hxn hyn)) e1 u)
  | right g a b h0 h1 t1 t2 e1 e2 ih1 ih2 =>
    have s2 := t2.sub
    exact ih2 ha (.right g a h0 h1 (t1.frame (fun _ _ => rfl) (fun x y hx hy hxn hyn => ha x y (fun e => In.apart h0 (e ▸ hx) s2.1) (fun e => In.apart h0 (e ▸ hy) s2.1) hxn hyn)) e1 u)
def setN (f : Nat → Nat) (x v : Nat) : Nat → Nat := fun y => if y = x then v else f y
theorem setN_other (f : Nat → Nat) (x v y : Nat) (h : y ≠ x) : setN f x v y = f y := by unfold setN; rw [if_neg h]
theorem setN_same (f : Nat → Nat) (x v : Nat) : setN f x v x = v := by unfold setN; rw [if_pos rfl]
/-- A game is played anew. -/
theorem T.settle {n : Nat} {ah : Nat → Nat → Bool} {pl : Nat → Nat} {g a b : Nat} (h0 : 0 < g) (h1 : g < n) (t1 : T n ah pl (2 * g) a) (t2 : T n ah pl (2 * g + 1) b) (hs : ah b a = true → ah a b = false) :
    T n ah (setN pl g (if ah b a = true then a else b)) g (if ah b a = true then b else a) := by
  have f1 : T n ah (setN pl g (if ah b a = true then a else b)) (2 * g) a := t1.frame (fun x hx => setN_other _ _ _ _ (fun e => by subst e; exact not_in_left h0 hx)) (fun _ _ _ _ _ _ => rfl)
  have f2 : T n ah (setN pl g (if ah b a = true then a else b)) (2 * g + 1) b := t2.frame (fun x hx => setN_other _ _ _ _ (fun e => by subst e; exact not_in_right hx)) (fun _ _ _ _ _ _ => rfl)
  by_cases q : ah b a = true
  · rw [if_pos q]
    rw [if_pos q] at f1 f2
    rw [if_pos q]
    exact .right g a b h0 h1 f1 f2 (by unfold setN; rw [if_pos rfl]) (hs q)
  · rw [if_neg q]
    rw [if_neg q] at f1 f2
    rw [if_neg q]
    exact .left g a b h0 h1 f1 f2 (by unfold setN; rw [if_pos rfl]) (by simpa using q)
theorem T.settle_r {n : Nat} {ah : Nat → Nat → Bool} {pl : Nat → Nat} {g a b : Nat} (h0 : 0 < g) (h1 : g < n) (t1 : T n ah pl (2 * g) b) (t2 : T n ah pl (2 * g + 1) a) (hs : ah b a = true → ah a b = false) :
    T n ah (setN pl g (if ah b a = true then a else b)) g (if ah b a = true then b else a) := by
  have f1 : T n ah (setN pl g (if ah b a = true then a else b)) (2 * g) b := t1.frame (fun x hx => setN_other _ _ _ _ (fun e => by subst e; exact not_in_left h0 hx)) (fun _ _ _ _ _ _ => rfl)
  have f2 : T n ah (setN pl g (if ah b a = true then a else b)) (2 * g + 1) a := t2.frame (fun x hx => setN_other _ _ _ _ (fun e => by subst e; exact not_in_right hx)) (fun _ _ _ _ _ _ => rfl)
  by_cases q : ah b a = true
  · rw [if_pos q]
    rw [if_pos q] at f1 f2
    rw [if_pos q]
    exact .left g b a h0 h1 f1 f2 (by unfold setN; rw [if_pos rfl]) (hs q)
  · rw [if_neg q]
    rw [if_neg q] at f1 f2
    rw [if_neg q]
    exact .right g b a h0 h1 f1 f2 (by unfold setN; rw [if_pos rfl]) (by simpa using q)
/-- One step of playing anew, from node c to its game. -/
theorem Up.step {n : Nat} {ah : Nat → Nat → Bool} {pl : Nat → Nat} {c r : Nat} (u : Up n ah pl c) (t : T n ah pl c r) (hc : 1 < c) (hs : ∀ a b, ah a b = true → ah b a = false) :
    0 < c / 2 ∧ c / 2 < n ∧ pl (c / 2) < n ∧ T n ah (setN pl (c / 2) (if ah (pl (c / 2)) r = true then r else pl (c / 2))) (c / 2) (if ah (pl (c / 2)) r = true then pl (c / 2) else r) ∧ Up n ah (setN pl (c / 2) (if ah (pl (c / 2)) r = true then r else pl (c / 2))) (c / 2) := by
  have hu : ∀ (g v : Nat), Up n ah pl g → Up n ah (setN pl g v) g := fun g v hg => hg.frame (fun x hx => setN_other _ _ _ _ (fun e => by subst e; exact hx (In.refl _)))
  induction u using Up.ind with
  | root => omega
  | left g b h0 h1 t2 e u _ =>
    rw [show 2 * g / 2 = g by omega, e]
    exact ⟨h0, h1, t2.sub.2, T.settle h0 h1 t t2 (fun q => hs _ _ q), hu g _ u⟩
  | right g a h0 h1 t1 e u _ =>
    rw [show (2 * g + 1) / 2 = g by omega, e]
    exact ⟨h0, h1, t1.sub.2, T.settle_r h0 h1 t1 t (fun q => hs _ _ q), hu g _ u⟩
/-- Below a game, and not the game itself: below one of its players. -/
theorem in_split {g h : Nat} (h0 : 0 < g) (k : In g h) (hn : h ≠ g) : In (2 * g) h ∨ In (2 * g + 1) h := by
  obtain ⟨j, e⟩ := k
  match j with
  | 0 => simp at e; omega
  | j + 1 =>
    rw [Nat.pow_succ, ← Nat.div_div_eq_div_mul] at e
    have h2 : h / 2 ^ j = 2 * g ∨ h / 2 ^ j = 2 * g + 1 := by omega
    rcases h2 with q | q
    · exact .inl ⟨j, q⟩
    · exact .inr ⟨j, q⟩
/-- Nobody is ahead of the winner. -/
theorem T.best {n : Nat} {ah : Nat → Nat → Bool} {pl : Nat → Nat} {g r : Nat} (h : T n ah pl g r) (irr : ∀ a, ah a a = false) (tr : ∀ a b c, ah b a = false → ah c b = false → ah c a = false) : ∀ x, x < n → In g (x + n) → 0 < g → ah x r = false := by
  induction h using T.ind with
  | leaf g h1 h2 =>
    intro x hx hin h0
    obtain ⟨k, e⟩ := hin
    match k with
    | 0 => simp at e; obtain rfl : x = g - n := by omega
           exact irr _
    | k + 1 =>
      have := div_lt (x := x + n) (d := k) (by omega)
      omega
  | left g a b h0 h1 t1 t2 e1 e2 ih1 ih2 =>
    intro x hx hin _
    rcases in_split h0 hin (by omega) with q | q
    · exact ih1 x hx q (by omega)
    · exact tr _ _ _ e2 (ih2 x hx q (by omega))
  | right g a b h0 h1 t1 t2 e1 e2 ih1 ih2 =>
    intro x hx hin _
    rcases in_split h0 hin (by omega) with q | q
    · exact tr _ _ _ e2 (ih1 x hx q (by omega))
    · exact ih2 x hx q (by omega)
theorem in_one (x : Nat) (h : 0 < x) : In 1 x := by
  induction x using Nat.strongRecOn with
  | _ x ih =>
    by_cases q : x = 1
    · subst q; exact In.refl 1
    · exact (ih (x / 2) (by omega) (by omega)).half
end Go.Proofs.Ytcnfkgmefikcjaa.Me
