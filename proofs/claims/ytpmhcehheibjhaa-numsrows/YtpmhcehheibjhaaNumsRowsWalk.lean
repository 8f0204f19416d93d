/-
  The walk of the statement NumsRows.
-/
import Derived.Test.YtpmhcehheibjhaaNumsRowsSt
import Derived.Test.YtpmhcehheibjhaaNumsHead
import Derived.Laws.StructEq
import Derived.Deep.LoopGhost
namespace Go.Proofs.Ytpmhcehheibjhaa.numsRows
open Go.ChangeShapes Go.WideShapes Go.ChangeAt Go.RowKit
open Go.Proofs.Ytpmhcehheibjhaa.Base Go.Proofs.Ytpmhcehheibjhaa.Nums Go.Proofs.Ytpmhcehheibjhaa.Curs
set_option linter.unusedVariables false
theorem infoI : (Try.prog.info? 39).map (fun i => (i.zero, i.size, i.bytes)) = some (some (.agg #[.int .i64 0, .int .i64 0, .int .i64 0, .string ⟨#[]⟩]), 4, 40) := by kernel_rfl
theorem infoN : (Try.prog.info? 3).map (fun i => (i.zero, i.size, i.bytes)) = some (some (.int .i64 0), 1, 8) := by kernel_rfl
theorem cell_news (W : World) (v : Value) (T : TypeId) : ∀ (j : Nat) (u : Value), [v][j]? = some u → (W.alloc (.cells #[v] T)).cell? ((⟨W.heap.size, 0, none⟩ : Addr).add j) = some u := by
  intro j u hu
  cases j with
  | zero => simp at hu; subst hu; exact cell_one_new _ _ _ 0 _ rfl
  | succ j => simp at hu
theorem one_int (n : Int) : ∀ u ∈ [Value.int .i64 n], u.oneCell' = true := by
  intro u hu
  simp only [List.mem_singleton] at hu
  subst hu; rfl
theorem row_lt2 {w w' : World} {base size n size' n' : Nat} {e e' : TypeId} {v : Value} {xs ys : List Value} (h : w.ownsRow base e size v n xs) (h' : w'.ownsRow base e' size' v n' ys) : ∀ i, v.ownBlock = some i → i < w'.heap.size := fun i e => (World.ownsRow.lt h' i e).2
set_option maxHeartbeats 4000000 in
set_option maxRecDepth 100000 in
theorem walk (a : Option Addr) (len cap : Nat) (kd vv nn : Nat → Int) (ss : Nat → ByteArray) (w : World) (h : ItemsAt w a len kd vv nn ss) (hm : len ≤ 140737488351232)
    (hs : ∀ i, i < len → vv i ≤ 9223372036854775807 ∧ (ss i).size ≤ 140737488351232) :
    Calls Try.prog 4 #[.slice a len cap] w fun e w' => e = .returned (.bool true) ∧ Below w.heap.size w w' := by
  have H := hide h
  have HS0 := hide hs
  have HBZ := hide (beyond_any a len cap kd vv nn ss w h (fun i hi => (hs i hi).2) hm)
  obtain ⟨iI, hiI, hI0, hI1, hI2⟩ := info_parts infoI
  obtain ⟨iN, hiN, hN0, hN1, hN2⟩ := info_parts infoN
  clear h hs
  go_enter Try.func4, Try.ntmps4
  go_wp2_with fail
  refine HBZ.out.mono ?_
  rintro e w1 ⟨rfl, hw1⟩
  by_cases hbig : 2147483647 < tot ss len
  · rw [decide_eq_true hbig]
    have HB1 : Hid (Below w.heap.size w w1) := by rw [hw1]; exact Below.refl _ _
    clear hw1 HBZ
    go_wp2_with fail
    refine (head_any w1).mono ?_
    rintro e w2 ⟨rfl, hb2⟩
    have HB2 := hide (below_trans HB1.out hb2)
    clear hb2
    go_wp2_with fail
    go_ret
    exact ⟨rfl, HB2.out⟩
  · rw [decide_eq_false hbig]
    have HTOT : Hid (tot ss len ≤ 2147483647) := by show _ ≤ _; omega
    subst hw1
    clear hbig HBZ
    go_wp2_with fail
    go_loopw [3, 4, 5, 6] (fun s3 s4 s5 s6 wr => ∃ (k : Nat) (xs : List Itm) (a3 : Option Addr) (n3 c3 : Nat) (a4 : Option Addr) (n4 c4 : Nat) (a5 : Option Addr) (n5 c5 : Nat), k ≤ len ∧ s6 = .int .i64 (k : Int) ∧ s3 = .slice a3 n3 c3 ∧ s4 = .slice a4 n4 c4 ∧ s5 = .slice a5 n5 c5 ∧ Hid (St wr w1.heap.size (.slice a3 n3 c3) (.slice a4 n4 c4) (.slice a5 n5 c5) xs) ∧ Hid ((xs.map fun x => 1 + x.s.size).sum ≤ tot ss k) ∧ Hid (∀ x, x ∈ xs → x.ok ∧ x.v ≤ 9223372036854775807 ∧ x.s.size ≤ 2147483647) ∧ Hid (Below w1.heap.size w1 wr)) (fun _ _ _ y _ => len - (intOf y).toNat)
    case atStart => exact ⟨0, [], none, 0, 0, none, 0, 0, none, 0, 0, Nat.zero_le _, rfl, rfl, rfl, rfl, ⟨World.ownsRow_nil _ _ _ _, own_none _ _, World.ownsRow_nil _ _ _ _⟩, by show _ ≤ _; simp, fun x hx => by simp at hx, Below.refl _ _⟩
    case round =>
      obtain ⟨k, xs, a3, n3, c3, a4, n4, c4, a5, n5, c5, hk, rfl, rfl, rfl, rfl, HS, HSUM, HALL, HB⟩ := hrel
      by_cases hlt : k < len
      · have hki : (k : Int) < (len : Int) := by omega
        obtain ⟨b, off, rfl, hbl, hcs⟩ := H.out (by omega)
        obtain ⟨i0, i1, i2, i3⟩ := hcs k hlt
        have j0 : wr.cell? ⟨b, off + k * 4, none⟩ = some (.int .i64 (kd k)) := by rw [HB.out.cell (p := ⟨b, off + k * 4, none⟩) hbl]; exact i0
        have j1 : wr.cell? ⟨b, off + k * 4 + 1, none⟩ = some (.int .i64 (vv k)) := by rw [HB.out.cell (p := ⟨b, off + k * 4 + 1, none⟩) hbl]; exact i1
        have j2 : wr.cell? ⟨b, off + k * 4 + 2, none⟩ = some (.int .i64 (nn k)) := by rw [HB.out.cell (p := ⟨b, off + k * 4 + 2, none⟩) hbl]; exact i2
        have j3 : wr.cell? ⟨b, off + k * 4 + 3, none⟩ = some (.string (ss k)) := by rw [HB.out.cell (p := ⟨b, off + k * 4 + 3, none⟩) hbl]; exact i3
        obtain ⟨hV2, _⟩ := HS0.out k hlt
        have HTK : Hid (tot ss (k + 1) = tot ss k + 1 + (ss k).size) := rfl
        have hle := tot_le ss (k + 1) len (by omega)
        have hS2 : (ss k).size ≤ 2147483647 := by have h1 := HTK.out; have h2 := HTOT.out; omega
        have HSUM1 : Hid ((xs.map fun x => 1 + x.s.size).sum ≤ tot ss (k + 1)) := by have h1 := HTK.out; have h2 := HSUM.out; show _ ≤ _; omega
        have HSUM2' : Hid ((xs.map fun x => 1 + x.s.size).sum + (1 + (ss k).size) ≤ tot ss (k + 1)) := by have h1 := HTK.out; have h2 := HSUM.out; show _ ≤ _; omega
        have HT2 : Hid (tot ss (k + 1) ≤ 2147483647) := by have h2 := HTOT.out; show _ ≤ _; omega
        clear i0 i1 i2 i3 hcs hle HTK
        generalize kd k = K at j0
        generalize vv k = V at j1 hV2
        generalize nn k = N at j2
        generalize ss k = S at j3 hS2 HSUM2'
        have hsr := HB.out.size
        have hbne : b ≠ wr.heap.size := by omega
        have HXW := hide (IRow.new wr ⟨K, V, N, S⟩)
        have HBX : Hid (Below w1.heap.size w1 (wr.alloc (.cells #[.int .i64 K, .int .i64 V, .int .i64 N, .string S] 39))) := HB.out.alloc hsr _
        have HSX := hide (HS.out.below ((Below.refl _ _).alloc (Nat.le_refl _) (.cells #[.int .i64 K, .int .i64 V, .int .i64 N, .string S] 39)))
        have HSW := HSX
        have HLAY : Hid ((lay xs).length ≤ 21474836470) := by
          have h1 := lay_len xs 2147483647 (fun x hx => ⟨(HALL.out x hx).1, (HALL.out x hx).2.1⟩) (by have h2 := HSUM1.out; have h3 := HT2.out; omega) (by omega)
          show _ ≤ _; omega
        have HXL : Hid (xs.length ≤ 2147483647) := by
          have h1 : ∀ ys : List Itm, ys.length ≤ (ys.map fun x => 1 + x.s.size).sum := by
            intro ys
            induction ys with
            | nil => simp
            | cons y r ih => simp only [List.length_cons, List.map_cons, List.sum_cons]; omega
          have h2 := h1 xs
          have h3 := HSUM1.out
          have h4 := HT2.out
          show _ ≤ _; omega
        have hxl : xs.length ≤ 2147483647 := HXL.out
        have HN4 : Hid (n4 = (lay xs).length) := (Got.cap HS.out.bytes).2
        have HBA : Hid (Below w1.heap.size w1 ((wr.alloc (.cells #[.int .i64 K, .int .i64 V, .int .i64 N, .string S] 39)).alloc (.cells #[.int .i64 K, .int .i64 V, .int .i64 N, .string S] 39))) := HBX.out.alloc HBX.out.size _
        have HNI : Hid (∀ (j : Nat) (u : Value), [Value.int .i64 K, .int .i64 V, .int .i64 N, .string S][j]? = some u → ((wr.alloc (.cells #[.int .i64 K, .int .i64 V, .int .i64 N, .string S] 39)).alloc (.cells #[.int .i64 K, .int .i64 V, .int .i64 N, .string S] 39)).cell? ((⟨wr.heap.size + 1, 0, none⟩ : Addr).add j) = some u) := by
          have hT := IRow.new (wr.alloc (.cells #[.int .i64 K, .int .i64 V, .int .i64 N, .string S] 39)) ⟨K, V, N, S⟩
          rw [show (wr.alloc (.cells #[.int .i64 K, .int .i64 V, .int .i64 N, .string S] 39)).heap.size = wr.heap.size + 1 by simp] at hT
          intro j u hu
          rcases j with _ | _ | _ | _ | j
          · cases hu; exact hT.c0
          · cases hu; exact hT.c1
          · cases hu; exact hT.c2
          · cases hu; exact hT.c3
          · simp at hu
        have HONE : Hid (∀ u ∈ [Value.int .i64 K, .int .i64 V, .int .i64 N, .string S], u.oneCell' = true) := by
          intro u hu
          simp only [List.mem_cons, List.not_mem_nil, or_false] at hu
          rcases hu with rfl | rfl | rfl | rfl <;> rfl
        by_cases hk0 : K < 0
        · clear HNI HONE HBA
          go_wp2_with fail
          go_roundw
          case rel => exact ⟨k + 1, xs, a3, n3, c3, a4, n4, c4, a5, n5, c5, by omega, by go_num, rfl, rfl, rfl, HSX.out, HSUM1, HALL, HBX⟩
          case measure => simp [intOf]; omega
        · by_cases hk3 : 3 < K
          · clear HNI HONE HBA
            go_wp2_with fail
            go_roundw
            case rel => exact ⟨k + 1, xs, a3, n3, c3, a4, n4, c4, a5, n5, c5, by omega, by go_num, rfl, rfl, rfl, HSX.out, HSUM1, HALL, HBX⟩
            case measure => simp [intOf]; omega
          · by_cases hz : K = 0
            · by_cases hv0 : V < 0
              · have hzb : (K == 0) = true := by rw [beq_iff_eq]; exact hz
                clear HNI HONE HBA hz
                go_wp2_with fail
                go_roundw
                case rel => exact ⟨k + 1, xs, a3, n3, c3, a4, n4, c4, a5, n5, c5, by omega, by go_num, rfl, rfl, rfl, HSX.out, HSUM1, HALL, HBX⟩
                case measure => simp [intOf]; omega
              · have HOK : Hid ((⟨K, V, N, S⟩ : Itm).ok) := by show ¬ _; simp only; omega
                have hzb : (K == 0) = true := by rw [beq_iff_eq]; exact hz
                have hob : (K == 1) = false := by rw [beq_eq_false_iff_ne]; omega
                clear hz
                have HSUM2 : Hid (((xs ++ [(⟨K, V, N, S⟩ : Itm)]).map fun x => 1 + x.s.size).sum ≤ tot ss (k + 1)) := by
                  have h1 := HSUM2'.out
                  show _ ≤ _
                  rw [List.map_append, List.sum_append]; simpa using h1
                have HALL2 : Hid (∀ x, x ∈ xs ++ [(⟨K, V, N, S⟩ : Itm)] → x.ok ∧ x.v ≤ 9223372036854775807 ∧ x.s.size ≤ 2147483647) := by
                  intro x hx
                  rcases List.mem_append.1 hx with hx | hx
                  · exact HALL.out x hx
                  · simp only [List.mem_singleton] at hx; subst hx; exact ⟨HOK.out, hV2, hS2⟩
                have HLB9 : Hid ((layB ⟨K, V, N, S⟩).length ≤ 21474836480) := by
                  have h1 := lay_len [⟨K, V, N, S⟩] 2147483648 (fun x hx => by simp only [List.mem_singleton] at hx; subst hx; exact ⟨HOK.out, hV2⟩) (by simp; omega) (Nat.le_refl _)
                  rw [lay_one] at h1
                  show _ ≤ _; omega
                go_wp2_with (first
                  | (at_builtin; refine wpList_append_own _ rfl _ _ 35 rfl w1.heap.size 39 iI (.agg #[.int .i64 0, .int .i64 0, .int .i64 0, .string ⟨#[]⟩]) 4 40 Try.underlying35 hiI hI0 hI1 hI2 rfl (by omega) (.slice a3 n3 c3) xs.length (icells xs) rfl (row_keep (HSW.out.items) (below_grown ((Below.refl _ _).alloc (Nat.le_refl _) _)) (fun i e => by cases e)) ⟨wr.heap.size + 1, 0, none⟩ 1 1 [.int .i64 K, .int .i64 V, .int .i64 N, .string S] rfl rfl HNI.out HONE.out (by unfold maxLen; omega) (by omega) (by simp; omega) ?_
                     intro u3 w3 hr3 hg3 _
                     obtain ⟨u3a, u3n, u3c, hu3, HU3⟩ := row_named hr3
                     subst hu3
                     have HR3 := hide hr3
                     have HB3 : Hid (Below w1.heap.size w1 w3) := HBA.out.grown hg3 HBA.out.size (fun i e => (World.ownsRow.lt HSW.out.items i e).1)
                     have HP3 := hide (row_keep (row_keep HSW.out.places (below_grown ((Below.refl _ _).alloc (Nat.le_refl _) _)) (fun i e => by cases e)) hg3 (fun i e => row_types HSW.out.items HSW.out.places (by decide) i e))
                     have HY3 := hide (Base.keep (HSW.out.bytes.below ((Below.refl _ _).alloc (Nat.le_refl _) _)) hg3 (fun i j e1 e2 e => by subst e; exact row_types HSW.out.items HSW.out.bytes (by decide) i e2 e1))
                     have HX3 := hide ((HXW.out.below ((Below.refl _ _).alloc (Nat.le_refl _) _)).grown hg3 (fun e => by have h9 := (World.ownsRow.lt HS.out.items _ e).2; omega))
                     have hs3 := HB3.out.size
                     clear hr3 hg3)
                  | (at_builtin; refine wpList_append_own _ rfl _ _ 37 rfl w1.heap.size 3 iN (.int .i64 0) 1 8 Try.underlying37 hiN hN0 hN1 hN2 rfl (by omega) (.slice a5 n5 c5) xs.length (offs 0 xs) rfl (row_keep HP3.out (below_grown ((Below.refl _ _).alloc (Nat.le_refl _) _)) (fun i e => by cases e)) ⟨w3.heap.size, 0, none⟩ 1 1 [.int .i64 (n4 : Int)] rfl rfl (cell_news _ _ _) (one_int _) (by unfold maxLen; omega) (by omega) (by simp; omega) ?_
                     intro u5 w5 hr5 hg5 _
                     obtain ⟨u5a, u5n, u5c, hu5, HU5⟩ := row_named hr5
                     subst hu5
                     have HR5 := hide hr5
                     have HB5 : Hid (Below w1.heap.size w1 w5) := (HB3.out.alloc hs3 _).grown hg5 (by simp; omega) (fun i e => (World.ownsRow.lt HP3.out i e).1)
                     have HI5 := hide (row_keep (row_keep HR3.out (below_grown ((Below.refl _ _).alloc (Nat.le_refl _) _)) (fun i e => by cases e)) hg5 (fun i e => row_types HP3.out HR3.out (by decide) i e))
                     have HY5 := hide (Base.keep (HY3.out.below ((Below.refl _ _).alloc (Nat.le_refl _) _)) hg5 (fun i j e1 e2 e => by subst e; exact row_types HP3.out HY3.out (by decide) i e2 e1))
                     have HX5 := hide ((HX3.out.below ((Below.refl _ _).alloc (Nat.le_refl _) _)).grown hg5 (fun e => by have h9 := row_lt2 HP3.out HS.out.places _ e; omega))
                     have x0 := HX5.out.c0
                     have x1 := HX5.out.c1
                     have x2 := HX5.out.c2
                     have x3 := HX5.out.c3
                     have hs5 := HB5.out.size
                     clear hr5 hg5))
                refine (laid_any ⟨K, V, N, S⟩ w5 HOK.out hV2 hS2).mono ?_
                rintro e w6 ⟨ya, yn, yc, rfl, hy, hyz, hb6⟩
                have HYR := hide hy
                have HB6 := hide (below_trans HB5.out hb6)
                have HI6 := hide (row_keep HI5.out (below_grown hb6) (fun i e => by cases e))
                have HP6 := hide (row_keep HR5.out (below_grown hb6) (fun i e => by cases e))
                have HY6 := hide (HY5.out.below hb6)
                have hs6 := HB6.out.size
                have HYN := hide hy.1
                clear hy hb6 HI5 HR5 HY5 HX5 x0 x1 x2 x3
                go_wp2_with (at_builtin; refine join _ rfl _ _ rfl w1.heap.size _ (lay xs) rfl HY6.out ya yn yc (layB ⟨K, V, N, S⟩) rfl HYR.out hyz (by have h8 := HLAY.out; have h9 := HYN.out; have h10 := HLB9.out; omega) (by omega) ?_
                             intro u7 w7 ho7 hg7
                             obtain ⟨u7a, u7n, u7c, hu7, HU7⟩ : ∃ a n c, u7 = .slice a n c ∧ Hid (n = (lay xs ++ layB ⟨K, V, N, S⟩).length) := by obtain ⟨a, c, e⟩ := ho7.shape; exact ⟨a, _, c, e, rfl⟩
                             subst hu7
                             have HO7 := hide ho7
                             have HB7 : Hid (Below w1.heap.size w1 w7) := HB6.out.grown hg7 HB6.out.size (own_blk HY6.out)
                             have HI7 := hide (row_keep HI6.out hg7 (fun i e => row_types HY6.out HI6.out (by decide) i e))
                             have HP7 := hide (row_keep HP6.out hg7 (fun i e => row_types HY6.out HP6.out (by decide) i e))
                             clear ho7 hg7)
                go_roundw
                case rel =>
                  refine ⟨k + 1, xs ++ [⟨K, V, N, S⟩], _, _, _, _, _, _, _, _, _, by omega, by go_num, rfl, rfl, rfl, ?_, HSUM2, HALL2, HB7⟩
                  refine ⟨?_, ?_, ?_⟩
                  · rw [List.length_append, icells_append]; exact HI7.out
                  · rw [lay_append, lay_one]; exact HO7.out
                  · rw [List.length_append, offs_snoc, Nat.zero_add, ← HN4.out]; exact HP7.out
                case measure => simp [intOf]; omega
            · have hzb : (K == 0) = false := by rw [beq_eq_false_iff_ne]; exact hz
              by_cases ho : K = 1
              · have hob : (K == 1) = true := by rw [beq_iff_eq]; exact ho
                by_cases hn1 : N < 1
                · clear HNI HONE HBA hz ho
                  go_wp2_with fail
                  go_roundw
                  case rel => exact ⟨k + 1, xs, a3, n3, c3, a4, n4, c4, a5, n5, c5, by omega, by go_num, rfl, rfl, rfl, HSX.out, HSUM1, HALL, HBX⟩
                  case measure => simp [intOf]; omega
                · by_cases hn8 : 8 < N
                  · clear HNI HONE HBA hz ho
                    go_wp2_with fail
                    go_roundw
                    case rel => exact ⟨k + 1, xs, a3, n3, c3, a4, n4, c4, a5, n5, c5, by omega, by go_num, rfl, rfl, rfl, HSX.out, HSUM1, HALL, HBX⟩
                    case measure => simp [intOf]; omega
                  · have HOK : Hid ((⟨K, V, N, S⟩ : Itm).ok) := by show ¬ _; simp only; omega
                    clear hz ho
                    have HSUM2 : Hid (((xs ++ [(⟨K, V, N, S⟩ : Itm)]).map fun x => 1 + x.s.size).sum ≤ tot ss (k + 1)) := by
                      have h1 := HSUM2'.out
                      show _ ≤ _
                      rw [List.map_append, List.sum_append]; simpa using h1
                    have HALL2 : Hid (∀ x, x ∈ xs ++ [(⟨K, V, N, S⟩ : Itm)] → x.ok ∧ x.v ≤ 9223372036854775807 ∧ x.s.size ≤ 2147483647) := by
                      intro x hx
                      rcases List.mem_append.1 hx with hx | hx
                      · exact HALL.out x hx
                      · simp only [List.mem_singleton] at hx; subst hx; exact ⟨HOK.out, hV2, hS2⟩
                    have HLB9 : Hid ((layB ⟨K, V, N, S⟩).length ≤ 21474836480) := by
                      have h1 := lay_len [⟨K, V, N, S⟩] 2147483648 (fun x hx => by simp only [List.mem_singleton] at hx; subst hx; exact ⟨HOK.out, hV2⟩) (by simp; omega) (Nat.le_refl _)
                      rw [lay_one] at h1
                      show _ ≤ _; omega
                    go_wp2_with (first
                      | (at_builtin; refine wpList_append_own _ rfl _ _ 35 rfl w1.heap.size 39 iI (.agg #[.int .i64 0, .int .i64 0, .int .i64 0, .string ⟨#[]⟩]) 4 40 Try.underlying35 hiI hI0 hI1 hI2 rfl (by omega) (.slice a3 n3 c3) xs.length (icells xs) rfl (row_keep (HSW.out.items) (below_grown ((Below.refl _ _).alloc (Nat.le_refl _) _)) (fun i e => by cases e)) ⟨wr.heap.size + 1, 0, none⟩ 1 1 [.int .i64 K, .int .i64 V, .int .i64 N, .string S] rfl rfl HNI.out HONE.out (by unfold maxLen; omega) (by omega) (by simp; omega) ?_
                         intro u3 w3 hr3 hg3 _
                         obtain ⟨u3a, u3n, u3c, hu3, HU3⟩ := row_named hr3
                         subst hu3
                         have HR3 := hide hr3
                         have HB3 : Hid (Below w1.heap.size w1 w3) := HBA.out.grown hg3 HBA.out.size (fun i e => (World.ownsRow.lt HSW.out.items i e).1)
                         have HP3 := hide (row_keep (row_keep HSW.out.places (below_grown ((Below.refl _ _).alloc (Nat.le_refl _) _)) (fun i e => by cases e)) hg3 (fun i e => row_types HSW.out.items HSW.out.places (by decide) i e))
                         have HY3 := hide (Base.keep (HSW.out.bytes.below ((Below.refl _ _).alloc (Nat.le_refl _) _)) hg3 (fun i j e1 e2 e => by subst e; exact row_types HSW.out.items HSW.out.bytes (by decide) i e2 e1))
                         have HX3 := hide ((HXW.out.below ((Below.refl _ _).alloc (Nat.le_refl _) _)).grown hg3 (fun e => by have h9 := (World.ownsRow.lt HS.out.items _ e).2; omega))
                         have hs3 := HB3.out.size
                         clear hr3 hg3)
                      | (at_builtin; refine wpList_append_own _ rfl _ _ 37 rfl w1.heap.size 3 iN (.int .i64 0) 1 8 Try.underlying37 hiN hN0 hN1 hN2 rfl (by omega) (.slice a5 n5 c5) xs.length (offs 0 xs) rfl (row_keep HP3.out (below_grown ((Below.refl _ _).alloc (Nat.le_refl _) _)) (fun i e => by cases e)) ⟨w3.heap.size, 0, none⟩ 1 1 [.int .i64 (n4 : Int)] rfl rfl (cell_news _ _ _) (one_int _) (by unfold maxLen; omega) (by omega) (by simp; omega) ?_
                         intro u5 w5 hr5 hg5 _
                         obtain ⟨u5a, u5n, u5c, hu5, HU5⟩ := row_named hr5
                         subst hu5
                         have HR5 := hide hr5
                         have HB5 : Hid (Below w1.heap.size w1 w5) := (HB3.out.alloc hs3 _).grown hg5 (by simp; omega) (fun i e => (World.ownsRow.lt HP3.out i e).1)
                         have HI5 := hide (row_keep (row_keep HR3.out (below_grown ((Below.refl _ _).alloc (Nat.le_refl _) _)) (fun i e => by cases e)) hg5 (fun i e => row_types HP3.out HR3.out (by decide) i e))
                         have HY5 := hide (Base.keep (HY3.out.below ((Below.refl _ _).alloc (Nat.le_refl _) _)) hg5 (fun i j e1 e2 e => by subst e; exact row_types HP3.out HY3.out (by decide) i e2 e1))
                         have HX5 := hide ((HX3.out.below ((Below.refl _ _).alloc (Nat.le_refl _) _)).grown hg5 (fun e => by have h9 := row_lt2 HP3.out HS.out.places _ e; omega))
                         have x0 := HX5.out.c0
                         have x1 := HX5.out.c1
                         have x2 := HX5.out.c2
                         have x3 := HX5.out.c3
                         have hs5 := HB5.out.size
                         clear hr5 hg5))
                    refine (laid_any ⟨K, V, N, S⟩ w5 HOK.out hV2 hS2).mono ?_
                    rintro e w6 ⟨ya, yn, yc, rfl, hy, hyz, hb6⟩
                    have HYR := hide hy
                    have HB6 := hide (below_trans HB5.out hb6)
                    have HI6 := hide (row_keep HI5.out (below_grown hb6) (fun i e => by cases e))
                    have HP6 := hide (row_keep HR5.out (below_grown hb6) (fun i e => by cases e))
                    have HY6 := hide (HY5.out.below hb6)
                    have hs6 := HB6.out.size
                    have HYN := hide hy.1
                    clear hy hb6 HI5 HR5 HY5 HX5 x0 x1 x2 x3
                    go_wp2_with (at_builtin; refine join _ rfl _ _ rfl w1.heap.size _ (lay xs) rfl HY6.out ya yn yc (layB ⟨K, V, N, S⟩) rfl HYR.out hyz (by have h8 := HLAY.out; have h9 := HYN.out; have h10 := HLB9.out; omega) (by omega) ?_
                                 intro u7 w7 ho7 hg7
                                 obtain ⟨u7a, u7n, u7c, hu7, HU7⟩ : ∃ a n c, u7 = .slice a n c ∧ Hid (n = (lay xs ++ layB ⟨K, V, N, S⟩).length) := by obtain ⟨a, c, e⟩ := ho7.shape; exact ⟨a, _, c, e, rfl⟩
                                 subst hu7
                                 have HO7 := hide ho7
                                 have HB7 : Hid (Below w1.heap.size w1 w7) := HB6.out.grown hg7 HB6.out.size (own_blk HY6.out)
                                 have HI7 := hide (row_keep HI6.out hg7 (fun i e => row_types HY6.out HI6.out (by decide) i e))
                                 have HP7 := hide (row_keep HP6.out hg7 (fun i e => row_types HY6.out HP6.out (by decide) i e))
                                 clear ho7 hg7)
                    go_roundw
                    case rel =>
                      refine ⟨k + 1, xs ++ [⟨K, V, N, S⟩], _, _, _, _, _, _, _, _, _, by omega, by go_num, rfl, rfl, rfl, ?_, HSUM2, HALL2, HB7⟩
                      refine ⟨?_, ?_, ?_⟩
                      · rw [List.length_append, icells_append]; exact HI7.out
                      · rw [lay_append, lay_one]; exact HO7.out
                      · rw [List.length_append, offs_snoc, Nat.zero_add, ← HN4.out]; exact HP7.out
                    case measure => simp [intOf]; omega
              · have hob : (K == 1) = false := by rw [beq_eq_false_iff_ne]; exact ho
                have HOK : Hid ((⟨K, V, N, S⟩ : Itm).ok) := by show ¬ _; simp only; omega
                clear hz ho
                have HSUM2 : Hid (((xs ++ [(⟨K, V, N, S⟩ : Itm)]).map fun x => 1 + x.s.size).sum ≤ tot ss (k + 1)) := by
                  have h1 := HSUM2'.out
                  show _ ≤ _
                  rw [List.map_append, List.sum_append]; simpa using h1
                have HALL2 : Hid (∀ x, x ∈ xs ++ [(⟨K, V, N, S⟩ : Itm)] → x.ok ∧ x.v ≤ 9223372036854775807 ∧ x.s.size ≤ 2147483647) := by
                  intro x hx
                  rcases List.mem_append.1 hx with hx | hx
                  · exact HALL.out x hx
                  · simp only [List.mem_singleton] at hx; subst hx; exact ⟨HOK.out, hV2, hS2⟩
                have HLB9 : Hid ((layB ⟨K, V, N, S⟩).length ≤ 21474836480) := by
                  have h1 := lay_len [⟨K, V, N, S⟩] 2147483648 (fun x hx => by simp only [List.mem_singleton] at hx; subst hx; exact ⟨HOK.out, hV2⟩) (by simp; omega) (Nat.le_refl _)
                  rw [lay_one] at h1
                  show _ ≤ _; omega
                go_wp2_with (first
                  | (at_builtin; refine wpList_append_own _ rfl _ _ 35 rfl w1.heap.size 39 iI (.agg #[.int .i64 0, .int .i64 0, .int .i64 0, .string ⟨#[]⟩]) 4 40 Try.underlying35 hiI hI0 hI1 hI2 rfl (by omega) (.slice a3 n3 c3) xs.length (icells xs) rfl (row_keep (HSW.out.items) (below_grown ((Below.refl _ _).alloc (Nat.le_refl _) _)) (fun i e => by cases e)) ⟨wr.heap.size + 1, 0, none⟩ 1 1 [.int .i64 K, .int .i64 V, .int .i64 N, .string S] rfl rfl HNI.out HONE.out (by unfold maxLen; omega) (by omega) (by simp; omega) ?_
                     intro u3 w3 hr3 hg3 _
                     obtain ⟨u3a, u3n, u3c, hu3, HU3⟩ := row_named hr3
                     subst hu3
                     have HR3 := hide hr3
                     have HB3 : Hid (Below w1.heap.size w1 w3) := HBA.out.grown hg3 HBA.out.size (fun i e => (World.ownsRow.lt HSW.out.items i e).1)
                     have HP3 := hide (row_keep (row_keep HSW.out.places (below_grown ((Below.refl _ _).alloc (Nat.le_refl _) _)) (fun i e => by cases e)) hg3 (fun i e => row_types HSW.out.items HSW.out.places (by decide) i e))
                     have HY3 := hide (Base.keep (HSW.out.bytes.below ((Below.refl _ _).alloc (Nat.le_refl _) _)) hg3 (fun i j e1 e2 e => by subst e; exact row_types HSW.out.items HSW.out.bytes (by decide) i e2 e1))
                     have HX3 := hide ((HXW.out.below ((Below.refl _ _).alloc (Nat.le_refl _) _)).grown hg3 (fun e => by have h9 := (World.ownsRow.lt HS.out.items _ e).2; omega))
                     have hs3 := HB3.out.size
                     clear hr3 hg3)
                  | (at_builtin; refine wpList_append_own _ rfl _ _ 37 rfl w1.heap.size 3 iN (.int .i64 0) 1 8 Try.underlying37 hiN hN0 hN1 hN2 rfl (by omega) (.slice a5 n5 c5) xs.length (offs 0 xs) rfl (row_keep HP3.out (below_grown ((Below.refl _ _).alloc (Nat.le_refl _) _)) (fun i e => by cases e)) ⟨w3.heap.size, 0, none⟩ 1 1 [.int .i64 (n4 : Int)] rfl rfl (cell_news _ _ _) (one_int _) (by unfold maxLen; omega) (by omega) (by simp; omega) ?_
                     intro u5 w5 hr5 hg5 _
                     obtain ⟨u5a, u5n, u5c, hu5, HU5⟩ := row_named hr5
                     subst hu5
                     have HR5 := hide hr5
                     have HB5 : Hid (Below w1.heap.size w1 w5) := (HB3.out.alloc hs3 _).grown hg5 (by simp; omega) (fun i e => (World.ownsRow.lt HP3.out i e).1)
                     have HI5 := hide (row_keep (row_keep HR3.out (below_grown ((Below.refl _ _).alloc (Nat.le_refl _) _)) (fun i e => by cases e)) hg5 (fun i e => row_types HP3.out HR3.out (by decide) i e))
                     have HY5 := hide (Base.keep (HY3.out.below ((Below.refl _ _).alloc (Nat.le_refl _) _)) hg5 (fun i j e1 e2 e => by subst e; exact row_types HP3.out HY3.out (by decide) i e2 e1))
                     have HX5 := hide ((HX3.out.below ((Below.refl _ _).alloc (Nat.le_refl _) _)).grown hg5 (fun e => by have h9 := row_lt2 HP3.out HS.out.places _ e; omega))
                     have x0 := HX5.out.c0
                     have x1 := HX5.out.c1
                     have x2 := HX5.out.c2
                     have x3 := HX5.out.c3
                     have hs5 := HB5.out.size
                     clear hr5 hg5))
                refine (laid_any ⟨K, V, N, S⟩ w5 HOK.out hV2 hS2).mono ?_
                rintro e w6 ⟨ya, yn, yc, rfl, hy, hyz, hb6⟩
                have HYR := hide hy
                have HB6 := hide (below_trans HB5.out hb6)
                have HI6 := hide (row_keep HI5.out (below_grown hb6) (fun i e => by cases e))
                have HP6 := hide (row_keep HR5.out (below_grown hb6) (fun i e => by cases e))
                have HY6 := hide (HY5.out.below hb6)
                have hs6 := HB6.out.size
                have HYN := hide hy.1
                clear hy hb6 HI5 HR5 HY5 HX5 x0 x1 x2 x3
                go_wp2_with (at_builtin; refine join _ rfl _ _ rfl w1.heap.size _ (lay xs) rfl HY6.out ya yn yc (layB ⟨K, V, N, S⟩) rfl HYR.out hyz (by have h8 := HLAY.out; have h9 := HYN.out; have h10 := HLB9.out; omega) (by omega) ?_
                             intro u7 w7 ho7 hg7
                             obtain ⟨u7a, u7n, u7c, hu7, HU7⟩ : ∃ a n c, u7 = .slice a n c ∧ Hid (n = (lay xs ++ layB ⟨K, V, N, S⟩).length) := by obtain ⟨a, c, e⟩ := ho7.shape; exact ⟨a, _, c, e, rfl⟩
                             subst hu7
                             have HO7 := hide ho7
                             have HB7 : Hid (Below w1.heap.size w1 w7) := HB6.out.grown hg7 HB6.out.size (own_blk HY6.out)
                             have HI7 := hide (row_keep HI6.out hg7 (fun i e => row_types HY6.out HI6.out (by decide) i e))
                             have HP7 := hide (row_keep HP6.out hg7 (fun i e => row_types HY6.out HP6.out (by decide) i e))
                             clear ho7 hg7)
                go_roundw
                case rel =>
                  refine ⟨k + 1, xs ++ [⟨K, V, N, S⟩], _, _, _, _, _, _, _, _, _, by omega, by go_num, rfl, rfl, rfl, ?_, HSUM2, HALL2, HB7⟩
                  refine ⟨?_, ?_, ?_⟩
                  · rw [List.length_append, icells_append]; exact HI7.out
                  · rw [lay_append, lay_one]; exact HO7.out
                  · rw [List.length_append, offs_snoc, Nat.zero_add, ← HN4.out]; exact HP7.out
                case measure => simp [intOf]; omega
      · have hki : ¬ (k : Int) < (len : Int) := by omega
        have HXL : Hid (xs.length ≤ 2147483647) := by
          have h1 : ∀ ys : List Itm, ys.length ≤ (ys.map fun x => 1 + x.s.size).sum := by
            intro ys
            induction ys with
            | nil => simp
            | cons y r ih => simp only [List.length_cons, List.map_cons, List.sum_cons]; omega
          have h2 := h1 xs
          have h3 := HSUM.out
          have h4 := HTOT.out
          have h5 := tot_le ss k len hk
          show _ ≤ _; omega
        have HLAY : Hid ((lay xs).length ≤ 21474836470) := by
          have h1 := lay_len xs 2147483647 (fun x hx => ⟨(HALL.out x hx).1, (HALL.out x hx).2.1⟩) (by have h2 := HSUM.out; have h3 := HTOT.out; have h5 := tot_le ss k len hk; omega) (by omega)
          show _ ≤ _; omega
        have HN4 : Hid (n4 = (lay xs).length) := (Got.cap HS.out.bytes).2
        have HN3 : Hid (n3 = xs.length) := by
          obtain ⟨a', k', c', e1, e2⟩ := row_named HS.out.items
          cases e1; exact e2.out
        have hc4 := (Got.cap HS.out.bytes).1
        have HZ4 : Hid (a4 = none → n4 = 0 ∧ c4 = 0) := Got.nil HS.out.bytes
        have hn4 : n4 ≤ 21474836470 := by rw [HN4.out]; exact HLAY.out
        have hn3 : n3 ≤ 2147483647 := by rw [HN3.out]; exact HXL.out
        have HSPLIT : Hid (∀ i, (lay (xs.take i)).length + (lay (xs.drop i)).length = n4) := by
          intro i
          rw [HN4.out, ← List.length_append, ← lay_append, List.take_append_drop]
        have HFD : Hid (∀ i, i < xs.length → ∀ (gc : Nat) (rest : List (BitVec 8)) (p : Nat) (W : World), Cur W gc (layB (itAt xs i) ++ rest) p → Calls Try.prog 19 #[.pointer (some ⟨gc, 0, none⟩), .agg #[.int .i64 (itAt xs i).kind, .int .i64 (itAt xs i).v, .int .i64 (itAt xs i).n, .string (itAt xs i).s]] W fun e w' => Founds W gc rest (p + (layB (itAt xs i)).length) e w') := by
          intro i hi gc rest p W hc
          have hm : itAt xs i ∈ xs := by
            unfold itAt
            rw [List.getD_eq_getElem?_getD, List.getElem?_eq_getElem hi]; exact List.getElem_mem hi
          obtain ⟨h1, h2, h3⟩ := HALL.out _ hm
          by_cases k0 : (itAt xs i).kind = 0
          · exact found0 _ gc p rest W k0 h1 h2 hc
          · by_cases k1 : (itAt xs i).kind = 1
            · exact found1 _ gc p rest W k1 h1 h3 hc
            · by_cases k2 : (itAt xs i).kind = 2
              · exact found2 _ gc p rest W k2 h1 h3 hc
              · have k3 : (itAt xs i).kind = 3 := by
                  unfold Itm.ok at h1
                  omega
                exact found3 _ gc p rest W k3 h1 h3 hc
        go_wp2_with fail
        refine (newCursor_any a4 n4 c4 (lay xs) wr (Got.rd HS.out.bytes (by have := HLAY.out; omega)) hc4 (by omega) (Got.nil HS.out.bytes)).mono ?_
        rintro e w2 ⟨gc, rfl, hgc, hcur, hb2⟩
        have HS2 := hide (HS.out.below hb2)
        have HB2 := hide (below_trans HB.out hb2)
        have HC2 := hide hcur
        have HOF := hide (HS.out.off hgc)
        have hgcw : w1.heap.size ≤ gc := by have := HB.out.size; omega
        clear hb2 hcur hgc HS HB
        go_wp2_with fail
        go_loopw [10] (fun y wr => ∃ i : Nat, i ≤ n3 ∧ y = .int .i64 (i : Int) ∧ Hid (Cur wr gc (lay (xs.drop i)) (lay (xs.take i)).length) ∧ Hid (St wr w1.heap.size (.slice a3 n3 c3) (.slice a4 n4 c4) (.slice a5 n5 c5) xs) ∧ Hid (Below w1.heap.size w1 wr)) (fun y _ => n3 - (intOf y).toNat)
        case atStart => exact ⟨0, Nat.zero_le _, rfl, HC2, HS2, HB2⟩
        case round =>
          clear HC2 HS2 HB2
          obtain ⟨i, hi, rfl, HC, HS, HB⟩ := hrel
          by_cases hlt2 : i < n3
          · have hii : (i : Int) < (n3 : Int) := by omega
            have hix : i < xs.length := by rw [← HN3.out]; exact hlt2
            obtain ⟨hm3, hm5, g3, g5, rfl, rfl, q0, q1, q2, q3, q5⟩ := HS.out.at i hix
            have hi5 : (i : Int) < (n5 : Int) := by omega
            have HC' : Hid (Cur wr gc (layB (itAt xs i) ++ lay (xs.drop (i + 1))) (lay (xs.take i)).length) := by
              have h1 := HC.out
              rw [drop_it xs i hix, show lay (itAt xs i :: xs.drop (i + 1)) = layB (itAt xs i) ++ lay (xs.drop (i + 1)) by simp [lay]] at h1
              exact h1
            have hsp := HSPLIT.out i
            have HRE : Hid (∀ V, Below wr.heap.size wr V → Calls Try.prog 18 #[.pointer (some ⟨gc, 0, none⟩)] V fun e w' => e = .returned (.int .i64 ((lay (xs.drop i)).length : Nat)) ∧ w' = V) := fun V hV => rest_any gc _ _ V (HC.out.below hV)
            have HFO : Hid (∀ V, Below wr.heap.size wr V → Calls Try.prog 19 #[.pointer (some ⟨gc, 0, none⟩), .agg #[.int .i64 (itAt xs i).kind, .int .i64 (itAt xs i).v, .int .i64 (itAt xs i).n, .string (itAt xs i).s]] V fun e w' => Founds V gc (lay (xs.drop (i + 1))) ((lay (xs.take i)).length + (layB (itAt xs i)).length) e w') := fun V hV => HFD.out i hix gc _ _ V (HC'.out.below hV)
            have HPOS : Hid ((lay (xs.take i)).length + (layB (itAt xs i)).length = (lay (xs.take (i + 1))).length) := by
              show _ = _
              rw [take_it xs i hix, lay_append, lay_one, List.length_append]
            rw [HPOS.out] at HFO
            generalize (itAt xs i).kind = IK at q0 HFO
            generalize (itAt xs i).v = IV at q1 HFO
            generalize (itAt xs i).n = IN at q2 HFO
            generalize (itAt xs i).s = IS at q3 HFO
            generalize (lay (xs.drop i)).length = R at hsp HRE
            generalize (lay (xs.take i)).length = A at hsp q5
            have hsub : (n4 : Int) - (A : Int) = (R : Int) := by omega
            have hg3c : some g3 ≠ some gc := fun e => HOF.out.1 e
            have hg5c : some g5 ≠ some gc := fun e => HOF.out.2.2 e
            have HG3C := hide hg3c
            have HG5C := hide hg5c
            clear hg3c hg5c
            have hne : ((R : Int) != (R : Int)) = false := by simp
            have hwr : IntKind.i64.wrap ((n4 : Int) - (A : Int)) = (R : Int) := by rw [hsub, IntKind.wrap_i64]; omega
            have hwr2 : IntKind.i64.wrap (R : Int) = (R : Int) := by rw [IntKind.wrap_i64]; omega
            have hne2 : ((R : Int) != IntKind.i64.wrap ((n4 : Int) - (A : Int))) = false := by rw [hwr]; exact hne
            have hAi : (A : Int) ≤ 21474836470 := by omega
            clear hsp HC HC' HPOS hm5 hm3
            go_wp2_with fail
            go_region_held (fun V => V.cell? ⟨g5, i, none⟩ = some (.int .i64 (A : Int)) ∧ V.cell? ⟨g3, i * 4, none⟩ = some (.int .i64 IK) ∧ V.cell? ⟨g3, i * 4 + 1, none⟩ = some (.int .i64 IV) ∧ V.cell? ⟨g3, i * 4 + 2, none⟩ = some (.int .i64 IN) ∧ V.cell? ⟨g3, i * 4 + 3, none⟩ = some (.string IS)) (go_keep) (first
              | (go_at_call 18; refine (HRE.out _ (by first | exact Below.refl _ _ | exact (Below.refl _ _).drew | exact (Below.refl _ _).drew.drew)).mono ?_; rintro e w3 ⟨rfl, rfl⟩)
              | (go_at_call 19; refine (HFO.out _ (by first | exact Below.refl _ _ | exact (Below.refl _ _).drew | exact (Below.refl _ _).drew.drew)).mono ?_; rintro e w3 ⟨rfl, hc3, hg3⟩; have HC3 := hide hc3; have HG3 := hide hg3; have b5 := hg3.cell (by first | exact q5 | assumption) HG5C.out; have b0 := hg3.cell (by first | exact q0 | assumption) HG3C.out; have b1 := hg3.cell (by first | exact q1 | assumption) HG3C.out; have b2 := hg3.cell (by first | exact q2 | assumption) HG3C.out; have b3 := hg3.cell (by first | exact q3 | assumption) HG3C.out; clear hc3 hg3))
            all_goals
              go_wp2_with fail
              go_roundw
              case rel =>
                have hbd : Below w1.heap.size w1 wr.drew := HB.out.drew
                exact ⟨i + 1, by omega, by go_num, HC3, (HS.out.below ((Below.refl _ _).drew)).keep HG3.out (fun j e => by cases e; exact HOF.out), hbd.grown HG3.out hbd.size (fun j e => by cases e; exact hgcw)⟩
              case measure => simp [intOf]; omega
          · have hin : ¬ (i : Int) < (n3 : Int) := by omega
            have HC2 : Hid (Cur wr gc [] n4) := by
              have h1 := HC.out
              have e1 : xs.drop i = [] := List.drop_eq_nil_of_le (by have := HN3.out; omega)
              have e2 : xs.take i = xs := List.take_of_length_le (by have := HN3.out; omega)
              rw [e1, e2, ← HN4.out] at h1
              exact h1
            have HEN : Hid (Calls Try.prog 20 #[.pointer (some ⟨gc, 0, none⟩)] wr fun e w' => e = .returned (.agg #[.int .i64 0, .int .i64 0]) ∧ Below wr.heap.size wr w') := end_any gc n4 [] wr HC2.out
            clear HC
            go_wp2_with fail
            refine HEN.out.mono ?_
            rintro e w2 ⟨rfl, hb2⟩
            have HB2 := hide (below_trans HB.out hb2)
            have HS2 := hide (HS.out.below hb2)
            clear hb2 HEN HB HS HC2
            have HPOSW := HB2.out.size
            go_wp2_with (at_builtin; refine push2 _ rfl _ _ rfl w1.heap.size _ (lay xs) rfl (HS2.out.bytes.below ((Below.refl w2.heap.size w2).alloc (Nat.le_refl _) _)) ⟨w2.heap.size, 0, none⟩ 1 (BitVec.ofNat 8 0) rfl (cell_one_new _ _ _ 0 _ rfl) (by have := HLAY.out; omega) (by simp; omega) ?_
                         intro g6 c6 w3 ho3 hg3
                         have HW3 := hide (push_left HS2.out ho3 hg3 HN4.out (by have := HLAY.out; omega))
                         have HB3 : Hid (Below w1.heap.size w1 w3) := push_below (HB2.out.alloc HPOSW _) hg3 (own_blk HS2.out.bytes) (by simp; omega)
                         have HO3 := hide ho3
                         have hr3 := ho3.room
                         have hc3 := (Got.cap ho3).1
                         clear ho3 hg3)
            refine (newCursor_any _ _ c6 (lay xs ++ [BitVec.ofNat 8 0]) w3 (Got.rd HO3.out (by have := HLAY.out; simp; omega)) hc3 (by have := HLAY.out; omega) (fun h => by cases h)).mono ?_
            rintro e w4 ⟨gd, rfl, hgd, hcur, hb4⟩
            have HS4 := hide (HW3.out.below hb4)
            have HB4 := hide (below_trans HB3.out hb4)
            have HC4 := hide hcur
            have HOD := hide (HW3.out.off hgd)
            have hgdw : w1.heap.size ≤ gd := by have := HB3.out.size; omega
            clear hb4 hcur hgd HW3 HB3 HO3 HS2 HB2
            go_wp2_with fail
            go_loopw [12] (fun y wr => ∃ i : Nat, i ≤ n3 ∧ y = .int .i64 (i : Int) ∧ Hid (Cur wr gd (lay (xs.drop i) ++ [BitVec.ofNat 8 0]) (lay (xs.take i)).length) ∧ Hid (St2 wr w1.heap.size (.slice a3 n3 c3) a4 n4 (.slice a5 n5 c5) xs) ∧ Hid (Below w1.heap.size w1 wr)) (fun y _ => n3 - (intOf y).toNat)
            case atStart => exact ⟨0, Nat.zero_le _, rfl, HC4, HS4, HB4⟩
            case round =>
              clear HC4 HS4 HB4
              obtain ⟨i, hi, rfl, HC, HS, HB⟩ := hrel
              by_cases hlt3 : i < n3
              · have hii : (i : Int) < (n3 : Int) := by omega
                have hix : i < xs.length := by rw [← HN3.out]; exact hlt3
                obtain ⟨hm3, hm5, g3, g5, rfl, rfl, q0, q1, q2, q3, q5⟩ := HS.out.at i hix
                have HC' : Hid (Cur wr gd (layB (itAt xs i) ++ (lay (xs.drop (i + 1)) ++ [BitVec.ofNat 8 0])) (lay (xs.take i)).length) := by
                  have h1 := HC.out
                  rw [drop_it xs i hix, show lay (itAt xs i :: xs.drop (i + 1)) = layB (itAt xs i) ++ lay (xs.drop (i + 1)) by simp [lay], List.append_assoc] at h1
                  exact h1
                have HFO := hide (HFD.out i hix gd _ _ wr HC'.out)
                have HPOS : Hid ((lay (xs.take i)).length + (layB (itAt xs i)).length = (lay (xs.take (i + 1))).length) := by
                  show _ = _
                  rw [take_it xs i hix, lay_append, lay_one, List.length_append]
                rw [HPOS.out] at HFO
                generalize (itAt xs i).kind = IK at q0 HFO
                generalize (itAt xs i).v = IV at q1 HFO
                generalize (itAt xs i).n = IN at q2 HFO
                generalize (itAt xs i).s = IS at q3 HFO
                clear HC HC' HPOS hm5 hm3 q5
                go_wp2_with fail
                refine HFO.out.mono ?_
                rintro e w5 ⟨rfl, hc5, hg5⟩
                have HC5 := hide hc5
                have HS5 := hide (HS.out.keep hg5 (fun j e => by cases e; exact HOD.out))
                have HB5 : Hid (Below w1.heap.size w1 w5) := HB.out.grown hg5 HB.out.size (fun j e => by cases e; exact hgdw)
                clear hc5 hg5
                go_wp2_with fail
                go_roundw
                case rel => exact ⟨i + 1, by omega, by go_num, HC5, HS5, HB5⟩
                case measure => simp [intOf]; omega
              · have hin : ¬ (i : Int) < (n3 : Int) := by omega
                have HC2 : Hid (Cur wr gd [BitVec.ofNat 8 0] n4) := by
                  have h1 := HC.out
                  have e1 : xs.drop i = [] := List.drop_eq_nil_of_le (by have := HN3.out; omega)
                  have e2 : xs.take i = xs := List.take_of_length_le (by have := HN3.out; omega)
                  rw [e1, e2, ← HN4.out] at h1
                  exact h1
                have HEN : Hid (Calls Try.prog 20 #[.pointer (some ⟨gd, 0, none⟩)] wr fun e w' => e = .returned (.agg #[.int .i64 22, .int .i64 (n4 : Int)]) ∧ Below wr.heap.size wr w') := end_any gd n4 [BitVec.ofNat 8 0] wr HC2.out
                clear HC
                go_wp2_with fail
                refine HEN.out.mono ?_
                rintro e w2 ⟨rfl, hb2⟩
                have HB2 := hide (below_trans HB.out hb2)
                have HS2 := hide (HS.out.below hb2)
                clear hb2 HEN HB HS HC2
                go_wp2_with fail
                go_loopg [13] n3 (fun gq s13 wr => ∃ i : Nat, i + gq = n3 ∧ s13 = .int .i64 (i : Int) ∧ Hid (St2 wr w1.heap.size (.slice a3 n3 c3) a4 n4 (.slice a5 n5 c5) xs) ∧ Hid (Below w1.heap.size w1 wr))
                case atStart => exact ⟨0, by omega, rfl, HS2, HB2⟩
                case round =>
                  clear HS2 HB2
                  obtain ⟨i, hig, rfl, HS, HB⟩ := hrel
                  cases gk with
                  | zero =>
                    have hin : ¬ (i : Int) < (n3 : Int) := by omega
                    go_wp2_with fail
                    refine (head_any wr).mono ?_
                    rintro e w2 ⟨rfl, hb2⟩
                    have HB2 := hide (below_trans HB.out hb2)
                    clear hb2
                    go_wp2_with fail
                    go_ret
                    exact ⟨rfl, HB2.out⟩
                  | succ gq =>
                    have hii : (i : Int) < (n3 : Int) := by omega
                    have hix : i < xs.length := by rw [← HN3.out]; omega
                    obtain ⟨hm3, hm5, g3, g5, rfl, rfl, q0, q1, q2, q3, q5⟩ := HS.out.at i hix
                    have hi5 : (i : Int) < (n5 : Int) := by omega
                    have HN5 := hide hm5
                    clear q2 q3 hm3 hm5
                    by_cases hK : (itAt xs i).kind = 0
                    · by_cases hV : 0 < (itAt xs i).v
                      · have HLB : Hid (layB (itAt xs i) = put (itAt xs i).v.toNat) := by show _ = _; unfold layB; rw [if_pos hK]
                        have hVm : (itAt xs i).v ≤ 9223372036854775807 := by
                          have hm : itAt xs i ∈ xs := by
                            unfold itAt
                            rw [List.getD_eq_getElem?_getD, List.getElem?_eq_getElem hix]; exact List.getElem_mem hix
                          exact (HALL.out _ hm).2.1
                        have HDR : Hid (lay (xs.drop i) = put (itAt xs i).v.toNat ++ lay (xs.drop (i + 1))) := by
                          show _ = _
                          rw [drop_it xs i hix, ← HLB.out]; simp [lay]
                        have hq0 : (itAt xs i).kind = 0 := hK
                        rw [hq0] at q0
                        generalize hIV : (itAt xs i).v = IV at q1 hV hVm HDR
                        have HQV := hide hIV
                        clear hIV
                        obtain ⟨m, rfl⟩ := Int.eq_ofNat_of_zero_le (by omega : 0 ≤ IV)
                        rw [Int.toNat_natCast] at HDR
                        clear hK hq0 HLB
                        generalize hA : (lay (xs.take i)).length = A at q5
                        have HA := hide hA
                        clear hA
                        go_wp2_with fail
                        refine (newCursor_any a4 n4 c4 (lay xs) wr HS.out.bytes hc4 (by omega) HZ4.out).mono ?_
                        rintro e w2 ⟨gf, rfl, hgf, hcur, hb2⟩
                        have HS2 := hide (HS.out.below hb2)
                        have HB2 := hide (below_trans HB.out hb2)
                        have HC2 := hide hcur
                        have HOG := hide (HS.out.off hgf)
                        have hgfw : w1.heap.size ≤ gf := by have := HB.out.size; omega
                        clear hb2 hcur hgf HS HB q0 q1 q5
                        go_wp2_with fail
                        go_loopg [15] i (fun g2 s15 wy => ∃ k : Nat, k + g2 = i ∧ s15 = .int .i64 (k : Int) ∧ Hid (Cur wy gf (lay (xs.drop k)) (lay (xs.take k)).length) ∧ Hid (St2 wy w1.heap.size (.slice (some ⟨g3, 0, none⟩) n3 c3) a4 n4 (.slice (some ⟨g5, 0, none⟩) n5 c5) xs) ∧ Hid (Below w1.heap.size w1 wy))
                        case atStart => exact ⟨0, by omega, rfl, HC2, HS2, HB2⟩
                        case round =>
                          clear HC2 HS2 HB2
                          obtain ⟨k2, hkg, rfl, HC, HS, HB⟩ := hrel
                          cases gk with
                          | succ g2 =>
                            have hki2 : (k2 : Int) < (i : Int) := by omega
                            have hkn : (k2 : Int) < (n3 : Int) := by omega
                            have hkx : k2 < xs.length := by omega
                            obtain ⟨hm3, hm5, g3', g5', e3, e5, q0, q1, q2, q3, q5⟩ := HS.out.at k2 hkx
                            cases e3
                            cases e5
                            have HC' : Hid (Cur wr gf (layB (itAt xs k2) ++ lay (xs.drop (k2 + 1))) (lay (xs.take k2)).length) := by
                              have h1 := HC.out
                              rw [drop_it xs k2 hkx, show lay (itAt xs k2 :: xs.drop (k2 + 1)) = layB (itAt xs k2) ++ lay (xs.drop (k2 + 1)) by simp [lay]] at h1
                              exact h1
                            have HFO := hide (HFD.out k2 hkx gf _ _ wr HC'.out)
                            have HPOS : Hid ((lay (xs.take k2)).length + (layB (itAt xs k2)).length = (lay (xs.take (k2 + 1))).length) := by
                              show _ = _
                              rw [take_it xs k2 hkx, lay_append, lay_one, List.length_append]
                            rw [HPOS.out] at HFO
                            generalize (itAt xs k2).kind = IK at q0 HFO
                            generalize (itAt xs k2).v = IV at q1 HFO
                            generalize (itAt xs k2).n = IN at q2 HFO
                            generalize (itAt xs k2).s = IS at q3 HFO
                            clear HC HC' HPOS hm5 hm3 q5
                            go_wp2_with fail
                            refine HFO.out.mono ?_
                            rintro e w5 ⟨rfl, hc5, hg5⟩
                            have HC5 := hide hc5
                            have HS5 := hide (HS.out.keep hg5 (fun j e => by cases e; exact HOG.out))
                            have HB5 : Hid (Below w1.heap.size w1 w5) := HB.out.grown hg5 HB.out.size (fun j e => by cases e; exact hgfw)
                            clear hc5 hg5
                            go_wp2_with fail
                            go_roundg g2
                            case measure => omega
                            case rel => exact ⟨k2 + 1, by omega, by first | rfl | go_num, HC5, HS5, HB5⟩
                          | zero =>
                            have hk2 : k2 = i := by omega
                            subst hk2
                            have hkk : ¬ (k2 : Int) < (k2 : Int) := by omega
                            obtain ⟨hm3, hm5, g3', g5', e3, e5, q0, q1, q2, q3, q5⟩ := HS.out.at k2 hix
                            cases e3
                            cases e5
                            rw [HQV.out] at q1
                            rw [HA.out] at q5
                            obtain ⟨mm, hmm⟩ : ∃ mm, mm + 1 = m := ⟨m - 1, by omega⟩
                            have hsub : (m : Int) - 1 = (mm : Int) := by omega
                            have hwr : IntKind.i64.wrap ((m : Int) - 1) = (mm : Int) := by rw [hsub, IntKind.wrap_i64]; omega
                            have hwr2 : IntKind.i64.wrap (mm : Int) = (mm : Int) := by rw [IntKind.wrap_i64]; omega
                            have HC' : Hid (Cur wr gf (put m ++ lay (xs.drop (k2 + 1))) A) := by
                              have h1 := HC.out
                              rw [HDR.out, HA.out] at h1
                              exact h1
                            have HNU : Hid (∀ V, Below wr.heap.size wr V → Calls Try.prog 21 #[.pointer (some ⟨gf, 0, none⟩), .int .i64 (mm : Int)] V fun e w' => e = .returned (.int .i64 0) ∧ V.grownBy w' (some gf) ∧ Dead w' gf A 23) := by
                              intro V hV'
                              refine (num_any gf A (put m ++ lay (xs.drop (k2 + 1))) (mm : Int) V (HC'.out.below hV')).mono ?_
                              rintro e w' ⟨rfl, hg, hd⟩
                              rw [atMost_much m _ _ (by omega) (by omega)] at hd ⊢
                              exact ⟨rfl, hg, hd⟩
                            have hg3c : some g3 ≠ some gf := fun e => HOG.out.1 e
                            have hg5c : some g5 ≠ some gf := fun e => HOG.out.2.2 e
                            have HG3C := hide hg3c
                            have HG5C := hide hg5c
                            clear hg3c hg5c HC HC' q0 q2 q3 hm3 hm5 hmm
                            go_wp2_with fail
                            go_region_held (fun V => V.cell? ⟨g5, k2, none⟩ = some (.int .i64 (A : Int)) ∧ V.cell? ⟨g3, k2 * 4 + 1, none⟩ = some (.int .i64 (m : Int))) (go_keep) (first
                              | (go_at_call 21; refine (HNU.out _ (by first | exact Below.refl _ _ | exact (Below.refl _ _).drew | exact (Below.refl _ _).drew.drew)).mono ?_; rintro e w3 ⟨rfl, hg3, hd3⟩; have HD3 := hide hd3; have HG3 := hide hg3; have b5 := hg3.cell (by first | exact q5 | assumption) HG5C.out; have b1 := hg3.cell (by first | exact q1 | assumption) HG3C.out; have hs3 := hd3.1.lt; clear hd3 hg3)
                              | (go_at_call 20; refine (end_dead gf A 23 _ (by first | exact HD3.out)).mono ?_; rintro e w4 ⟨rfl, hb4⟩; have HB4 := hide hb4; have d5 : w4.cell? ⟨g5, k2, none⟩ = some (.int .i64 (A : Int)) := (hb4.cell (p := ⟨g5, k2, none⟩) (block_lt_of_cell b5)).trans b5; have d1 : w4.cell? ⟨g3, k2 * 4 + 1, none⟩ = some (.int .i64 (m : Int)) := (hb4.cell (p := ⟨g3, k2 * 4 + 1, none⟩) (block_lt_of_cell b1)).trans b1; have HD4 : Hid (Dead w4 gf A 23) := ⟨HD3.out.1.grown (below_grown hb4) (by simp), HD3.out.2⟩; clear hb4)
                              | (go_at_call 18; refine (rest_dead gf A 23 _ (by first | exact HD4.out)).mono ?_; rintro e w5 ⟨rfl, rfl⟩))
                            all_goals
                              go_wp2_with fail
                              have hbd : Below w1.heap.size w1 wr.drew := HB.out.drew
                              have HS5 := hide (((HS.out.below ((Below.refl _ _).drew)).keep HG3.out (fun j e => by cases e; exact HOG.out)).below HB4.out)
                              have HB5 := hide (below_trans (hbd.grown HG3.out hbd.size (fun j e => by cases e; exact hgfw)) HB4.out)
                              go_roundg gq
                              case measure => omega
                              case rel => exact ⟨k2 + 1, by omega, by first | rfl | go_num, HS5, HB5⟩
                      · rw [hK] at q0
                        generalize (itAt xs i).v = IV at q1 hV
                        clear hK
                        go_wp2_with fail
                        go_roundg gq
                        case measure => omega
                        case rel => exact ⟨i + 1, by omega, by first | rfl | go_num, HS, HB⟩
                    · have hKb : ((itAt xs i).kind == 0) = false := by rw [beq_eq_false_iff_ne]; exact hK
                      generalize (itAt xs i).kind = IK at q0 hKb hK
                      clear hK
                      go_wp2_with fail
                      go_roundg gq
                      case measure => omega
                      case rel => exact ⟨i + 1, by omega, by first | rfl | go_num, HS, HB⟩
end Go.Proofs.Ytpmhcehheibjhaa.numsRows
