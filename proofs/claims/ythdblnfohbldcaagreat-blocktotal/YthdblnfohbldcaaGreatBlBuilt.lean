/-
  built: a block of those of the entries that a builder takes.
-/
import Derived.Test.YthdblnfohbldcaaGreatBlBS
import Derived.Test.YthdblnfohbldcaaGreatBlMod
import Derived.Test.YthdblnfohbldcaaGreatJbPair
import Derived.Deep.RegionHeldLaw
import Derived.Deep.DeepCutAuto
namespace Go.Proofs.YthdblnfohbldcaaGreat.Bl
open Go.ChangeShapes Go.WideShapes Go.ChangeAt Go.RowKit
open Go.Proofs.YthdblnfohbldcaaGreat.Base Go.Proofs.YthdblnfohbldcaaGreat.Nums
open Go.Proofs.YthdblnfohbldcaaGreat.Jb (OwnP RdP pushP ownp_none pr0)
set_option linter.unusedVariables false
theorem results_four {fn : Func} {t u v x : Tmp} (h : fn.results = #[.tmp t, .tmp u, .tmp v, .tmp x]) (tmps : Array Value) (P : Program) (w : World) :
    (results fn tmps).run P w = .ok (.tuple #[tmps.getD t undef, tmps.getD u undef, tmps.getD v undef, tmps.getD x undef]) w := by
  simp [results, h]
theorem ty_pair {w : World} {base n : Nat} {v : Value} {ps : List En} (h : OwnP w base v ps) : Ty w v.ownBlock 61 := own_ty h
theorem pair_ne : (61 : TypeId) ≠ 5 ∧ (61 : TypeId) ≠ 3 := by decide
/-- A list of pairs stays where a builder works. -/
theorem ownp_bf {w w' : World} {base q b0 : Nat} {v : Value} {ps : List En} (h : OwnP w base v ps) (hk : KeptF w w' (BF w q b0)) (hq : ∀ i, v.ownBlock = some i → i ≠ q) : OwnP w' base v ps := by
  refine h.same (fun i hi => hk.block i (h.blk i hi).2 ?_)
  rintro (h1 | ⟨_, h1 | h1⟩)
  · exact hq i hi h1
  · exact ty_ne (ty_pair (n := 0) h) h1 pair_ne.1 i hi rfl
  · exact ty_ne (ty_pair (n := 0) h) h1 pair_ne.2 i hi rfl
/-- A builder stays where a list of pairs grows. -/
theorem bs_push {w w' : World} {q base r b0 : Nat} {m : Int} {L : List En} {v : Value} {ps : List En} (h : BS w q base r m L) (hp : OwnP w b0 v ps) (hg : w.grownBy w' v.ownBlock) (hq : ∀ i, v.ownBlock = some i → i ≠ q) : BS w' q base r m L := by
  refine h.keep hg (fun i hi => ⟨hq i hi, ?_, ?_⟩)
  · intro h1; exact ty_ne (ty_pair (n := 0) hp) h1 pair_ne.1 i hi rfl
  · intro h1; exact ty_ne (ty_pair (n := 0) hp) h1 pair_ne.2 i hi rfl
theorem add_kv (r : Nat) (m : Int) (h : 0 < r) : addA r m [] ⟨#[107]⟩ ⟨#[118]⟩ = 0 := by
  unfold addA addE
  rw [if_neg (by decide), if_neg (by decide), if_neg (by simp)]
/-- What stands behind the gathering. -/
def GP (w0 w : World) (q base r : Nat) (m : Int) (ta : Option Addr) (tc : Nat) (L : List En) : Prop :=
  BS w q base r m L ∧ OkB r L ∧ OwnP w base (.slice ta L.length tc) L ∧ Below w0.heap.size w0 w ∧ base ≤ w.heap.size
theorem ownp_mono {w : World} {base base' : Nat} {v : Value} {ps : List En} (h : OwnP w base v ps) (hb : base' ≤ base) : OwnP w base' v ps := by
  refine ⟨h.1, ?_⟩
  rcases h.2 with h2 | ⟨g, cap, cur, h1, h2, h3⟩
  · exact .inl h2
  · exact .inr ⟨g, cap, cur, h1, by omega, h3⟩
theorem tail_eq (n : Nat) : (((n : Nat) : Int) == (n : Int)) = true := by simp
set_option maxHeartbeats 4000000 in
set_option maxRecDepth 100000 in
theorem built_any (r : Nat) (m : Int) (la : Option Addr) (ln lc : Nat) (ps : List En) (w : World) (hl : RdP w la ln ps) (hsz : ∀ p ∈ ps, p.1.size ≤ 140737488355328 ∧ p.2.size ≤ 140737488355328) (hln : ln ≤ 140737488355328) (hr : 1 ≤ r ∧ r ≤ 64 ∧ 64 ≤ m ∧ m ≤ 65536) :
    Calls Tryz.prog 8 #[.int .i64 (r : Int), .int .i64 m, .slice la ln lc] w fun e w' => ∃ (L : List En) (g : Nat) (pa : Option Addr) (pc : Nat), e = .returned (.tuple #[.slice pa L.length pc, .slice (some ⟨g, 0, none⟩) ((packB (rawE r L)).length + 4) ((packB (rawE r L)).length + 4), .int .i64 ((rawE r L).length : Nat), .bool true]) ∧ L ≠ [] ∧ OkB r L ∧ OwnP w' w.heap.size (.slice pa L.length pc) L ∧ Own w' w.heap.size (.slice (some ⟨g, 0, none⟩) ((packB (rawE r L)).length + 4) ((packB (rawE r L)).length + 4)) (tileB (rawE r L)) ∧ Below w.heap.size w w' := by
  have HNB := hide (new_bs r m w hr)
  have HL := hide hl
  have HSZ := hide hsz
  obtain ⟨q, hq⟩ : ∃ q, w.heap.size = q := ⟨_, rfl⟩
  have HQ := hide hq
  have hr1 := hr.1
  clear hl hsz
  go_enter Tryz.func8, Tryz.ntmps8
  go_wp2_with (go_at_call 19; refine HNB.out.mono ?_; rintro e w1 ⟨rfl, hbs, hs1, hb1⟩; rw [hq] at hbs hs1 ⊢; have HB1 := hide hb1; have HBS1 := hide hbs; have HS1 := hide hs1; clear hbs hs1 hb1)
  go_loopw [12, 13, 14] (fun s12 s13 s14 wr => ∃ (i : Nat) (fl : Bool) (L : List En) (ta : Option Addr) (tc : Nat), i ≤ ln ∧ s14 = .int .i64 (i : Int) ∧ s13 = .bool fl ∧ s12 = .slice ta L.length tc ∧ Hid (GP w wr q (q + 1) r m ta tc L)) (fun _ _ s14 _ => ln - (intOf s14).toNat)
  case atStart => exact ⟨0, false, [], none, 0, Nat.zero_le _, rfl, rfl, rfl, HBS1.out, okB_nil r (by omega), ownp_none _ _, HB1.out, by rw [HS1.out]; exact Nat.le_refl _⟩
  case round =>
    rename World => V0
    obtain ⟨i, fl, L, ta, tc, hi, rfl, rfl, rfl, HG⟩ := hrel
    obtain ⟨cn, hcn⟩ : ∃ cn, (decide ((i : Int) < (ln : Int)) && !fl) = cn := ⟨_, rfl⟩
    have HCN := hide hcn
    go_upto_region 7 with (fail)
    go_cut [39] from 32 to 39 (fun s39 wx => s39 = .bool cn ∧ wx = V0)
    case first =>
      by_cases hlt : (i : Int) < (ln : Int)
      · have hd : decide ((i : Int) < (ln : Int)) = true := by simpa using hlt
        go_wp2_with fail
        go_meet
        case rel => exact ⟨by rw [← HCN.out, hd]; cases fl <;> rfl, rfl⟩
      · have hd : decide ((i : Int) < (ln : Int)) = false := by simpa using hlt
        go_wp2_with fail
        go_meet
        case rel => exact ⟨by rw [← HCN.out, hd]; rfl, rfl⟩
    case rest =>
      obtain ⟨rfl, hwx⟩ := hcut
      obtain rfl := hwx.symm
      clear hcn
      cases cn with
      | true =>
        have hcn := HCN.out
        rw [Bool.and_eq_true] at hcn
        have hlt := of_decide_eq_true hcn.1
        have hfl : fl = false := by cases fl with | true => exact absurd hcn.2 (by decide) | false => rfl
        subst hfl
        have hltn : i < ln := by omega
        obtain ⟨b1, o1, rfl, hb1, hc1⟩ := HL.out.2 (by omega)
        obtain ⟨c0, c1⟩ := hc1 i hltn
        obtain ⟨key, value, hkv⟩ : ∃ key value, ps.getD i pr0 = (key, value) := ⟨_, _, rfl⟩
        rw [hkv] at c0 c1
        simp only at c0 c1
        have hkvs : key.size ≤ 140737488355328 ∧ value.size ≤ 140737488355328 := by
          have hm : ps.getD i pr0 ∈ ps := by rw [List.getD_eq_getElem?_getD, List.getElem?_eq_getElem (by rw [HL.out.1]; exact hltn)]; exact List.getElem_mem _
          have := HSZ.out _ hm
          rw [hkv] at this; exact this
        have HCC : Hid (∀ W, Below w.heap.size w W → W.cell? ⟨b1, o1 + i * 2, none⟩ = some (.string key) ∧ W.cell? ⟨b1, o1 + i * 2 + 1, none⟩ = some (.string value)) := fun W hW => ⟨(hW.cell (p := ⟨b1, o1 + i * 2, none⟩) hb1).trans c0, (hW.cell (p := ⟨b1, o1 + i * 2 + 1, none⟩) hb1).trans c1⟩
        obtain ⟨g1, g2, g3, g4, g5⟩ := HG.out
        obtain ⟨p0, p1⟩ := HCC.out _ g4
        have HAD : Hid (∀ W, Below V0.heap.size V0 W → Calls Tryz.prog 21 #[.pointer (some ⟨q, 0, none⟩), .string key, .string value] W fun e w' => e = .returned (.int .i64 (addA r m L key value)) ∧ BS w' q (q + 1) r m (addL r m L key value) ∧ OkB r (addL r m L key value) ∧ KeptF W w' (BF W q (q + 1))) := fun W hW =>
          add_bs q (q + 1) r m L key value W (g1.below hW) g2 (by omega) (by have := hW.size; omega) hr hkvs.1 hkvs.2
        obtain ⟨er, her⟩ : ∃ er, addA r m L key value = er := ⟨_, rfl⟩
        have HAL : Hid (addL r m L key value = if er = 0 then L ++ [(key, value)] else L) := by show _ = _; unfold addL; rw [her]
        rw [her] at HAD
        clear c0 c1 hc1 hkv hkvs her g1 g2 g3 hcn hb1
        go_wp2_with fail
        go_cut [15] from 42 to 53 (fun s15 wx => s15 = .int .i64 er ∧ Hid (BS wx q (q + 1) r m (addL r m L key value)) ∧ Hid (OkB r (addL r m L key value)) ∧ Hid (OwnP wx (q + 1) (.slice ta L.length tc) L) ∧ Hid (Below w.heap.size w wx) ∧ Hid (q + 1 ≤ wx.heap.size))
        case first =>
          go_region_held_law (fun V => V.cell? ⟨b1, o1 + i * 2, none⟩ = some (.string key) ∧ V.cell? ⟨b1, o1 + i * 2 + 1, none⟩ = some (.string value)) (first | exact E1.out | go_keep) (first
            | (go_at_call 21; refine (HAD.out _ (Below.refl _ _).drew).mono ?_; rintro e w2 ⟨rfl, hbs, hok, hkf⟩
               have hg := HG.out
               have hbl : Below w.heap.size w w2 := hkf.toBelow (below_trans hg.2.2.2.1 (Below.refl _ _).drew) (fun i hi => by have := HQ.out; rcases hi with h1 | h1 <;> omega)
               have E1 := hide (HCC.out w2 hbl)
               have H2 : Hid (BS w2 q (q + 1) r m (addL r m L key value) ∧ OkB r (addL r m L key value) ∧ OwnP w2 (q + 1) (.slice ta L.length tc) L ∧ Below w.heap.size w w2 ∧ q + 1 ≤ w2.heap.size) := ⟨hbs, hok, ownp_bf (hg.2.2.1.below (Below.refl _ _).drew) hkf (fun i hi => by have := (hg.2.2.1.blk i hi).1; omega), hbl, Nat.le_trans hg.2.2.2.2 (Nat.le_trans (Below.refl V0.heap.size V0).drew.size hkf.size)⟩
               clear hbs hok hkf hg hbl))
          all_goals
            go_wp2_with fail
            go_meet
            case rel => exact ⟨rfl, H2.out.1, H2.out.2.1, H2.out.2.2.1, H2.out.2.2.2.1, H2.out.2.2.2.2⟩
        case rest =>
          obtain ⟨rfl, K1, K2, K3, K4, K5⟩ := hcut
          clear HAD p0 p1 HG g4 g5
          by_cases he0 : er = 0
          · subst he0
            have HAM : Hid (addL r m L key value = L ++ [(key, value)]) := by show _ = _; rw [HAL.out]; rfl
            rw [HAM.out] at K1 K2
            obtain ⟨p0, p1⟩ := HCC.out _ K4.out
            have HBA : Hid (Below wc.heap.size wc (wc.alloc (.cells #[.string key, .string value] 61))) := (Below.refl _ _).alloc (Nat.le_refl _) _
            have HCA : Hid ((wc.alloc (.cells #[.string key, .string value] 61)).heap[wc.heap.size]? = some (.cells #[.string key, .string value] 61)) := heap_alloc_new _ _
            go_wp2_with (at_builtin; refine pushP _ rfl _ _ rfl (q + 1) (.slice ta L.length tc) L rfl (K3.out.below HBA.out) wc.heap.size (key, value) rfl HCA.out (by have := ok_few K2.out; rw [List.length_append] at this; omega) (Nat.le_trans K5.out HBA.out.size) ?_; intro g c w4 ho4 hg4 hg5; have hl4 : (L ++ [(key, value)]).length = L.length + 1 := (by simp); have H4 : Hid (GP w w4 q (q + 1) r m (some ⟨g, 0, none⟩) c (L ++ [(key, value)])) := ⟨bs_push (K1.out.below HBA.out) (K3.out.below HBA.out) hg4 (fun i hi => by have := (K3.out.blk i hi).1; omega), K2.out, by rw [hl4]; exact ho4, (below_trans K4.out HBA.out).grown hg4 (below_trans K4.out HBA.out).size (fun i hi => by have := (K3.out.blk i hi).1; have := HQ.out; omega), Nat.le_trans (Nat.le_trans K5.out HBA.out.size) hg4.size⟩; clear ho4 hg4 hg5)
            go_roundw
            case rel => exact ⟨i + 1, false, L ++ [(key, value)], some ⟨g, 0, none⟩, c, by omega, by go_num, by first | rfl | simp, by rw [hl4], H4.out⟩
            case measure => (simp [intOf] <;> omega)
          · have HAM : Hid (addL r m L key value = L) := by show _ = _; rw [HAL.out, if_neg he0]
            rw [HAM.out] at K1 K2
            have hb0 : (er == 0) = false := by simpa using he0
            go_wp2_with fail
            go_roundw
            case rel => exact ⟨i + 1, (er == 62), L, ta, tc, by omega, by go_num, rfl, rfl, K1.out, K2.out, K3.out, K4.out, K5.out⟩
            case measure => (simp [intOf] <;> omega)
      | false =>
        clear HCN
        obtain ⟨n, hn⟩ : ∃ n, L.length = n := ⟨_, rfl⟩
        have HN := hide hn
        rw [hn]
        clear hn
        obtain ⟨tb, htb⟩ : ∃ tb, ((n : Int) == 0) = tb := ⟨_, rfl⟩
        go_upto_if 67 with (fail)
        go_cut [12] from 68 to 73 (fun s12 wx => ∃ (L' : List En) (ta' : Option Addr) (tc' : Nat), s12 = .slice ta' L'.length tc' ∧ Hid (L' ≠ []) ∧ Hid (GP w wx q (q + 1) r m ta' tc' L'))
        case first =>
          by_cases hL : n = 0
          · obtain rfl : tb = true := by rw [← htb, hL]; rfl
            subst hL
            have HLN : Hid (L = []) := List.length_eq_zero_iff.1 HN.out
            have HAD : Hid (Calls Tryz.prog 21 #[.pointer (some ⟨q, 0, none⟩), .string ⟨#[107]⟩, .string ⟨#[118]⟩] V0 fun e w' => e = .returned (.int .i64 0) ∧ BS w' q (q + 1) r m (L ++ [(⟨#[107]⟩, ⟨#[118]⟩)]) ∧ OkB r (L ++ [(⟨#[107]⟩, ⟨#[118]⟩)]) ∧ OwnP w' (q + 1) (.slice ta 0 tc) L ∧ Below w.heap.size w w' ∧ q + 1 ≤ w'.heap.size) := by
              obtain ⟨g1, g2, g3, g4, g5⟩ := HG.out
              have ha : addA r m L ⟨#[107]⟩ ⟨#[118]⟩ = 0 := by rw [HLN.out]; exact add_kv r m (by omega)
              have hal : addL r m L ⟨#[107]⟩ ⟨#[118]⟩ = L ++ [(⟨#[107]⟩, ⟨#[118]⟩)] := if_pos ha
              refine (add_bs q (q + 1) r m L ⟨#[107]⟩ ⟨#[118]⟩ V0 g1 g2 (by omega) g5 hr (by decide) (by decide)).mono ?_
              rintro e w' ⟨rfl, hbs, hok, hkf⟩
              rw [hal] at hbs hok
              rw [ha]
              rw [HN.out] at g3
              exact ⟨rfl, hbs, hok, ownp_bf g3 hkf (fun i hi => by have := (g3.blk i hi).1; omega), hkf.toBelow g4 (fun i hi => by have := HQ.out; rcases hi with h1 | h1 <;> omega), Nat.le_trans g5 hkf.size⟩
            go_wp2_with (first
              | (go_at_call 21; refine HAD.out.mono ?_; rintro e w2 ⟨rfl, hbs, hok, hop, hbl, hs2⟩; have K1 := hide hbs; have K2 := hide hok; have K3 := hide hop; have K4 := hide hbl; have K5 := hide hs2; have HBA : Hid (Below w2.heap.size w2 (w2.alloc (.cells #[.string ⟨#[107]⟩, .string ⟨#[118]⟩] 61))) := (Below.refl _ _).alloc (Nat.le_refl _) _; have HCA : Hid ((w2.alloc (.cells #[.string ⟨#[107]⟩, .string ⟨#[118]⟩] 61)).heap[w2.heap.size]? = some (.cells #[.string ⟨#[107]⟩, .string ⟨#[118]⟩] 61)) := heap_alloc_new _ _; clear hbs hok hop hbl hs2)
              | (at_builtin; refine pushP _ rfl _ _ rfl (q + 1) (.slice ta 0 tc) L rfl (K3.out.below HBA.out) w2.heap.size (⟨#[107]⟩, ⟨#[118]⟩) rfl HCA.out (by have := ok_few K2.out; rw [List.length_append] at this; omega) (Nat.le_trans K5.out HBA.out.size) ?_; intro g c w4 ho4 hg4 hg5; have hl4 : (L ++ [((⟨#[107]⟩, ⟨#[118]⟩) : En)]).length = L.length + 1 := (by simp); have H4 : Hid (GP w w4 q (q + 1) r m (some ⟨g, 0, none⟩) c (L ++ [(⟨#[107]⟩, ⟨#[118]⟩)])) := ⟨bs_push (K1.out.below HBA.out) (K3.out.below HBA.out) hg4 (fun i hi => by have := (K3.out.blk i hi).1; omega), K2.out, by rw [hl4]; exact ho4, (below_trans K4.out HBA.out).grown hg4 (below_trans K4.out HBA.out).size (fun i hi => by have := (K3.out.blk i hi).1; have := HQ.out; omega), Nat.le_trans (Nat.le_trans K5.out HBA.out.size) hg4.size⟩; clear ho4 hg4 hg5))
            go_meet
            case rel => exact ⟨L ++ [((⟨#[107]⟩ : ByteArray), (⟨#[118]⟩ : ByteArray))], some ⟨g, 0, none⟩, c, by first | rw [hl4] | (rw [hl4, HN.out]), by show _ ≠ _; simp, H4.out⟩
          · have HLN : Hid (L ≠ []) := fun e => hL (by rw [← HN.out, e]; rfl)
            obtain rfl : tb = false := by rw [← htb]; simpa using hL
            go_wp2_with fail
            go_meet
            case rel => exact ⟨L, ta, tc, by rw [HN.out], HLN.out, HG.out⟩
        case rest =>
          obtain ⟨L', ta', tc', rfl, HNE, HGP⟩ := hcut
          obtain ⟨SZ, hSZ⟩ : ∃ SZ, (rawE r L').length = SZ := ⟨_, rfl⟩
          obtain ⟨PK, hPK⟩ : ∃ PK, (packB (rawE r L')).length + 4 = PK := ⟨_, rfl⟩
          have HPK := hide hPK
          have HSZ2 := hide hSZ
          have HSI : Hid (Calls Tryz.prog 22 #[.pointer (some ⟨q, 0, none⟩)] wc fun e w' => e = .returned (.int .i64 (SZ : Nat)) ∧ ∃ k, w' = wc.drewN k) := by
            have h := size_bs q (q + 1) r m L' wc HGP.out.1 HGP.out.2.1 HNE.out
            rw [hSZ] at h; exact h
          have HFI : Hid (∀ W, Below wc.heap.size wc W → Calls Tryz.prog 33 #[.pointer (some ⟨q, 0, none⟩)] W fun e w' => ∃ g, e = .returned (.tuple #[.slice (some ⟨g, 0, none⟩) PK PK, .int .i64 (SZ : Nat), .int .i64 0]) ∧ Own w' W.heap.size (.slice (some ⟨g, 0, none⟩) PK PK) (tileB (rawE r L')) ∧ BS w' q (q + 1) r m [] ∧ KeptF W w' (fun i => i = q)) := fun W hW => by
            have h := fin_bs q (q + 1) r m L' W (HGP.out.1.below hW) HGP.out.2.1 HNE.out (Nat.le_trans HGP.out.2.2.2.2 hW.size) ⟨hr.1, hr.2.1⟩
            rw [hSZ, hPK] at h; exact h
          have HLE : Hid (∀ W, BS W q (q + 1) r m [] → Calls Tryz.prog 31 #[.pointer (some ⟨q, 0, none⟩)] W fun e w' => e = .returned (.int .i64 0) ∧ w' = W) := fun W hW => len_bs q (q + 1) r m [] W hW
          clear hSZ hPK HG
          go_wp2_with (first
            | (go_at_call 22; refine HSI.out.mono ?_; rintro e w5 ⟨rfl, n5, hw5⟩; have HB5 : Hid (Below wc.heap.size wc w5) := (by rw [hw5]; exact below_drewN' _ _ _); clear hw5)
            | (go_at_call 33; refine (HFI.out _ HB5.out).mono ?_; rintro e w6 ⟨g6, rfl, ho6, hbs6, hk6⟩; have HO6 := hide ho6; have HS6 := hide hbs6; have HK6 := hide hk6; clear ho6 hbs6 hk6)
            | (go_at_call 31; refine (HLE.out _ HS6.out).mono ?_; rintro e w6 ⟨rfl, rfl⟩))
          (try simp only [Exit.inBlock, Exit.then])
          refine bodyPost_ret (results_four rfl _ _ _) rfl ?_
          refine ⟨L', g6, ta', tc', ?_, HNE.out, HGP.out.2.1, ?_, ?_, ?_⟩
          · rw [HPK.out, HSZ2.out]; rfl
          · rw [HQ.out]
            refine ownp_mono ((HGP.out.2.2.1.below HB5.out).same (fun i hi => HK6.out.block i (Nat.lt_of_lt_of_le (HGP.out.2.2.1.blk i hi).2 HB5.out.size) ?_)) (Nat.le_succ q)
            have := (HGP.out.2.2.1.blk i hi).1
            omega
          · rw [HPK.out]
            exact HO6.out.mono (Nat.le_trans HGP.out.2.2.2.1.size HB5.out.size)
          · exact HK6.out.toBelow (below_trans HGP.out.2.2.2.1 HB5.out) (fun i hi => by have := HQ.out; omega)
end Go.Proofs.YthdblnfohbldcaaGreat.Bl
