/-
  built: a block of those of the entries that a builder takes.
-/
import Derived.Test.YthdblnfohbldcaaGreatBlPackMJ
import Derived.Test.YthdblnfohbldcaaGreatBlModJ
import Derived.Test.YthdblnfohbldcaaGreatJbPairJ
import Derived.Deep.RegionHeldLaw
import Derived.Deep.DeepCutAuto
import Derived.Test.YthdblnfohbldcaaGreatBlSlRJ
namespace Go.Proofs.YthdblnfohbldcaaGreat.Bl
open Go.ChangeShapes Go.WideShapes Go.ChangeAt Go.RowKit
open Go.Proofs.YthdblnfohbldcaaGreat.Base Go.Proofs.YthdblnfohbldcaaGreat.Nums
open Go.Proofs.YthdblnfohbldcaaGreat.Jb (OwnP RdP pushP ownp_none pr0)
set_option linter.unusedVariables false
theorem results_four {fn : Func} {t u v x : Tmp} (h : fn.results = #[.tmp t, .tmp u, .tmp v, .tmp x]) (tmps : Array Value) (P : Program) (w : World) :
    (results fn tmps).run P w = .ok (.tuple #[tmps.getD t undef, tmps.getD u undef, tmps.getD v undef, tmps.getD x undef]) w := by
  simp [results, h]
theorem ty_pair {w : World} {base n : Nat} {v : Value} {ps : List En} (h : OwnP w base v ps) : Ty w v.ownBlock 61 := own_ty h
theorem pair_ne : (61 : TypeId) ≠ 5 ∧ (61 : TypeId) ≠ 3 := by decide
/-- A list of pairs stays where a builder works. -/
theorem ownp_bf {w w' : World} {base q b0 : Nat} {v : Value} {ps : List En} (h : OwnP w base v ps) (hk : KeptF w w' (BF w q b0)) (hq : ∀ i, v.ownBlock = some i → i ≠ q) : OwnP w' base v ps := by
  refine h.same (fun i hi => hk.block i (h.blk i hi).2 ?_)
  rintro (h1 | ⟨_, h1 | h1⟩)
  · exact hq i hi h1
  · exact ty_ne (ty_pair (n := 0) h) h1 pair_ne.1 i hi rfl
  · exact ty_ne (ty_pair (n := 0) h) h1 pair_ne.2 i hi rfl
/-- A builder stays where a list of pairs grows. -/
theorem bs_push {w w' : World} {q base r b0 : Nat} {m : Int} {L : List En} {v : Value} {ps : List En} (h : BS w q base r m L) (hp : OwnP w b0 v ps) (hg : w.grownBy w' v.ownBlock) (hq : ∀ i, v.ownBlock = some i → i ≠ q) : BS w' q base r m L := by
  refine h.keep hg (fun i hi => ⟨hq i hi, ?_, ?_⟩)
  · intro h1; exact ty_ne (ty_pair (n := 0) hp) h1 pair_ne.1 i hi rfl
  · intro h1; exact ty_ne (ty_pair (n := 0) hp) h1 pair_ne.2 i hi rfl
theorem add_kv (r : Nat) (m : Int) (h : 0 < r) : addA r m [] ⟨#[107]⟩ ⟨#[118]⟩ = 0 := by
  unfold addA addE
  rw [if_neg (by decide), if_neg (by decide), if_neg (by simp)]
/-- What stands behind the gathering. -/
def GP (w0 w : World) (q base r : Nat) (m : Int) (ta : Option Addr) (tc : Nat) (L : List En) : Prop :=
  BS w q base r m L ∧ OkB r L ∧ OwnP w base (.slice ta L.length tc) L ∧ Below w0.heap.size w0 w ∧ base ≤ w.heap.size
theorem ownp_mono {w : World} {base base' : Nat} {v : Value} {ps : List En} (h : OwnP w base v ps) (hb : base' ≤ base) : OwnP w base' v ps := by
  refine ⟨h.1, ?_⟩
  rcases h.2 with h2 | ⟨g, cap, cur, h1, h2, h3⟩
  · exact .inl h2
  · exact .inr ⟨g, cap, cur, h1, by omega, h3⟩
theorem tail_eq (n : Nat) : (((n : Nat) : Int) == (n : Int)) = true := by simp
set_option maxHeartbeats 4000000 in
set_option maxRecDepth 100000 in
theorem built_any (r : Nat) (m : Int) (la : Option Addr) (ln lc : Nat) (ps : List En) (w : World) (hl : RdP w la ln ps) (hsz : ∀ p ∈ ps, p.1.size ≤ 140737488355328 ∧ p.2.size ≤ 140737488355328) (hln : ln ≤ 140737488355328) (hr : 1 ≤ r ∧ r ≤ 64 ∧ 64 ≤ m ∧ m ≤ 65536) :
    Calls Tryz.prog 8 #[.int .i64 (r : Int), .int .i64 m, .slice la ln lc] w fun e w' => ∃ (L : List En) (g : Nat) (pa : Option Addr) (pc : Nat), e = .returned (.tuple #[.slice pa L.length pc, .slice (some ⟨g, 0, none⟩) ((packB (rawE r L)).length + 4) ((packB (rawE r L)).length + 4), .int .i64 ((rawE r L).length : Nat), .bool true]) ∧ L ≠ [] ∧ OkB r L ∧ OwnP w' w.heap.size (.slice pa L.length pc) L ∧ Own w' w.heap.size (.slice (some ⟨g, 0, none⟩) ((packB (rawE r L)).length + 4) ((packB (rawE r L)).length + 4)) (tileB (rawE r L)) ∧ Below w.heap.size w w' := by
  have HNB := hide (new_bs r m w hr)
  have HL := hide hl
  have HSZ := hide hsz
  obtain ⟨q, hq⟩ : ∃ q, w.heap.size = q := ⟨_, rfl⟩
  have HQ := hide hq
  have hr1 := hr.1
  clear hl hsz
  go_enter Tryz.func8, Tryz.ntmps8
  go_wp2_with (go_at_call 19; refine HNB.out.mono ?_; rintro e w1 ⟨rfl, hbs, hs1, hb1⟩; rw [hq] at hbs hs1 ⊢; have HB1 := hide hb1; have HBS1 := hide hbs; have HS1 := hide hs1; clear hbs hs1 hb1)
  go_loopw [12, 13, 14] (fun s12 s13 s14 wr => ∃ (i : Nat) (fl : Bool) (L : List En) (ta : Option Addr) (tc : Nat), i ≤ ln ∧ s14 = .int .i64 (i : Int) ∧ s13 = .bool fl ∧ s12 = .slice ta L.length tc ∧ Hid (GP w wr q (q + 1) r m ta tc L)) (fun _ _ s14 _ => ln - (intOf s14).toNat)
  case atStart => exact ⟨0, false, [], none, 0, Nat.zero_le _, rfl, rfl, rfl, HBS1.out, okB_nil r (by omega), ownp_none _ _, HB1.out, by rw [HS1.out]; exact Nat.le_refl _⟩
  case round =>
    rename World => V0
    obtain ⟨i, fl, L, ta, tc, hi, rfl, rfl, rfl, HG⟩ := hrel
    obtain ⟨cn, hcn⟩ : ∃ cn, (decide ((i : Int) < (ln : Int)) && !fl) = cn := ⟨_, rfl⟩
    have HCN := hide hcn
    go_upto_region 7 with (fail)
    go_cut [39] from 32 to 39 (fun s39 wx => s39 = .bool cn ∧ wx = V0)
    case first =>
      by_cases hlt : (i : Int) < (ln : Int)
      · have hd : decide ((i : Int) < (ln : Int)) = true := by simpa using hlt
        go_wp2_with fail
        go_meet
        case rel => exact ⟨by rw [← HCN.out, hd]; cases fl <;> rfl, rfl⟩
      · have hd : decide ((i : Int) < (ln : Int)) = false := by simpa using hlt
        go_wp2_with fail
        go_meet
        case rel => exact ⟨by rw [← HCN.out, hd]; rfl, rfl⟩
    case rest =>
      obtain ⟨rfl, hwx⟩ := hcut
      obtain rfl := hwx.symm
      clear hcn
      cases cn with
      | true =>
        have hcn := HCN.out
        rw [Bool.and_eq_true] at hcn
        have hlt := of_decide_eq_true hcn.1
        have hfl : fl = false := by cases fl with | true => exact absurd hcn.2 (by decide) | false => rfl
        subst hfl
        have hltn : i < ln := by omega
        obtain ⟨b1, o1, rfl, hb1, hc1⟩ := HL.out.2 (by omega)
        obtain ⟨c0, c1⟩ := hc1 i hltn
        obtain ⟨key, value, hkv⟩ : ∃ key value, ps.getD i pr0 = (key, value) := ⟨_, _, rfl⟩
        rw [hkv] at c0 c1
        simp only at c0 c1
        have hkvs : key.size ≤ 140737488355328 ∧ value.size ≤ 140737488355328 := by
          have hm : ps.getD i pr0 ∈ ps := by rw [List.getD_eq_getElem?_getD, List.getElem?_eq_getElem (by rw [HL.out.1]; exact hltn)]; exact List.getElem_mem _
          have := HSZ.out _ hm
          rw [hkv] at this; exact this
        have HCC : Hid (∀ W, Below w.heap.size w W → W.cell? ⟨b1, o1 + i * 2, none⟩ = some (.string key) ∧ W.cell? ⟨b1, o1 + i * 2 + 1, none⟩ = some (.string value)) := fun W hW => ⟨(hW.cell (p := ⟨b1, o1 + i * 2, none⟩) hb1).trans c0, (hW.cell (p := ⟨b1, o1 + i * 2 + 1, none⟩) hb1).trans c1⟩
        obtain ⟨g1, g2, g3, g4, g5⟩ := HG.out
        obtain ⟨p0, p1⟩ := HCC.out _ g4
        have HAD : Hid (∀ W, Below V0.heap.size V0 W → Calls Tryz.prog 21 #[.pointer (some ⟨q, 0, none⟩), .string key, .string value] W fun e w' => e = .returned (.int .i64 (addA r m L key value)) ∧ BS w' q (q + 1) r m (addL r m L key value) ∧ OkB r (addL r m L key value) ∧ KeptF W w' (BF W q (q + 1))) := fun W hW =>
          add_bs q (q + 1) r m L key value W (g1.below hW) g2 (by omega) (by have := hW.size; omega) hr hkvs.1 hkvs.2
        obtain ⟨er, her⟩ : ∃ er, addA r m L key value = er := ⟨_, rfl⟩
        have HAL : Hid (addL r m L key value = if er = 0 then L ++ [(key, value)] else L) := by show _ = _; unfold addL; rw [her]
        rw [her] at HAD
        clear c0 c1 hc1 hkv hkvs her g1 g2 g3 hcn hb1
        go_wp2_with fail
        go_cut [15] from 42 to 53 (fun s15 wx => s15 = .int .i64 er ∧ Hid (BS wx q (q + 1) r m (addL r m L key value)) ∧ Hid (OkB r (addL r m L key value)) ∧ Hid (OwnP wx (q + 1) (.slice ta L.length tc) L) ∧ Hid (Below w.heap.size w wx) ∧ Hid (q + 1 ≤ wx.heap.size))
        case first =>
          go_region_held_law (fun V => V.cell? ⟨b1, o1 + i * 2, none⟩ = some (.string key) ∧ V.cell? ⟨b1, o1 + i * 2 + 1, none⟩ = some (.string value)) (first | exact E1.out | go_keep) (first
            | (go_at_call 21; refine (HAD.out _ (Below.refl _ _).drew).mono ?_; rintro e w2 ⟨rfl, hbs, hok, hkf⟩
               have hg := HG.out
               have hbl : Below w.heap.size w w2 := hkf.toBelow (below_trans hg.2.2.2.1 (Below.refl _ _).drew) (fun i hi => by have := HQ.out; rcases hi with h1 | h1 <;> omega)
               have E1 := hide (HCC.out w2 hbl)
               have H2 : Hid (BS w2 q (q + 1) r m (addL r m L key value) ∧ OkB r (addL r m L key value) ∧ OwnP w2 (q + 1) (.slice ta L.length tc) L ∧ Below w.heap.size w w2 ∧ q + 1 ≤ w2.heap.size) := ⟨hbs, hok, ownp_bf (hg.2.2.1.below (Below.refl _ _).drew) hkf (fun i hi => by have := (hg.2.2.1.blk i hi).1; omega), hbl, Nat.le_trans hg.2.2.2.2 (Nat.le_trans (Below.refl V0.heap.size V0).drew.size hkf.size)⟩
               clear hbs hok hkf hg hbl))
          all_goals
            go_wp2_with fail
            go_meet
            case rel => exact ⟨rfl, H2.out.1, H2.out.2.1, H2.out.2.2.1, H2.out.2.2.2.1, H2.out.2.2.2.2⟩
        case rest =>
          obtain ⟨rfl, K1, K2, K3, K4, K5⟩ := hcut
          clear HAD p0 p1 HG g4 g5
          by_cases he0 : er = 0
          · subst he0
            have HAM : Hid (addL r m L key value = L ++ [(key, value)]) := by show _ = _; rw [HAL.out]; rfl
            rw [HAM.out] at K1 K2
            obtain ⟨p0, p1⟩ := HCC.out _ K4.out
            have HBA : Hid (Below wc.heap.size wc (wc.alloc (.cells #[.string key, .string value] 61))) := (Below.refl _ _).alloc (Nat.le_refl _) _
            have HCA : Hid ((wc.alloc (.cells #[.string key, .string value] 61)).heap[wc.heap.size]? = some (.cells #[.string key, .string value] 61)) := heap_alloc_new _ _
            go_wp2_with (at_builtin; refine pushP _ rfl _ _ rfl (q + 1) (.slice ta L.length tc) L rfl (K3.out.below HBA.out) wc.heap.size (key, value) rfl HCA.out (by have := ok_few K2.out; rw [List.length_append] at this; omega) (Nat.le_trans K5.out HBA.out.size) ?_; intro g c w4 ho4 hg4 hg5; have hl4 : (L ++ [(key, value)]).length = L.length + 1 := (by simp); have H4 : Hid (GP w w4 q (q + 1) r m (some ⟨g, 0, none⟩) c (L ++ [(key, value)])) := ⟨bs_push (K1.out.below HBA.out) (K3.out.below HBA.out) hg4 (fun i hi => by have := (K3.out.blk i hi).1; omega), K2.out, by rw [hl4]; exact ho4, (below_trans K4.out HBA.out).grown hg4 (below_trans K4.out HBA.out).size (fun i hi => by have := (K3.out.blk i hi).1; have := HQ.out; omega), Nat.le_trans (Nat.le_trans K5.out HBA.out.size) hg4.size⟩; clear ho4 hg4 hg5)
            go_roundw
            case rel => exact ⟨i + 1, false, L ++ [(key, value)], some ⟨g, 0, none⟩, c, by omega, by go_num, by first | rfl | simp, by rw [hl4], H4.out⟩
            case measure => (simp [intOf] <;> omega)
          · have HAM : Hid (addL r m L key value = L) := by show _ = _; rw [HAL.out, if_neg he0]
            rw [HAM.out] at K1 K2
            have hb0 : (er == 0) = false := by simpa using he0
            go_wp2_with fail
            go_roundw
            case rel => exact ⟨i + 1, (er == 62), L, ta, tc, by omega, by go_num, rfl, rfl, K1.out, K2.out, K3.out, K4.out, K5.out⟩
            case measure => (simp [intOf] <;> omega)
      | false =>
        clear HCN
        obtain ⟨n, hn⟩ : ∃ n, L.length = n := ⟨_, rfl⟩
        have HN := hide hn
        rw [hn]
        clear hn
        obtain ⟨tb, htb⟩ : ∃ tb, ((n : Int) == 0) = tb := ⟨_, rfl⟩
        go_upto_if 67 with (fail)
        go_cut [12] from 68 to 73 (fun s12 wx => ∃ (L' : List En) (ta' : Option Addr) (tc' : Nat), s12 = .slice ta' L'.length tc' ∧ Hid (L' ≠ []) ∧ Hid (GP w wx q (q + 1) r m ta' tc' L'))
        case first =>
          by_cases hL : n = 0
          · obtain rfl : tb = true := by rw [← htb, hL]; rfl
            subst hL
            have HLN : Hid (L = []) := List.length_eq_zero_iff.1 HN.out
            have HAD : Hid (Calls Tryz.prog 21 #[.pointer (some ⟨q, 0, none⟩), .string ⟨#[107]⟩, .string ⟨#[118]⟩] V0 fun e w' => e = .returned (.int .i64 0) ∧ BS w' q (q + 1) r m (L ++ [(⟨#[107]⟩, ⟨#[118]⟩)]) ∧ OkB r (L ++ [(⟨#[107]⟩, ⟨#[118]⟩)]) ∧ OwnP w' (q + 1) (.slice ta 0 tc) L ∧ Below w.heap.size w w' ∧ q + 1 ≤ w'.heap.size) := by
              obtain ⟨g1, g2, g3, g4, g5⟩ := HG.out
              have ha : addA r m L ⟨#[107]⟩ ⟨#[118]⟩ = 0 := by rw [HLN.out]; exact add_kv r m (by omega)
              have hal : addL r m L ⟨#[107]⟩ ⟨#[118]⟩ = L ++ [(⟨#[107]⟩, ⟨#[118]⟩)] := if_pos ha
              refine (add_bs q (q + 1) r m L ⟨#[107]⟩ ⟨#[118]⟩ V0 g1 g2 (by omega) g5 hr (by decide) (by decide)).mono ?_
              rintro e w' ⟨rfl, hbs, hok, hkf⟩
              rw [hal] at hbs hok
              rw [ha]
              rw [HN.out] at g3
              exact ⟨rfl, hbs, hok, ownp_bf g3 hkf (fun i hi => by have := (g3.blk i hi).1; omega), hkf.toBelow g4 (fun i hi => by have := HQ.out; rcases hi with h1 | h1 <;> omega), Nat.le_trans g5 hkf.size⟩
            go_wp2_with (first
              | (go_at_call 21; refine HAD.out.mono ?_; rintro e w2 ⟨rfl, hbs, hok, hop, hbl, hs2⟩; have K1 := hide hbs; have K2 := hide hok; have K3 := hide hop; have K4 := hide hbl; have K5 := hide hs2; have HBA : Hid (Below w2.heap.size w2 (w2.alloc (.cells #[.string ⟨#[107]⟩, .string ⟨#[118]⟩] 61))) := (Below.refl _ _).alloc (Nat.le_refl _) _; have HCA : Hid ((w2.alloc (.cells #[.string ⟨#[107]⟩, .string ⟨#[118]⟩] 61)).heap[w2.heap.size]? = some (.cells #[.string ⟨#[107]⟩, .string ⟨#[118]⟩] 61)) := heap_alloc_new _ _; clear hbs hok hop hbl hs2)
              | (at_builtin; refine pushP _ rfl _ _ rfl (q + 1) (.slice ta 0 tc) L rfl (K3.out.below HBA.out) w2.heap.size (⟨#[107]⟩, ⟨#[118]⟩) rfl HCA.out (by have := ok_few K2.out; rw [List.length_append] at this; omega) (Nat.le_trans K5.out HBA.out.size) ?_; intro g c w4 ho4 hg4 hg5; have hl4 : (L ++ [((⟨#[107]⟩, ⟨#[118]⟩) : En)]).length = L.length + 1 := (by simp); have H4 : Hid (GP w w4 q (q + 1) r m (some ⟨g, 0, none⟩) c (L ++ [(⟨#[107]⟩, ⟨#[118]⟩)])) := ⟨bs_push (K1.out.below HBA.out) (K3.out.below HBA.out) hg4 (fun i hi => by have := (K3.out.blk i hi).1; omega), K2.out, by rw [hl4]; exact ho4, (below_trans K4.out HBA.out).grown hg4 (below_trans K4.out HBA.out).size (fun i hi => by have := (K3.out.blk i hi).1; have := HQ.out; omega), Nat.le_trans (Nat.le_trans K5.out HBA.out.size) hg4.size⟩; clear ho4 hg4 hg5))
            go_meet
            case rel => exact ⟨L ++ [((⟨#[107]⟩ : ByteArray), (⟨#[118]⟩ : ByteArray))], some ⟨g, 0, none⟩, c, by first | rw [hl4] | (rw [hl4, HN.out]), by show _ ≠ _; simp, H4.out⟩
          · have HLN : Hid (L ≠ []) := fun e => hL (by rw [← HN.out, e]; rfl)
            obtain rfl : tb = false := by rw [← htb]; simpa using hL
            go_wp2_with fail
            go_meet
            case rel => exact ⟨L, ta, tc, by rw [HN.out], HLN.out, HG.out⟩
        case rest =>
          obtain ⟨L', ta', tc', rfl, HNE, HGP⟩ := hcut
          obtain ⟨SZ, hSZ⟩ : ∃ SZ, (rawE r L').length = SZ := ⟨_, rfl⟩
          obtain ⟨PK, hPK⟩ : ∃ PK, (packB (rawE r L')).length + 4 = PK := ⟨_, rfl⟩
          have HPK := hide hPK
          have HSZ2 := hide hSZ
          have HSI : Hid (Calls Tryz.prog 22 #[.pointer (some ⟨q, 0, none⟩)] wc fun e w' => e = .returned (.int .i64 (SZ : Nat)) ∧ ∃ k, w' = wc.drewN k) := by
            have h := size_bs q (q + 1) r m L' wc HGP.out.1 HGP.out.2.1 HNE.out
            rw [hSZ] at h; exact h
          have HFI : Hid (∀ W, Below wc.heap.size wc W → Calls Tryz.prog 33 #[.pointer (some ⟨q, 0, none⟩)] W fun e w' => ∃ g, e = .returned (.tuple #[.slice (some ⟨g, 0, none⟩) PK PK, .int .i64 (SZ : Nat), .int .i64 0]) ∧ Own w' W.heap.size (.slice (some ⟨g, 0, none⟩) PK PK) (tileB (rawE r L')) ∧ BS w' q (q + 1) r m [] ∧ KeptF W w' (fun i => i = q)) := fun W hW => by
            have h := fin_bs q (q + 1) r m L' W (HGP.out.1.below hW) HGP.out.2.1 HNE.out (Nat.le_trans HGP.out.2.2.2.2 hW.size) ⟨hr.1, hr.2.1⟩
            rw [hSZ, hPK] at h; exact h
          have HLE : Hid (∀ W, BS W q (q + 1) r m [] → Calls Tryz.prog 31 #[.pointer (some ⟨q, 0, none⟩)] W fun e w' => e = .returned (.int .i64 0) ∧ w' = W) := fun W hW => len_bs q (q + 1) r m [] W hW
          clear hSZ hPK HG
          go_wp2_with (first
            | (go_at_call 22; refine HSI.out.mono ?_; rintro e w5 ⟨rfl, n5, hw5⟩; have HB5 : Hid (Below wc.heap.size wc w5) := (by rw [hw5]; exact below_drewN' _ _ _); clear hw5)
            | (go_at_call 33; refine (HFI.out _ HB5.out).mono ?_; rintro e w6 ⟨g6, rfl, ho6, hbs6, hk6⟩; have HO6 := hide ho6; have HS6 := hide hbs6; have HK6 := hide hk6; clear ho6 hbs6 hk6)
            | (go_at_call 31; refine (HLE.out _ HS6.out).mono ?_; rintro e w6 ⟨rfl, rfl⟩))
          (try simp only [Exit.inBlock, Exit.then])
          refine bodyPost_ret (results_four rfl _ _ _) rfl ?_
          refine ⟨L', g6, ta', tc', ?_, HNE.out, HGP.out.2.1, ?_, ?_, ?_⟩
          · rw [HPK.out, HSZ2.out]; rfl
          · rw [HQ.out]
            refine ownp_mono ((HGP.out.2.2.1.below HB5.out).same (fun i hi => HK6.out.block i (Nat.lt_of_lt_of_le (HGP.out.2.2.1.blk i hi).2 HB5.out.size) ?_)) (Nat.le_succ q)
            have := (HGP.out.2.2.1.blk i hi).1
            omega
          · rw [HPK.out]
            exact HO6.out.mono (Nat.le_trans HGP.out.2.2.2.1.size HB5.out.size)
          · exact HK6.out.toBelow (below_trans HGP.out.2.2.2.1 HB5.out) (fun i hi => by have := HQ.out; omega)
end Go.Proofs.YthdblnfohbldcaaGreat.Bl
/-
  The walk of the statement BlockCodes.
-/
namespace Go.Proofs.YthdblnfohbldcaaGreat.blockCodes
open Go.ChangeShapes Go.WideShapes Go.ChangeAt Go.RowKit
open Go.Proofs.YthdblnfohbldcaaGreat.Base Go.Proofs.YthdblnfohbldcaaGreat.Nums Go.Proofs.YthdblnfohbldcaaGreat.Curs Go.Proofs.YthdblnfohbldcaaGreat.Crc Go.Proofs.YthdblnfohbldcaaGreat.Bl
open Go.Proofs.YthdblnfohbldcaaGreat.Jb (OwnP RdP pr0)
set_option linter.unusedVariables false
theorem dec_lz (k : Nat) (T : List (BitVec 8)) (h : T.length ≤ 65536) (hk : k = 1) (a : Option Addr) (n c : Nat) (W : World) (hs : SlR W a n c (encK k T)) :
    Calls Tryz.prog 12 #[.slice a n c, .int .i64 (T.length : Nat)] W fun e w' => ∃ ra rc, e = .returned (.tuple #[.slice ra T.length rc, .int .i64 0]) ∧ SlR w' ra T.length rc T ∧ Below W.heap.size W w' := by
  subst hk
  have hu := unp_enc 1 T h (by omega)
  unfold unpE at hu
  rw [if_neg (by decide), if_pos rfl] at hu
  simp only [Prod.mk.injEq] at hu
  refine (Lz.decode_any a n c _ _ W hs.2.1 hs.2.2.1 hs.2.2.2.1).mono ?_
  rintro e w' ⟨v, rfl, ho, hb⟩
  rw [hu.1] at ho
  rw [hu.2]
  obtain ⟨ra, rc, rfl, hsl⟩ := slr_own ho (by omega)
  exact ⟨ra, rc, rfl, hsl, hb⟩
theorem dec_huff (k : Nat) (T : List (BitVec 8)) (h : T.length ≤ 65536) (hk : k = 2) (a : Option Addr) (n c : Nat) (W : World) (hs : SlR W a n c (encK k T)) :
    Calls Tryz.prog 13 #[.slice a n c, .int .i64 (T.length : Nat)] W fun e w' => ∃ ra rc, e = .returned (.tuple #[.slice ra T.length rc, .int .i64 0]) ∧ SlR w' ra T.length rc T ∧ Below W.heap.size W w' := by
  subst hk
  have hu := unp_enc 2 T h (by omega)
  unfold unpE at hu
  rw [if_neg (by decide), if_neg (by decide)] at hu
  refine (Huff.decode_any a n c _ _ W hs.2.1 hs.2.2.1 hs.2.2.2.1).mono ?_
  rintro e w' ⟨v, rfl, ho, hb⟩
  rw [hu] at ho ⊢
  obtain ⟨ra, rc, rfl, hsl⟩ := slr_own ho (by show T.length ≤ _; omega)
  exact ⟨ra, rc, rfl, hsl, hb⟩
theorem enc_lz (T : List (BitVec 8)) (h : T.length ≤ 65536) (a : Option Addr) (c : Nat) (W : World) (hs : SlR W a T.length c T) :
    Calls Tryz.prog 14 #[.slice a T.length c] W fun e w' => ∃ ra rc, e = .returned (.tuple #[.slice ra (encK 1 T).length rc, .int .i64 0]) ∧ SlR w' ra (encK 1 T).length rc (encK 1 T) ∧ Below W.heap.size W w' := by
  refine (Lz.encode_any a _ c _ W hs.2.1 hs.2.2.1 hs.2.2.2.1 h hs.2.2.2.2).mono ?_
  rintro e w' ⟨v, rfl, ho, hb⟩
  obtain ⟨ra, rc, rfl, hsl⟩ := slr_own ho (by have := lz_len T h; omega)
  exact ⟨ra, rc, rfl, hsl, hb⟩
theorem enc_huff (T : List (BitVec 8)) (h : T.length ≤ 65536) (a : Option Addr) (c : Nat) (W : World) (hs : SlR W a T.length c T) :
    Calls Tryz.prog 15 #[.slice a T.length c] W fun e w' => ∃ ra rc, e = .returned (.tuple #[.slice ra (encK 2 T).length rc, .int .i64 0]) ∧ SlR w' ra (encK 2 T).length rc (encK 2 T) ∧ Below W.heap.size W w' := by
  refine (Huff.encode_any a _ c _ W hs.2.1 hs.2.2.1).mono ?_
  rintro e w' ⟨v, rfl, ho, hb⟩
  rw [(Huff.there_back T h).1]
  obtain ⟨ra, rc, rfl, hsl⟩ := slr_own ho (by have := huff_len T; omega)
  exact ⟨ra, rc, rfl, hsl, hb⟩
set_option maxHeartbeats 8000000 in
set_option maxRecDepth 100000 in
theorem walk (n0 : Int) (n1 : Int) (a2 : Option Addr) (len2 cap2 : Nat) (b2 : List En) (w : World)
    (w0 : (Lit.int .i64 n0).wf = true) (w1 : (Lit.int .i64 n1).wf = true) (r2 : RdP w a2 len2 b2) (l2 : len2 ≤ cap2) (m2 : cap2 ≤ 4398046510976) (y2 : ∀ p ∈ b2, p.1.size ≤ 140737488351232 ∧ p.2.size ≤ 140737488351232) :
    Calls Tryz.prog 4 #[.int .i64 n0, .int .i64 n1, .slice a2 len2 cap2] w fun e w' => e = .returned (.bool true) ∧ Below w.heap.size w w' := by
  have HBU : Hid (∀ (r : Nat) (m : Nat), (1 ≤ (r : Int) ∧ (r : Int) ≤ 64) → (64 ≤ (m : Int) ∧ (m : Int) ≤ 65536) → Calls Tryz.prog 8 #[.int .i64 (r : Int), .int .i64 (m : Int), .slice a2 len2 cap2] w fun e w' => ∃ (L : List En) (g : Nat) (pa : Option Addr) (pc : Nat), e = .returned (.tuple #[.slice pa L.length pc, .slice (some ⟨g, 0, none⟩) ((packB (rawE r L)).length + 4) ((packB (rawE r L)).length + 4), .int .i64 ((rawE r L).length : Nat), .bool true]) ∧ L ≠ [] ∧ OkB r L ∧ OwnP w' w.heap.size (.slice pa L.length pc) L ∧ Own w' w.heap.size (.slice (some ⟨g, 0, none⟩) ((packB (rawE r L)).length + 4) ((packB (rawE r L)).length + 4)) (tileB (rawE r L)) ∧ Below w.heap.size w w') := fun r m h1 h2 =>
    built_any r (m : Int) a2 len2 cap2 b2 w r2 (fun p hp => by have := y2 p hp; omega) (by omega) ⟨by omega, by omega, by omega, by omega⟩
  have HM1 : Hid (Calls Tryz.prog 9 #[.int .i64 n0, .int .i64 1, .int .i64 64] w fun e w' => ∃ v : Nat, e = .returned (.int .i64 (v : Int)) ∧ 1 ≤ (v : Int) ∧ (v : Int) ≤ 64 ∧ w' = w) := mod_any n0 1 64 w (by omega) (by omega) (by omega)
  have HM2 : Hid (Calls Tryz.prog 9 #[.int .i64 n1, .int .i64 64, .int .i64 65536] w fun e w' => ∃ v : Nat, e = .returned (.int .i64 (v : Int)) ∧ 64 ≤ (v : Int) ∧ (v : Int) ≤ 65536 ∧ w' = w) := mod_any n1 64 65536 w (by omega) (by omega) (by omega)
  clear r2 l2 m2 y2 w0 w1
  go_enter Tryz.func4, Tryz.ntmps4
  go_upto_if 34 with (first
    | (have hlate := HR; go_at_call 9; refine HM2.out.mono ?_; rintro e w ⟨m, rfl, hr1, hr2, rfl⟩; have HM := hide (And.intro hr1 hr2); clear hr1 hr2)
    | (go_at_call 9; refine HM1.out.mono ?_; rintro e w ⟨r, rfl, hr1, hr2, rfl⟩; have HR := hide (And.intro hr1 hr2); clear hr1 hr2)
    | (go_at_call 8; refine (HBU.out r m HR.out HM.out).mono ?_; rintro e w1 ⟨L, g, pa, pc, rfl, hne, hok, hop, ho, hb⟩
       have HNE := hide hne
       have HOK := hide hok
       have HO1 := hide ho
       have HB1 := hide hb
       clear hne hok hop ho hb))
  obtain ⟨k, hk3, hpk, hfit, hmin⟩ := best_pack (rawE r L) HOK.out.2.2
  obtain ⟨T, hT⟩ : ∃ T, rawE r L = T := ⟨_, rfl⟩
  have hTl6 : T.length ≤ 65536 := by rw [← hT]; exact HOK.out.2.2
  have hT8 : 8 ≤ T.length := by rw [← hT, rawE_len]; omega
  rw [hT] at hpk hfit hmin HO1 ⊢
  obtain ⟨SZ, hSZ⟩ : ∃ SZ, T.length = SZ := ⟨_, rfl⟩
  obtain ⟨PL, hPL⟩ : ∃ PL, (encK k T).length = PL := ⟨_, rfl⟩
  have hPL8 : PL ≤ 8388608 := by rw [← hPL]; exact encK_len k T hTl6
  have hPL1 : 1 ≤ PL := by omega
  obtain ⟨BL, hBL⟩ : ∃ BL, (packB T).length = BL := ⟨_, rfl⟩
  have hBP : BL = PL + 1 := by rw [← hBL, hpk, List.length_append, hPL]; rfl
  have HTB : Hid (tileB T = tile (packB T)) := rfl
  have HOE : Hid (∀ (f v NN : Nat) (W : World), f < 3 → Rd W (some ⟨v, 0, none⟩) NN (tile (encK f T ++ [BitVec.ofNat 8 f])) → NN ≤ 9223372036854775807 → Calls Tryz.prog 10 #[.slice (some ⟨v, 0, none⟩) NN NN, .int .i64 (SZ : Nat)] W fun e w' => (SZ ≤ 64 * (encK f T).length → ∃ q, e = .returned (.tuple #[.pointer (some ⟨q, 0, none⟩), .int .i64 0]) ∧ RL w' q L) ∧ (¬ SZ ≤ 64 * (encK f T).length → e = .returned (.tuple #[.pointer none, .int .i64 60])) ∧ Below W.heap.size W w') := fun f v NN W hf hr hN => by
    have h := open_enc (some ⟨v, 0, none⟩) NN NN r f L W (by rw [hT]; exact hr) (Nat.le_refl _) hN (by have := HR.out; omega) (by have := HR.out; omega) HNE.out HOK.out hf
    rw [hT, hSZ] at h; exact h
  have HCO : Hid (Calls Tryz.prog 11 #[.slice (some ⟨g, 0, none⟩) (BL + 4) (BL + 4)] w1 fun e w' => ∃ ga gc, e = .returned (.tuple #[.slice ga BL gc, .int .i64 0]) ∧ SlR w' ga BL gc (packB T) ∧ Below w1.heap.size w1 w') := by
    have hlt : (tileB T).length = BL + 4 := by rw [HTB.out, length_tile, hBL]
    rw [hBL] at HO1
    refine (Crc.open_any (some ⟨g, 0, none⟩) (BL + 4) (BL + 4) (tileB T) w1 (Got.rd HO1.out (by omega)) (Nat.le_refl _) (by omega)).mono ?_
    rintro e w' ⟨v, rfl, ⟨ga, gn, gc, rfl, hgn, hg⟩, hb⟩
    rw [HTB.out] at hgn hg ⊢
    rw [openBody_tile] at hgn hg
    rw [openErr_tile, hgn, hBL]
    rw [hgn] at hg
    obtain ⟨a', c', hv, hs⟩ := slr_own hg (by omega)
    simp only [Value.slice.injEq] at hv
    obtain ⟨rfl, _, rfl⟩ := hv
    rw [hBL] at hs
    exact ⟨ga, gc, rfl, hs, hb⟩
  have HPKB := hide hpk
  have HMIN : Hid (∀ f, f < 3 → SZ ≤ 64 * (encK f T).length → ¬ ((encK f T).length < PL ∨ (encK f T).length = PL ∧ f < k)) := by
    rw [← hSZ, ← hPL]; exact hmin
  have HSZ := hide hSZ
  have HPL := hide hPL
  have q1 : IntKind.i64.wrap ((BL : Int) - 1) = (PL : Int) := by rw [IntKind.wrap_i64]; omega
  have hb1 : (BL : Int) - 1 = (PL : Int) := by omega
  have hb2 : ¬ (BL : Int) < 2 := by omega
  have hpb : (PL : Int) < (BL : Int) := by omega
  rw [hBL, hSZ]
  obtain ⟨N, hN⟩ : ∃ N, L.length = N := ⟨_, rfl⟩
  rw [hN]
  have HN := hide hN
  have hSZ6 : SZ ≤ 65536 := by omega
  have HT6 := hide hTl6
  have HBP := hide hBP
  clear hpk hfit hmin hSZ hPL hBL hN hT hTl6 hT8 HTB hBP
  go_upto_region 7 with (first
    | (go_at_call 11; refine HCO.out.mono ?_; rintro e w2 ⟨ga, gc, rfl, hs, hb⟩; have HS2 := hide hs; have HB2 := hide (below_trans HB1.out hb); clear hs hb))
  obtain ⟨gb, go, hga, hgb, hgc⟩ := HS2.out.2.1.2.2 (by omega)
  subst hga
  have c1 := hgc PL (by omega)
  have hkv : ((packB T).getD PL 0).toNat = k := by
    rw [HPKB.out, List.getD_eq_getElem?_getD, List.getElem?_append_right (by rw [HPL.out]; exact Nat.le_refl _), HPL.out, Nat.sub_self]
    simp only [List.getElem?_cons_zero, Option.getD_some, BitVec.toNat_ofNat]
    omega
  rw [hkv] at c1
  have HP : Hid (SlR w2 (some ⟨gb, go, none⟩) PL gc (encK k T)) := by
    have h := HS2.out.2.1.cut PL (by omega)
    rw [HPKB.out, List.take_append_of_le_length (by rw [HPL.out]; exact Nat.le_refl _), List.take_of_length_le (by rw [HPL.out]; exact Nat.le_refl _)] at h
    exact ⟨HPL.out, h, by have := HS2.out.2.2.1; omega, HS2.out.2.2.2.1, (fun e => nomatch e)⟩
  have hgc1 : (PL : Int) ≤ (gc : Int) := by have := HS2.out.2.2.1; omega
  have hgc2 : gc ≤ 9223372036854775807 := HS2.out.2.2.2.1
  obtain ⟨t1, ht1⟩ : ∃ t1, ((k : Int) == 1) = t1 := ⟨_, rfl⟩
  obtain ⟨t2, ht2⟩ : ∃ t2, ((k : Int) == 2) = t2 := ⟨_, rfl⟩
  have HT1 : Hid (t1 = true ↔ k = 1) := by show _ ↔ _; rw [← ht1, beq_iff_eq]; omega
  have HT2 : Hid (t2 = true ↔ k = 2) := by show _ ↔ _; rw [← ht2, beq_iff_eq]; omega
  have hk2 : ¬ (2 : Int) < (k : Int) := by omega
  clear hgb hgc hkv
  go_upto_if 60 with (fail)
  go_cut [15, 12] from 61 to 66 (fun s15 s12 wx => s12 = .int .i64 0 ∧ ∃ ra rn rc, s15 = .slice ra rn rc ∧ Hid (SlR wx ra rn rc (if t1 = true then T else encK k T)) ∧ Hid (Below w2.heap.size w2 wx))
  case first =>
    cases t1 with
    | true =>
      have HDL : Hid (Calls Tryz.prog 12 #[.slice (some ⟨gb, go, none⟩) PL gc, .int .i64 (SZ : Nat)] w2 fun e w' => ∃ ra rc, e = .returned (.tuple #[.slice ra SZ rc, .int .i64 0]) ∧ SlR w' ra SZ rc T ∧ Below w2.heap.size w2 w') := by
        have h := dec_lz k T HT6.out (HT1.out.1 rfl) (some ⟨gb, go, none⟩) PL gc w2 HP.out
        rw [HSZ.out] at h; exact h
      go_wp2_with (go_at_call 12; refine HDL.out.mono ?_; rintro e w3 ⟨ra, rc, rfl, hs3, hb3⟩; have HS3 := hide hs3; have HB3 := hide hb3; clear hs3 hb3)
      go_meet
      case rel => exact ⟨rfl, ra, SZ, rc, rfl, HS3.out, HB3.out⟩
    | false =>
      go_wp2_with fail
      go_meet
      case rel => exact ⟨rfl, _, PL, gc, rfl, HP.out, Below.refl _ _⟩
  case rest =>
    obtain ⟨rfl, ra0, rn0, rc0, rfl, HS3, HB3⟩ := hcut
    go_upto_if 68 with (fail)
    go_cut [15, 12] from 69 to 74 (fun s15 s12 wx => s12 = .int .i64 0 ∧ ∃ ra rc, s15 = .slice ra SZ rc ∧ Hid (SlR wx ra SZ rc T) ∧ Hid (Below w2.heap.size w2 wx))
    case first =>
      cases t2 with
      | true =>
        have HDH : Hid (Calls Tryz.prog 13 #[.slice (some ⟨gb, go, none⟩) PL gc, .int .i64 (SZ : Nat)] wc fun e w' => ∃ ra rc, e = .returned (.tuple #[.slice ra SZ rc, .int .i64 0]) ∧ SlR w' ra SZ rc T ∧ Below wc.heap.size wc w') := by
          have h := dec_huff k T HT6.out (HT2.out.1 rfl) (some ⟨gb, go, none⟩) PL gc wc (HP.out.below HB3.out)
          rw [HSZ.out] at h; exact h
        go_wp2_with (go_at_call 13; refine HDH.out.mono ?_; rintro e w4 ⟨ra, rc, rfl, hs4, hb4⟩; have HS4 := hide hs4; have HB4 := hide (below_trans HB3.out hb4); clear hs4 hb4)
        go_meet
        case rel => exact ⟨rfl, ra, rc, rfl, HS4.out, HB4.out⟩
      | false =>
        have HX : Hid (rn0 = SZ ∧ SlR wc ra0 SZ rc0 T) := by
          have h := HS3.out
          have hk2f : k ≠ 2 := fun e => by have := HT2.out.2 e; cases this
          have hT : (if t1 = true then T else encK k T) = T := by
            split
            · rfl
            · next hf =>
              have hk1 : k ≠ 1 := fun e => hf (HT1.out.2 e)
              have hk0 : k = 0 := by omega
              subst hk0
              rfl
          rw [hT] at h
          have hn : rn0 = SZ := by rw [← h.1, HSZ.out]
          rw [hn] at h
          exact ⟨hn, h⟩
        obtain ⟨rfl, hx⟩ := HX.out
        have HX2 := hide hx
        clear hx HX
        go_wp2_with fail
        go_meet
        case rel => exact ⟨rfl, ra0, rc0, rfl, HX2.out, HB3.out⟩
    case rest =>
      clear HS3 HB3 ra0 rn0 rc0
      obtain ⟨rfl, ra, rc, rfl, HSR, HBR⟩ := hcut
      obtain ⟨wR, rfl⟩ : ∃ wR : World, wR = wc := ⟨_, rfl⟩
      have HBRW := hide (below_trans HB2.out HBR.out)
      go_wp2_with fail
      go_loopw [16] (fun s16 wr => ∃ f : Nat, f ≤ 3 ∧ s16 = .int .i64 (f : Int) ∧ Hid (Below wR.heap.size wR wr)) (fun s16 _ => 3 - (intOf s16).toNat)
      case atStart => exact ⟨0, by omega, rfl, Below.refl _ _⟩
      case round =>
        rename World => V0
        obtain ⟨f, hf4, rfl, HBf⟩ := hrel
        by_cases hf3 : f < 3
        · have hf2 : (f : Int) ≤ 2 := by omega
          have HSf := hide (HSR.out.below HBf.out)
          obtain ⟨u1, hu1⟩ : ∃ u1, ((f : Int) == 1) = u1 := ⟨_, rfl⟩
          obtain ⟨u2, hu2⟩ : ∃ u2, ((f : Int) == 2) = u2 := ⟨_, rfl⟩
          have HU1 : Hid (u1 = true ↔ f = 1) := by show _ ↔ _; rw [← hu1, beq_iff_eq]; omega
          have HU2 : Hid (u2 = true ↔ f = 2) := by show _ ↔ _; rw [← hu2, beq_iff_eq]; omega
          obtain ⟨QL, hQL⟩ : ∃ QL, (encK f T).length = QL := ⟨_, rfl⟩
          have hQL2 := hide hQL
          have HQL : Hid ((encK f T).length ≤ 8388608) := encK_len f T HT6.out
          have hQ8 : QL ≤ 8388608 := by rw [← hQL]; exact HQL.out
          clear hQL
          go_upto_if 93 with (fail)
          go_cut [17, 18] from 94 to 98 (fun s17 s18 wx => s18 = .int .i64 0 ∧ ∃ qa qn qc, s17 = .slice qa qn qc ∧ Hid (SlR wx qa qn qc (if u1 = true then encK 1 T else T)) ∧ Hid (Below V0.heap.size V0 wx))
          case first =>
            cases u1 with
            | true =>
              have HEL : Hid (Calls Tryz.prog 14 #[.slice ra SZ rc] V0 fun e w' => ∃ qa qn qc, e = .returned (.tuple #[.slice qa qn qc, .int .i64 0]) ∧ SlR w' qa qn qc (encK 1 T) ∧ Below V0.heap.size V0 w') := by
                have h := enc_lz T HT6.out ra rc V0 (by rw [HSZ.out]; exact HSf.out)
                rw [HSZ.out] at h
                exact h.mono fun e w' ⟨x, y, h1, h2, h3⟩ => ⟨x, _, y, h1, h2, h3⟩
              go_wp2_with (go_at_call 14; refine HEL.out.mono ?_; rintro e w3 ⟨qa, qn, qc, rfl, hs3, hb3⟩; have HS3 := hide hs3; have HB3 := hide hb3; clear hs3 hb3)
              go_meet
              case rel => exact ⟨rfl, qa, qn, qc, rfl, HS3.out, HB3.out⟩
            | false =>
              go_wp2_with fail
              go_meet
              case rel => exact ⟨rfl, ra, SZ, rc, rfl, HSf.out, Below.refl _ _⟩
          case rest =>
            obtain ⟨rfl, qa0, qn0, qc0, rfl, HS3, HB3⟩ := hcut
            obtain ⟨V1, rfl⟩ : ∃ V1 : World, V1 = wc := ⟨_, rfl⟩
            go_upto_if 100 with (fail)
            go_cut [17, 18] from 101 to 105 (fun s17 s18 wx => s18 = .int .i64 0 ∧ ∃ qa qc, s17 = .slice qa QL qc ∧ Hid (SlR wx qa QL qc (encK f T)) ∧ Hid (Below V0.heap.size V0 wx))
            case first =>
              cases u2 with
              | true =>
                have HEH : Hid (Calls Tryz.prog 15 #[.slice ra SZ rc] V1 fun e w' => ∃ qa qc, e = .returned (.tuple #[.slice qa QL qc, .int .i64 0]) ∧ SlR w' qa QL qc (encK f T) ∧ Below V1.heap.size V1 w') := by
                  have hf2 : f = 2 := HU2.out.1 rfl
                  have h := enc_huff T HT6.out ra rc V1 (by rw [HSZ.out]; exact HSf.out.below HB3.out)
                  rw [HSZ.out, ← hf2, hQL2.out] at h
                  exact h
                go_wp2_with (go_at_call 15; refine HEH.out.mono ?_; rintro e w4 ⟨qa, qc, rfl, hs4, hb4⟩; have HS4 := hide hs4; have HB4 := hide (below_trans HB3.out hb4); clear hs4 hb4)
                go_meet
                case rel => exact ⟨rfl, qa, qc, rfl, HS4.out, HB4.out⟩
              | false =>
                have HX : Hid (qn0 = QL ∧ SlR V1 qa0 QL qc0 (encK f T)) := by
                  have h := HS3.out
                  have hk2f : f ≠ 2 := fun e => by have := HU2.out.2 e; cases this
                  have hT : (if u1 = true then encK 1 T else T) = encK f T := by
                    split
                    · next ht => rw [HU1.out.1 ht]
                    · next hn =>
                      have hk1 : f ≠ 1 := fun e => hn (HU1.out.2 e)
                      have hk0 : f = 0 := by omega
                      subst hk0
                      rfl
                  rw [hT] at h
                  have hn : qn0 = QL := by rw [← h.1, hQL2.out]
                  rw [hn] at h
                  exact ⟨hn, h⟩
                obtain ⟨rfl, hx⟩ := HX.out
                have HX2 := hide hx
                clear hx HX
                go_wp2_with fail
                go_meet
                case rel => exact ⟨rfl, qa0, qc0, rfl, HX2.out, HB3.out⟩
            case rest =>
              clear HS3 HB3 qa0 qn0 qc0
              obtain ⟨rfl, qa, qc, rfl, HQ2, HBQ⟩ := hcut
              obtain ⟨V2, rfl⟩ : ∃ V2 : World, V2 = wc := ⟨_, rfl⟩
              have HBV2 := hide (below_trans HBf.out HBQ.out)
              have HB2w := hide (below_trans HBRW.out HBV2.out)
              have q64 : IntKind.i64.wrap (64 * (QL : Int)) = 64 * (QL : Int) := by rw [IntKind.wrap_i64]; omega
              have qf8 : IntKind.u8.wrap (f : Int) = (f : Int) := by rw [IntKind.wrap_u8]; omega
              have hvf : Hid ((vals [BitVec.ofNat 8 f]).toArray = #[.int .u8 (f : Int)]) := by
                have h3 : f = 0 ∨ f = 1 ∨ f = 2 := by omega
                rcases h3 with rfl | rfl | rfl <;> rfl
              by_cases hft : SZ ≤ 64 * QL
              · have hd : decide ((SZ : Int) ≤ 64 * (QL : Int)) = true := by rw [decide_eq_true_iff]; omega
                have hdi : (SZ : Int) ≤ 64 * (QL : Int) := by omega
                have hmn := HMIN.out f hf3 (by rw [hQL2.out]; exact hft)
                rw [hQL2.out] at hmn
                have hn1 : ¬ (QL : Int) < (PL : Int) := by omega
                have HMN : Hid (QL = PL → ¬ (f : Int) < (k : Int)) := fun e => by omega
                clear hmn
                go_upto_region 27 with (fail)
                go_cut [133] from 113 to 133 (fun s133 wx => s133 = .bool false ∧ wx = V2)
                case first =>
                  by_cases heq : QL = PL
                  · have hfk := HMN.out heq
                    subst heq
                    go_wp2_with fail
                    go_meet
                    case rel => exact ⟨by first | rfl | (simp; done) | (simp; omega), rfl⟩
                  · have hqb : ((QL : Int) == (PL : Int)) = false := by rw [beq_eq_false_iff_ne]; omega
                    go_wp2_with fail
                    go_meet
                    case rel => exact ⟨by first | rfl | (simp; done) | (simp; omega), rfl⟩
                case rest =>
                  obtain ⟨rfl, hwx⟩ := hcut
                  obtain rfl := hwx.symm
                  have HFT : Hid (SZ ≤ 64 * (encK f T).length) := by rw [hQL2.out]; exact hft
                  go_wp2_with (first
                    | (have hlate := HO6; go_at_call 10; refine (HOE.out f g6 NN _ hf3 HR6.out HNN.out).mono ?_; rintro e w7 ⟨h7a, h7b, hb7⟩; obtain ⟨qq, rfl, hrl⟩ := h7a HFT.out; have HRL := hide hrl; clear hrl; have HB7 := hide (below_trans HB6.out hb7); clear h7a h7b hb7)
                    | (go_at_call 16; refine (Crc.seal_any sa SN sc _ _ HS5.out.1 HS5.out.2.1 HS5.out.2.2).mono ?_; rintro e w6 ⟨g6, rfl, hg6, ho6, hb6⟩; have HO6 := hide ho6; obtain ⟨NN, hNN⟩ : ∃ NN, SN + 4 = NN := ⟨_, rfl⟩; rw [hNN] at ho6 ⊢; have HR6 : Hid (Rd w6 (some ⟨g6, 0, none⟩) NN (tile (encK f T ++ [BitVec.ofNat 8 f]))) := Got.rd ho6 (by rw [length_tile, List.length_append]; have := HQL.out; simp; omega); have HNN : Hid (NN ≤ 9223372036854775807) := Own.room ho6; have HB6 := hide (below_trans HB5.out hb6); clear hg6 ho6 hb6 hNN)
                    | (have hlate := HO4; at_builtin; refine join _ rfl _ _ rfl wR.heap.size (.slice qa4 QL qc4) (encK f T) rfl (HO4.out.below ((Below.refl _ _).alloc (Nat.le_refl _) _)) (some ⟨w4.heap.size, 0, none⟩) 1 1 [BitVec.ofNat 8 f] rfl (Got.rd (base := 0) (cap := 1) (own_heap (bs := [BitVec.ofNat 8 f]) (by rw [hvf.out]; exact heap_alloc_new w4 _) (Nat.zero_le _) (by unfold maxLen; simp)) (by simp)) (fun h => nomatch h) (by have := HQL.out; simp; omega) (Nat.le_trans HB4.out.size ((Below.refl w4.heap.size w4).alloc (Nat.le_refl _) (.cells #[.int .u8 (f : Int)] 5)).size) ?_
                       intro v5 w5 ho5 hg5
                       obtain ⟨sa, sc, hv5⟩ := ho5.shape; obtain ⟨SN, hSN⟩ : ∃ SN, (encK f T ++ [BitVec.ofNat 8 f]).length = SN := ⟨_, rfl⟩; rw [hSN] at hv5; subst hv5
                       have HS5 : Hid (Rd w5 sa SN (encK f T ++ [BitVec.ofNat 8 f]) ∧ (sa = none → SN = 0 ∧ sc = 0) ∧ SN ≤ 140737488351240) := ⟨Got.rd ho5 (by rw [List.length_append]; have := HQL.out; simp; omega), Got.nil ho5, by rw [← hSN, List.length_append]; have := HQL.out; simp; omega⟩
                       have HB5 : Hid (Below wR.heap.size wR w5) := (HB4.out.alloc HB4.out.size _).grown hg5 (HB4.out.alloc HB4.out.size _).size (fun i e => (blk HO4.out i e).1)
                       clear ho5 hg5 hSN)
                    | (at_builtin; refine join _ rfl _ _ rfl wR.heap.size (.slice (some ⟨V2.heap.size, 0, none⟩) 0 0) [] rfl (own_empty V2 wR.heap.size HBV2.out.size) qa QL qc (encK f T) rfl (HQ2.out.2.1.below ((Below.refl _ _).alloc (Nat.le_refl _) _)) HQ2.out.2.2.2.2 (by have := HQL.out; simp; omega) (Nat.le_trans HBV2.out.size ((Below.refl V2.heap.size V2).alloc (Nat.le_refl _) (.cells #[] 5)).size) ?_
                       intro v4 w4 ho4 hg4
                       rw [List.nil_append] at ho4
                       obtain ⟨qa4, qc4, hq4⟩ := ho4.shape; rw [hQL2.out] at hq4; subst hq4
                       have HO4 := hide ho4
                       have HB4 : Hid (Below wR.heap.size wR w4) := (HBV2.out.alloc HBV2.out.size _).grown hg4 (HBV2.out.alloc HBV2.out.size _).size (fun i e => by cases e; exact HBV2.out.size)
                       clear ho4 hg4)
                    | (go_at_call 17; refine (len_rl qq L _ HRL.out).mono ?_; rintro e w7 ⟨rfl, rfl⟩; rw [HN.out]))
                  go_roundw
                  case rel => exact ⟨f + 1, by omega, by go_num, HB7.out⟩
                  case measure => (simp [intOf] <;> omega)
              · have hd : decide ((SZ : Int) ≤ 64 * (QL : Int)) = false := by rw [decide_eq_false_iff_not]; omega
                have hdi : ¬ (SZ : Int) ≤ 64 * (QL : Int) := by omega
                have HFT : Hid (¬ SZ ≤ 64 * (encK f T).length) := by rw [hQL2.out]; exact hft
                go_wp2_with (first
                  | (have hlate := HO6; go_at_call 10; refine (HOE.out f g6 NN _ hf3 HR6.out HNN.out).mono ?_; rintro e w7 ⟨h7a, h7b, hb7⟩; obtain rfl := h7b HFT.out; have HB7 := hide (below_trans HB6.out hb7); clear h7a h7b hb7)
                  | (go_at_call 16; refine (Crc.seal_any sa SN sc _ _ HS5.out.1 HS5.out.2.1 HS5.out.2.2).mono ?_; rintro e w6 ⟨g6, rfl, hg6, ho6, hb6⟩; have HO6 := hide ho6; obtain ⟨NN, hNN⟩ : ∃ NN, SN + 4 = NN := ⟨_, rfl⟩; rw [hNN] at ho6 ⊢; have HR6 : Hid (Rd w6 (some ⟨g6, 0, none⟩) NN (tile (encK f T ++ [BitVec.ofNat 8 f]))) := Got.rd ho6 (by rw [length_tile, List.length_append]; have := HQL.out; simp; omega); have HNN : Hid (NN ≤ 9223372036854775807) := Own.room ho6; have HB6 := hide (below_trans HB5.out hb6); clear hg6 ho6 hb6 hNN)
                  | (have hlate := HO4; at_builtin; refine join _ rfl _ _ rfl wR.heap.size (.slice qa4 QL qc4) (encK f T) rfl (HO4.out.below ((Below.refl _ _).alloc (Nat.le_refl _) _)) (some ⟨w4.heap.size, 0, none⟩) 1 1 [BitVec.ofNat 8 f] rfl (Got.rd (base := 0) (cap := 1) (own_heap (bs := [BitVec.ofNat 8 f]) (by rw [hvf.out]; exact heap_alloc_new w4 _) (Nat.zero_le _) (by unfold maxLen; simp)) (by simp)) (fun h => nomatch h) (by have := HQL.out; simp; omega) (Nat.le_trans HB4.out.size ((Below.refl w4.heap.size w4).alloc (Nat.le_refl _) (.cells #[.int .u8 (f : Int)] 5)).size) ?_
                     intro v5 w5 ho5 hg5
                     obtain ⟨sa, sc, hv5⟩ := ho5.shape; obtain ⟨SN, hSN⟩ : ∃ SN, (encK f T ++ [BitVec.ofNat 8 f]).length = SN := ⟨_, rfl⟩; rw [hSN] at hv5; subst hv5
                     have HS5 : Hid (Rd w5 sa SN (encK f T ++ [BitVec.ofNat 8 f]) ∧ (sa = none → SN = 0 ∧ sc = 0) ∧ SN ≤ 140737488351240) := ⟨Got.rd ho5 (by rw [List.length_append]; have := HQL.out; simp; omega), Got.nil ho5, by rw [← hSN, List.length_append]; have := HQL.out; simp; omega⟩
                     have HB5 : Hid (Below wR.heap.size wR w5) := (HB4.out.alloc HB4.out.size _).grown hg5 (HB4.out.alloc HB4.out.size _).size (fun i e => (blk HO4.out i e).1)
                     clear ho5 hg5 hSN)
                  | (at_builtin; refine join _ rfl _ _ rfl wR.heap.size (.slice (some ⟨V2.heap.size, 0, none⟩) 0 0) [] rfl (own_empty V2 wR.heap.size HBV2.out.size) qa QL qc (encK f T) rfl (HQ2.out.2.1.below ((Below.refl _ _).alloc (Nat.le_refl _) _)) HQ2.out.2.2.2.2 (by have := HQL.out; simp; omega) (Nat.le_trans HBV2.out.size ((Below.refl V2.heap.size V2).alloc (Nat.le_refl _) (.cells #[] 5)).size) ?_
                     intro v4 w4 ho4 hg4
                     rw [List.nil_append] at ho4
                     obtain ⟨qa4, qc4, hq4⟩ := ho4.shape; rw [hQL2.out] at hq4; subst hq4
                     have HO4 := hide ho4
                     have HB4 : Hid (Below wR.heap.size wR w4) := (HBV2.out.alloc HBV2.out.size _).grown hg4 (HBV2.out.alloc HBV2.out.size _).size (fun i e => by cases e; exact HBV2.out.size)
                     clear ho4 hg4))
                go_roundw
                case rel => exact ⟨f + 1, by omega, by go_num, HB7.out⟩
                case measure => (simp [intOf] <;> omega)
        · have hf2 : ¬ (f : Int) ≤ 2 := by omega
          go_wp2_with fail
          go_ret
          exact ⟨rfl, below_trans HBRW.out HBf.out⟩
end Go.Proofs.YthdblnfohbldcaaGreat.blockCodes
