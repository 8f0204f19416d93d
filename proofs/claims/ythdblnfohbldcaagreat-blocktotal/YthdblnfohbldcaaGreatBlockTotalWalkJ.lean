/-
  built: a block of those of the entries that a builder takes.
-/
import Derived.Test.YthdblnfohbldcaaGreatBlOBJ
import Derived.Test.YthdblnfohbldcaaGreatBlModJ
import Derived.Test.YthdblnfohbldcaaGreatJbPairJ
import Derived.Deep.RegionHeldLaw
import Derived.Deep.DeepCutAuto
import Derived.Test.YthdblnfohbldcaaGreatBlSlRJ
import Derived.OpenShut
namespace Go.Proofs.YthdblnfohbldcaaGreat.Bl
open Go.ChangeShapes Go.WideShapes Go.ChangeAt Go.RowKit
open Go.Proofs.YthdblnfohbldcaaGreat.Base Go.Proofs.YthdblnfohbldcaaGreat.Nums
open Go.Proofs.YthdblnfohbldcaaGreat.Jb (OwnP RdP pushP ownp_none pr0)
set_option linter.unusedVariables false
theorem results_four {fn : Func} {t u v x : Tmp} (h : fn.results = #[.tmp t, .tmp u, .tmp v, .tmp x]) (tmps : Array Value) (P : Program) (w : World) :
    (results fn tmps).run P w = .ok (.tuple #[tmps.getD t undef, tmps.getD u undef, tmps.getD v undef, tmps.getD x undef]) w := by
  simp [results, h]
theorem ty_pair {w : World} {base n : Nat} {v : Value} {ps : List En} (h : OwnP w base v ps) : Ty w v.ownBlock 61 := own_ty h
theorem pair_ne : (61 : TypeId) ≠ 5 ∧ (61 : TypeId) ≠ 3 := by decide
/-- A list of pairs stays where a builder works. -/
theorem ownp_bf {w w' : World} {base q b0 : Nat} {v : Value} {ps : List En} (h : OwnP w base v ps) (hk : KeptF w w' (BF w q b0)) (hq : ∀ i, v.ownBlock = some i → i ≠ q) : OwnP w' base v ps := by
  refine h.same (fun i hi => hk.block i (h.blk i hi).2 ?_)
  rintro (h1 | ⟨_, h1 | h1⟩)
  · exact hq i hi h1
  · exact ty_ne (ty_pair (n := 0) h) h1 pair_ne.1 i hi rfl
  · exact ty_ne (ty_pair (n := 0) h) h1 pair_ne.2 i hi rfl
/-- A builder stays where a list of pairs grows. -/
theorem bs_push {w w' : World} {q base r b0 : Nat} {m : Int} {L : List En} {v : Value} {ps : List En} (h : BS w q base r m L) (hp : OwnP w b0 v ps) (hg : w.grownBy w' v.ownBlock) (hq : ∀ i, v.ownBlock = some i → i ≠ q) : BS w' q base r m L := by
  refine h.keep hg (fun i hi => ⟨hq i hi, ?_, ?_⟩)
  · intro h1; exact ty_ne (ty_pair (n := 0) hp) h1 pair_ne.1 i hi rfl
  · intro h1; exact ty_ne (ty_pair (n := 0) hp) h1 pair_ne.2 i hi rfl
theorem add_kv (r : Nat) (m : Int) (h : 0 < r) : addA r m [] ⟨#[107]⟩ ⟨#[118]⟩ = 0 := by
  unfold addA addE
  rw [if_neg (by decide), if_neg (by decide), if_neg (by simp)]
/-- What stands behind the gathering. -/
def GP (w0 w : World) (q base r : Nat) (m : Int) (ta : Option Addr) (tc : Nat) (L : List En) : Prop :=
  BS w q base r m L ∧ OkB r L ∧ OwnP w base (.slice ta L.length tc) L ∧ Below w0.heap.size w0 w ∧ base ≤ w.heap.size
theorem ownp_mono {w : World} {base base' : Nat} {v : Value} {ps : List En} (h : OwnP w base v ps) (hb : base' ≤ base) : OwnP w base' v ps := by
  refine ⟨h.1, ?_⟩
  rcases h.2 with h2 | ⟨g, cap, cur, h1, h2, h3⟩
  · exact .inl h2
  · exact .inr ⟨g, cap, cur, h1, by omega, h3⟩
theorem tail_eq (n : Nat) : (((n : Nat) : Int) == (n : Int)) = true := by simp
set_option maxHeartbeats 4000000 in
set_option maxRecDepth 100000 in
theorem built_any (r : Nat) (m : Int) (la : Option Addr) (ln lc : Nat) (ps : List En) (w : World) (hl : RdP w la ln ps) (hsz : ∀ p ∈ ps, p.1.size ≤ 140737488355328 ∧ p.2.size ≤ 140737488355328) (hln : ln ≤ 140737488355328) (hr : 1 ≤ r ∧ r ≤ 64 ∧ 64 ≤ m ∧ m ≤ 65536) :
    Calls Tryz.prog 8 #[.int .i64 (r : Int), .int .i64 m, .slice la ln lc] w fun e w' => ∃ (L : List En) (g : Nat) (pa : Option Addr) (pc : Nat), e = .returned (.tuple #[.slice pa L.length pc, .slice (some ⟨g, 0, none⟩) ((packB (rawE r L)).length + 4) ((packB (rawE r L)).length + 4), .int .i64 ((rawE r L).length : Nat), .bool true]) ∧ L ≠ [] ∧ OkB r L ∧ OwnP w' w.heap.size (.slice pa L.length pc) L ∧ Own w' w.heap.size (.slice (some ⟨g, 0, none⟩) ((packB (rawE r L)).length + 4) ((packB (rawE r L)).length + 4)) (tileB (rawE r L)) ∧ Below w.heap.size w w' := by
  have HNB := hide (new_bs r m w hr)
  have HL := hide hl
  have HSZ := hide hsz
  obtain ⟨q, hq⟩ : ∃ q, w.heap.size = q := ⟨_, rfl⟩
  have HQ := hide hq
  have hr1 := hr.1
  clear hl hsz
  go_enter Tryz.func8, Tryz.ntmps8
  go_wp2_with (go_at_call 19; refine HNB.out.mono ?_; rintro e w1 ⟨rfl, hbs, hs1, hb1⟩; rw [hq] at hbs hs1 ⊢; have HB1 := hide hb1; have HBS1 := hide hbs; have HS1 := hide hs1; clear hbs hs1 hb1)
  go_loopw [12, 13, 14] (fun s12 s13 s14 wr => ∃ (i : Nat) (fl : Bool) (L : List En) (ta : Option Addr) (tc : Nat), i ≤ ln ∧ s14 = .int .i64 (i : Int) ∧ s13 = .bool fl ∧ s12 = .slice ta L.length tc ∧ Hid (GP w wr q (q + 1) r m ta tc L)) (fun _ _ s14 _ => ln - (intOf s14).toNat)
  case atStart => exact ⟨0, false, [], none, 0, Nat.zero_le _, rfl, rfl, rfl, HBS1.out, okB_nil r (by omega), ownp_none _ _, HB1.out, by rw [HS1.out]; exact Nat.le_refl _⟩
  case round =>
    rename World => V0
    obtain ⟨i, fl, L, ta, tc, hi, rfl, rfl, rfl, HG⟩ := hrel
    obtain ⟨cn, hcn⟩ : ∃ cn, (decide ((i : Int) < (ln : Int)) && !fl) = cn := ⟨_, rfl⟩
    have HCN := hide hcn
    go_upto_region 7 with (fail)
    go_cut [39] from 32 to 39 (fun s39 wx => s39 = .bool cn ∧ wx = V0)
    case first =>
      by_cases hlt : (i : Int) < (ln : Int)
      · have hd : decide ((i : Int) < (ln : Int)) = true := by simpa using hlt
        go_wp2_with fail
        go_meet
        case rel => exact ⟨by rw [← HCN.out, hd]; cases fl <;> rfl, rfl⟩
      · have hd : decide ((i : Int) < (ln : Int)) = false := by simpa using hlt
        go_wp2_with fail
        go_meet
        case rel => exact ⟨by rw [← HCN.out, hd]; rfl, rfl⟩
    case rest =>
      obtain ⟨rfl, hwx⟩ := hcut
      obtain rfl := hwx.symm
      clear hcn
      cases cn with
      | true =>
        have hcn := HCN.out
        rw [Bool.and_eq_true] at hcn
        have hlt := of_decide_eq_true hcn.1
        have hfl : fl = false := by cases fl with | true => exact absurd hcn.2 (by decide) | false => rfl
        subst hfl
        have hltn : i < ln := by omega
        obtain ⟨b1, o1, rfl, hb1, hc1⟩ := HL.out.2 (by omega)
        obtain ⟨c0, c1⟩ := hc1 i hltn
        obtain ⟨key, value, hkv⟩ : ∃ key value, ps.getD i pr0 = (key, value) := ⟨_, _, rfl⟩
        rw [hkv] at c0 c1
        simp only at c0 c1
        have hkvs : key.size ≤ 140737488355328 ∧ value.size ≤ 140737488355328 := by
          have hm : ps.getD i pr0 ∈ ps := by rw [List.getD_eq_getElem?_getD, List.getElem?_eq_getElem (by rw [HL.out.1]; exact hltn)]; exact List.getElem_mem _
          have := HSZ.out _ hm
          rw [hkv] at this; exact this
        have HCC : Hid (∀ W, Below w.heap.size w W → W.cell? ⟨b1, o1 + i * 2, none⟩ = some (.string key) ∧ W.cell? ⟨b1, o1 + i * 2 + 1, none⟩ = some (.string value)) := fun W hW => ⟨(hW.cell (p := ⟨b1, o1 + i * 2, none⟩) hb1).trans c0, (hW.cell (p := ⟨b1, o1 + i * 2 + 1, none⟩) hb1).trans c1⟩
        obtain ⟨g1, g2, g3, g4, g5⟩ := HG.out
        obtain ⟨p0, p1⟩ := HCC.out _ g4
        have HAD : Hid (∀ W, Below V0.heap.size V0 W → Calls Tryz.prog 21 #[.pointer (some ⟨q, 0, none⟩), .string key, .string value] W fun e w' => e = .returned (.int .i64 (addA r m L key value)) ∧ BS w' q (q + 1) r m (addL r m L key value) ∧ OkB r (addL r m L key value) ∧ KeptF W w' (BF W q (q + 1))) := fun W hW =>
          add_bs q (q + 1) r m L key value W (g1.below hW) g2 (by omega) (by have := hW.size; omega) hr hkvs.1 hkvs.2
        obtain ⟨er, her⟩ : ∃ er, addA r m L key value = er := ⟨_, rfl⟩
        have HAL : Hid (addL r m L key value = if er = 0 then L ++ [(key, value)] else L) := by show _ = _; unfold addL; rw [her]
        rw [her] at HAD
        clear c0 c1 hc1 hkv hkvs her g1 g2 g3 hcn hb1
        go_wp2_with fail
        go_cut [15] from 42 to 53 (fun s15 wx => s15 = .int .i64 er ∧ Hid (BS wx q (q + 1) r m (addL r m L key value)) ∧ Hid (OkB r (addL r m L key value)) ∧ Hid (OwnP wx (q + 1) (.slice ta L.length tc) L) ∧ Hid (Below w.heap.size w wx) ∧ Hid (q + 1 ≤ wx.heap.size))
        case first =>
          go_region_held_law (fun V => V.cell? ⟨b1, o1 + i * 2, none⟩ = some (.string key) ∧ V.cell? ⟨b1, o1 + i * 2 + 1, none⟩ = some (.string value)) (first | exact E1.out | go_keep) (first
            | (go_at_call 21; refine (HAD.out _ (Below.refl _ _).drew).mono ?_; rintro e w2 ⟨rfl, hbs, hok, hkf⟩
               have hg := HG.out
               have hbl : Below w.heap.size w w2 := hkf.toBelow (below_trans hg.2.2.2.1 (Below.refl _ _).drew) (fun i hi => by have := HQ.out; rcases hi with h1 | h1 <;> omega)
               have E1 := hide (HCC.out w2 hbl)
               have H2 : Hid (BS w2 q (q + 1) r m (addL r m L key value) ∧ OkB r (addL r m L key value) ∧ OwnP w2 (q + 1) (.slice ta L.length tc) L ∧ Below w.heap.size w w2 ∧ q + 1 ≤ w2.heap.size) := ⟨hbs, hok, ownp_bf (hg.2.2.1.below (Below.refl _ _).drew) hkf (fun i hi => by have := (hg.2.2.1.blk i hi).1; omega), hbl, Nat.le_trans hg.2.2.2.2 (Nat.le_trans (Below.refl V0.heap.size V0).drew.size hkf.size)⟩
               clear hbs hok hkf hg hbl))
          all_goals
            go_wp2_with fail
            go_meet
            case rel => exact ⟨rfl, H2.out.1, H2.out.2.1, H2.out.2.2.1, H2.out.2.2.2.1, H2.out.2.2.2.2⟩
        case rest =>
          obtain ⟨rfl, K1, K2, K3, K4, K5⟩ := hcut
          clear HAD p0 p1 HG g4 g5
          by_cases he0 : er = 0
          · subst he0
            have HAM : Hid (addL r m L key value = L ++ [(key, value)]) := by show _ = _; rw [HAL.out]; rfl
            rw [HAM.out] at K1 K2
            obtain ⟨p0, p1⟩ := HCC.out _ K4.out
            have HBA : Hid (Below wc.heap.size wc (wc.alloc (.cells #[.string key, .string value] 61))) := (Below.refl _ _).alloc (Nat.le_refl _) _
            have HCA : Hid ((wc.alloc (.cells #[.string key, .string value] 61)).heap[wc.heap.size]? = some (.cells #[.string key, .string value] 61)) := heap_alloc_new _ _
            go_wp2_with (at_builtin; refine pushP _ rfl _ _ rfl (q + 1) (.slice ta L.length tc) L rfl (K3.out.below HBA.out) wc.heap.size (key, value) rfl HCA.out (by have := ok_few K2.out; rw [List.length_append] at this; omega) (Nat.le_trans K5.out HBA.out.size) ?_; intro g c w4 ho4 hg4 hg5; have hl4 : (L ++ [(key, value)]).length = L.length + 1 := (by simp); have H4 : Hid (GP w w4 q (q + 1) r m (some ⟨g, 0, none⟩) c (L ++ [(key, value)])) := ⟨bs_push (K1.out.below HBA.out) (K3.out.below HBA.out) hg4 (fun i hi => by have := (K3.out.blk i hi).1; omega), K2.out, by rw [hl4]; exact ho4, (below_trans K4.out HBA.out).grown hg4 (below_trans K4.out HBA.out).size (fun i hi => by have := (K3.out.blk i hi).1; have := HQ.out; omega), Nat.le_trans (Nat.le_trans K5.out HBA.out.size) hg4.size⟩; clear ho4 hg4 hg5)
            go_roundw
            case rel => exact ⟨i + 1, false, L ++ [(key, value)], some ⟨g, 0, none⟩, c, by omega, by go_num, by first | rfl | simp, by rw [hl4], H4.out⟩
            case measure => (simp [intOf] <;> omega)
          · have HAM : Hid (addL r m L key value = L) := by show _ = _; rw [HAL.out, if_neg he0]
            rw [HAM.out] at K1 K2
            have hb0 : (er == 0) = false := by simpa using he0
            go_wp2_with fail
            go_roundw
            case rel => exact ⟨i + 1, (er == 62), L, ta, tc, by omega, by go_num, rfl, rfl, K1.out, K2.out, K3.out, K4.out, K5.out⟩
            case measure => (simp [intOf] <;> omega)
      | false =>
        clear HCN
        obtain ⟨n, hn⟩ : ∃ n, L.length = n := ⟨_, rfl⟩
        have HN := hide hn
        rw [hn]
        clear hn
        obtain ⟨tb, htb⟩ : ∃ tb, ((n : Int) == 0) = tb := ⟨_, rfl⟩
        go_upto_if 67 with (fail)
        go_cut [12] from 68 to 73 (fun s12 wx => ∃ (L' : List En) (ta' : Option Addr) (tc' : Nat), s12 = .slice ta' L'.length tc' ∧ Hid (L' ≠ []) ∧ Hid (GP w wx q (q + 1) r m ta' tc' L'))
        case first =>
          by_cases hL : n = 0
          · obtain rfl : tb = true := by rw [← htb, hL]; rfl
            subst hL
            have HLN : Hid (L = []) := List.length_eq_zero_iff.1 HN.out
            have HAD : Hid (Calls Tryz.prog 21 #[.pointer (some ⟨q, 0, none⟩), .string ⟨#[107]⟩, .string ⟨#[118]⟩] V0 fun e w' => e = .returned (.int .i64 0) ∧ BS w' q (q + 1) r m (L ++ [(⟨#[107]⟩, ⟨#[118]⟩)]) ∧ OkB r (L ++ [(⟨#[107]⟩, ⟨#[118]⟩)]) ∧ OwnP w' (q + 1) (.slice ta 0 tc) L ∧ Below w.heap.size w w' ∧ q + 1 ≤ w'.heap.size) := by
              obtain ⟨g1, g2, g3, g4, g5⟩ := HG.out
              have ha : addA r m L ⟨#[107]⟩ ⟨#[118]⟩ = 0 := by rw [HLN.out]; exact add_kv r m (by omega)
              have hal : addL r m L ⟨#[107]⟩ ⟨#[118]⟩ = L ++ [(⟨#[107]⟩, ⟨#[118]⟩)] := if_pos ha
              refine (add_bs q (q + 1) r m L ⟨#[107]⟩ ⟨#[118]⟩ V0 g1 g2 (by omega) g5 hr (by decide) (by decide)).mono ?_
              rintro e w' ⟨rfl, hbs, hok, hkf⟩
              rw [hal] at hbs hok
              rw [ha]
              rw [HN.out] at g3
              exact ⟨rfl, hbs, hok, ownp_bf g3 hkf (fun i hi => by have := (g3.blk i hi).1; omega), hkf.toBelow g4 (fun i hi => by have := HQ.out; rcases hi with h1 | h1 <;> omega), Nat.le_trans g5 hkf.size⟩
            go_wp2_with (first
              | (go_at_call 21; refine HAD.out.mono ?_; rintro e w2 ⟨rfl, hbs, hok, hop, hbl, hs2⟩; have K1 := hide hbs; have K2 := hide hok; have K3 := hide hop; have K4 := hide hbl; have K5 := hide hs2; have HBA : Hid (Below w2.heap.size w2 (w2.alloc (.cells #[.string ⟨#[107]⟩, .string ⟨#[118]⟩] 61))) := (Below.refl _ _).alloc (Nat.le_refl _) _; have HCA : Hid ((w2.alloc (.cells #[.string ⟨#[107]⟩, .string ⟨#[118]⟩] 61)).heap[w2.heap.size]? = some (.cells #[.string ⟨#[107]⟩, .string ⟨#[118]⟩] 61)) := heap_alloc_new _ _; clear hbs hok hop hbl hs2)
              | (at_builtin; refine pushP _ rfl _ _ rfl (q + 1) (.slice ta 0 tc) L rfl (K3.out.below HBA.out) w2.heap.size (⟨#[107]⟩, ⟨#[118]⟩) rfl HCA.out (by have := ok_few K2.out; rw [List.length_append] at this; omega) (Nat.le_trans K5.out HBA.out.size) ?_; intro g c w4 ho4 hg4 hg5; have hl4 : (L ++ [((⟨#[107]⟩, ⟨#[118]⟩) : En)]).length = L.length + 1 := (by simp); have H4 : Hid (GP w w4 q (q + 1) r m (some ⟨g, 0, none⟩) c (L ++ [(⟨#[107]⟩, ⟨#[118]⟩)])) := ⟨bs_push (K1.out.below HBA.out) (K3.out.below HBA.out) hg4 (fun i hi => by have := (K3.out.blk i hi).1; omega), K2.out, by rw [hl4]; exact ho4, (below_trans K4.out HBA.out).grown hg4 (below_trans K4.out HBA.out).size (fun i hi => by have := (K3.out.blk i hi).1; have := HQ.out; omega), Nat.le_trans (Nat.le_trans K5.out HBA.out.size) hg4.size⟩; clear ho4 hg4 hg5))
            go_meet
            case rel => exact ⟨L ++ [((⟨#[107]⟩ : ByteArray), (⟨#[118]⟩ : ByteArray))], some ⟨g, 0, none⟩, c, by first | rw [hl4] | (rw [hl4, HN.out]), by show _ ≠ _; simp, H4.out⟩
          · have HLN : Hid (L ≠ []) := fun e => hL (by rw [← HN.out, e]; rfl)
            obtain rfl : tb = false := by rw [← htb]; simpa using hL
            go_wp2_with fail
            go_meet
            case rel => exact ⟨L, ta, tc, by rw [HN.out], HLN.out, HG.out⟩
        case rest =>
          obtain ⟨L', ta', tc', rfl, HNE, HGP⟩ := hcut
          obtain ⟨SZ, hSZ⟩ : ∃ SZ, (rawE r L').length = SZ := ⟨_, rfl⟩
          obtain ⟨PK, hPK⟩ : ∃ PK, (packB (rawE r L')).length + 4 = PK := ⟨_, rfl⟩
          have HPK := hide hPK
          have HSZ2 := hide hSZ
          have HSI : Hid (Calls Tryz.prog 22 #[.pointer (some ⟨q, 0, none⟩)] wc fun e w' => e = .returned (.int .i64 (SZ : Nat)) ∧ ∃ k, w' = wc.drewN k) := by
            have h := size_bs q (q + 1) r m L' wc HGP.out.1 HGP.out.2.1 HNE.out
            rw [hSZ] at h; exact h
          have HFI : Hid (∀ W, Below wc.heap.size wc W → Calls Tryz.prog 33 #[.pointer (some ⟨q, 0, none⟩)] W fun e w' => ∃ g, e = .returned (.tuple #[.slice (some ⟨g, 0, none⟩) PK PK, .int .i64 (SZ : Nat), .int .i64 0]) ∧ Own w' W.heap.size (.slice (some ⟨g, 0, none⟩) PK PK) (tileB (rawE r L')) ∧ BS w' q (q + 1) r m [] ∧ KeptF W w' (fun i => i = q)) := fun W hW => by
            have h := fin_bs q (q + 1) r m L' W (HGP.out.1.below hW) HGP.out.2.1 HNE.out (Nat.le_trans HGP.out.2.2.2.2 hW.size) ⟨hr.1, hr.2.1⟩
            rw [hSZ, hPK] at h; exact h
          have HLE : Hid (∀ W, BS W q (q + 1) r m [] → Calls Tryz.prog 31 #[.pointer (some ⟨q, 0, none⟩)] W fun e w' => e = .returned (.int .i64 0) ∧ w' = W) := fun W hW => len_bs q (q + 1) r m [] W hW
          clear hSZ hPK HG
          go_wp2_with (first
            | (go_at_call 22; refine HSI.out.mono ?_; rintro e w5 ⟨rfl, n5, hw5⟩; have HB5 : Hid (Below wc.heap.size wc w5) := (by rw [hw5]; exact below_drewN' _ _ _); clear hw5)
            | (go_at_call 33; refine (HFI.out _ HB5.out).mono ?_; rintro e w6 ⟨g6, rfl, ho6, hbs6, hk6⟩; have HO6 := hide ho6; have HS6 := hide hbs6; have HK6 := hide hk6; clear ho6 hbs6 hk6)
            | (go_at_call 31; refine (HLE.out _ HS6.out).mono ?_; rintro e w6 ⟨rfl, rfl⟩))
          (try simp only [Exit.inBlock, Exit.then])
          refine bodyPost_ret (results_four rfl _ _ _) rfl ?_
          refine ⟨L', g6, ta', tc', ?_, HNE.out, HGP.out.2.1, ?_, ?_, ?_⟩
          · rw [HPK.out, HSZ2.out]; rfl
          · rw [HQ.out]
            refine ownp_mono ((HGP.out.2.2.1.below HB5.out).same (fun i hi => HK6.out.block i (Nat.lt_of_lt_of_le (HGP.out.2.2.1.blk i hi).2 HB5.out.size) ?_)) (Nat.le_succ q)
            have := (HGP.out.2.2.1.blk i hi).1
            omega
          · rw [HPK.out]
            exact HO6.out.mono (Nat.le_trans HGP.out.2.2.2.1.size HB5.out.size)
          · exact HK6.out.toBelow (below_trans HGP.out.2.2.2.1 HB5.out) (fun i hi => by have := HQ.out; omega)
end Go.Proofs.YthdblnfohbldcaaGreat.Bl
/-
  The walk of the statement BlockTotal.
-/
namespace Go.Proofs.YthdblnfohbldcaaGreat.blockTotal
open Go.ChangeShapes Go.WideShapes Go.ChangeAt Go.RowKit
open Go.Proofs.YthdblnfohbldcaaGreat.Base Go.Proofs.YthdblnfohbldcaaGreat.Nums Go.Proofs.YthdblnfohbldcaaGreat.Curs Go.Proofs.YthdblnfohbldcaaGreat.Crc Go.Proofs.YthdblnfohbldcaaGreat.Bl
open Go.Proofs.YthdblnfohbldcaaGreat.Jb (OwnP RdP pr0)
set_option linter.unusedVariables false
/-- Open refuses. -/
theorem open_bad (b0 : List (BitVec 8)) (f : BitVec 8) (raw : Int) (hb : b0.length ≤ 140737488351232) (h : ¬ (1 ≤ raw ∧ raw ≤ 65536 ∧ unpOk (b0 ++ [f]) raw = true ∧ rightT (unpT (b0 ++ [f]) raw) = true)) (g N : Nat) (W : World) (hr : Rd W (some ⟨g, 0, none⟩) N (tile (b0 ++ [f]))) (hN : N ≤ 9223372036854775807) :
    ((1 ≤ raw ∧ raw ≤ 65536) → Calls Tryz.prog 10 #[.slice (some ⟨g, 0, none⟩) N N, .int .i64 raw] W fun e w' => e = .returned (.tuple #[.pointer none, .int .i64 60]) ∧ Below W.heap.size W w') ∧
    (¬ (1 ≤ raw ∧ raw ≤ 65536) → Calls Tryz.prog 10 #[.slice (some ⟨g, 0, none⟩) N N, .int .i64 raw] W fun e w' => e = .returned (.tuple #[.pointer none, .int .i64 3]) ∧ Below W.heap.size W w') := by
  refine ⟨fun hrg => ?_, fun hrg => ?_⟩
  · have o1 := openErr_tile (b0 ++ [f])
    have o2 := openBody_tile (b0 ++ [f])
    by_cases hu : unpOk (b0 ++ [f]) raw = true
    · have hT : ((unpT (b0 ++ [f]) raw).length : Int) = raw := by
        obtain ⟨u1, u2⟩ := unp_flag b0 f raw
        rw [u1] at hu
        rw [u2]
        exact unpE_len _ _ _ (of_decide_eq_true hu).2.2
      have hrt : rightT (unpT (b0 ++ [f]) raw) = false := by
        cases hx : rightT (unpT (b0 ++ [f]) raw) with
        | false => rfl
        | true => exact absurd ⟨hrg.1, hrg.2, hu, hx⟩ h
      refine (open_text (some ⟨g, 0, none⟩) N N _ (unpT (b0 ++ [f]) raw) raw W hr (Nat.le_refl _) hN hrg.1 hrg.2 o1 (by rw [o2, List.length_append]; simp; omega) (by rw [o2]; exact hu) (by rw [o2]) (by omega)).mono ?_
      rintro e w' ⟨v, rfl, _, hv, hb⟩
      rw [hv hrt, hrt]
      exact ⟨rfl, hb⟩
    · exact open_payload (some ⟨g, 0, none⟩) N N _ raw W hr (Nat.le_refl _) hN hrg.1 hrg.2 o1 (by rw [o2, List.length_append]; simp; omega) (by rw [o2]; simpa using hu)
  · refine (open_range _ raw W (by omega)).mono ?_
    rintro e w' ⟨rfl, rfl⟩
    exact ⟨rfl, Below.refl _ _⟩
/-- Open takes. -/
theorem open_good (b0 : List (BitVec 8)) (f : BitVec 8) (raw : Int) (hb : b0.length ≤ 140737488351232) (h1 : 1 ≤ raw) (h2 : raw ≤ 65536) (hu : unpOk (b0 ++ [f]) raw = true) (hrt : rightT (unpT (b0 ++ [f]) raw) = true) :
    ∃ L, L.length = ctN (unpT (b0 ++ [f]) raw) ∧ OkB (ctR (unpT (b0 ++ [f]) raw)) L ∧ L ≠ [] ∧ (rawE (ctR (unpT (b0 ++ [f]) raw)) L).length = (unpT (b0 ++ [f]) raw).length ∧ 1 ≤ ctR (unpT (b0 ++ [f]) raw) ∧ ctR (unpT (b0 ++ [f]) raw) ≤ 64 ∧ 8 ≤ (unpT (b0 ++ [f]) raw).length ∧ ((unpT (b0 ++ [f]) raw).length : Int) = raw ∧
      ∀ (g N : Nat) (W : World), Rd W (some ⟨g, 0, none⟩) N (tile (b0 ++ [f])) → N ≤ 9223372036854775807 → Calls Tryz.prog 10 #[.slice (some ⟨g, 0, none⟩) N N, .int .i64 raw] W fun e w' => ∃ q, e = .returned (.tuple #[.pointer (some ⟨q, 0, none⟩), .int .i64 0]) ∧ RL w' q L ∧ Below W.heap.size W w' := by
  have hT : ((unpT (b0 ++ [f]) raw).length : Int) = raw := by
    obtain ⟨u1, u2⟩ := unp_flag b0 f raw
    rw [u1] at hu
    rw [u2]
    exact unpE_len _ _ _ (of_decide_eq_true hu).2.2
  obtain ⟨L, G, l1, l2, l3, l4, l5, l6, l7, l8⟩ := right_text _ (by omega) hrt
  refine ⟨L, l1, l3, l4, l5, l6, l7, l8, hT, fun g N W hr hN => ?_⟩
  have o1 := openErr_tile (b0 ++ [f])
  have o2 := openBody_tile (b0 ++ [f])
  refine (open_text (some ⟨g, 0, none⟩) N N _ (unpT (b0 ++ [f]) raw) raw W hr (Nat.le_refl _) hN h1 h2 o1 (by rw [o2, List.length_append]; simp; omega) (by rw [o2]; exact hu) (by rw [o2]) (by omega)).mono ?_
  rintro e w' ⟨v, rfl, hq, _, hb⟩
  obtain ⟨q, rfl, _, hx⟩ := hq hrt
  rw [if_pos hrt]
  rw [← l1] at hx
  exact ⟨q, rfl, ⟨_, _, _, G, hx, l2⟩, hb⟩
theorem built_none (W : World) : Calls Tryz.prog 8 #[.int .i64 4, .int .i64 100, .slice none 0 0] W fun e w' => ∃ x y z, e = .returned (.tuple #[x, y, z, .bool true]) ∧ Below W.heap.size W w' := by
  refine (built_any 4 100 none 0 0 [] W ⟨rfl, fun h => absurd h (by omega)⟩ (fun p hp => absurd hp List.not_mem_nil) (by omega) ⟨by omega, by omega, by omega, by omega⟩).mono ?_
  rintro e w' ⟨L, g, pa, pc, rfl, _, _, _, _, hb⟩
  exact ⟨_, _, _, rfl, hb⟩
theorem dec1 (k : Nat) (T b0 : List (BitVec 8)) (raw : Int) (hk : k = 1) (hu : unpE k b0 raw = (T, 0)) (hT : T.length ≤ 65536) (a : Option Addr) (n c : Nat) (W : World) (hs : SlR W a n c b0) :
    Calls Tryz.prog 12 #[.slice a n c, .int .i64 raw] W fun e w' => ∃ ra rc, e = .returned (.tuple #[.slice ra T.length rc, .int .i64 0]) ∧ SlR w' ra T.length rc T ∧ Below W.heap.size W w' := by
  subst hk
  unfold unpE at hu
  rw [if_neg (by decide), if_pos rfl] at hu
  simp only [Prod.mk.injEq] at hu
  refine (Lz.decode_any a n c _ _ W hs.2.1 hs.2.2.1 hs.2.2.2.1).mono ?_
  rintro e w' ⟨v, rfl, ho, hb⟩
  rw [hu.1] at ho
  rw [hu.2]
  obtain ⟨ra, rc, rfl, hsl⟩ := slr_own ho (by omega)
  exact ⟨ra, rc, rfl, hsl, hb⟩
theorem dec2 (k : Nat) (T b0 : List (BitVec 8)) (raw : Int) (hk : k = 2) (hu : unpE k b0 raw = (T, 0)) (hT : T.length ≤ 65536) (a : Option Addr) (n c : Nat) (W : World) (hs : SlR W a n c b0) :
    Calls Tryz.prog 13 #[.slice a n c, .int .i64 raw] W fun e w' => ∃ ra rc, e = .returned (.tuple #[.slice ra T.length rc, .int .i64 0]) ∧ SlR w' ra T.length rc T ∧ Below W.heap.size W w' := by
  subst hk
  unfold unpE at hu
  rw [if_neg (by decide), if_neg (by decide)] at hu
  refine (Huff.decode_any a n c _ _ W hs.2.1 hs.2.2.1 hs.2.2.2.1).mono ?_
  rintro e w' ⟨v, rfl, ho, hb⟩
  rw [hu] at ho ⊢
  obtain ⟨ra, rc, rfl, hsl⟩ := slr_own ho (by show T.length ≤ _; omega)
  exact ⟨ra, rc, rfl, hsl, hb⟩
theorem dec0 (k : Nat) (T b0 : List (BitVec 8)) (raw : Int) (hk : k = 0) (hu : unpE k b0 raw = (T, 0)) (hT : 8 ≤ T.length) : b0 = T := by
  subst hk
  unfold unpE at hu
  rw [if_pos rfl] at hu
  by_cases h : (b0.length : Int) = raw
  · rw [if_pos h] at hu
    simp only [Prod.mk.injEq] at hu
    exact hu.1
  · rw [if_neg h] at hu
    simp at hu
set_option maxHeartbeats 8000000 in
set_option maxRecDepth 100000 in
theorem walk8 (a0 : Option Addr) (len0 cap0 : Nat) (b0 : List (BitVec 8)) (f : BitVec 8) (n2 : Int) (w : World)
    (r0 : Rd w a0 len0 b0) (l0 : len0 ≤ cap0) (m0 : cap0 ≤ 140737488351232) (z0 : a0 = none → len0 = 0 ∧ cap0 = 0) :
    Calls Tryz.prog 5 #[.slice a0 len0 cap0, .int .u8 (f.toNat : Int), .int .i64 n2] w fun e w' => e = .returned (.bool true) ∧ Below w.heap.size w w' := by
  have hbl := r0.1
  have HP0 : Hid (SlR w a0 len0 cap0 b0) := ⟨hbl, r0, l0, by omega, z0⟩
  have HBN := hide built_none
  obtain ⟨P, hP⟩ : ∃ P, b0 ++ [f] = P := ⟨_, rfl⟩
  have hPl : P.length = len0 + 1 := by rw [← hP, List.length_append, hbl]; rfl
  have HPl := hide hPl
  have HPP := hide hP
  have HO0 : Hid (Own (w.alloc (.cells #[] 5)) w.heap.size (.slice (some ⟨w.heap.size, 0, none⟩) 0 0) []) := own_empty w w.heap.size (Nat.le_refl _)
  have HR0 : Hid (Rd (w.alloc (.cells #[] 5)) a0 len0 b0) := r0.below ((Below.refl _ _).alloc (Nat.le_refl _) _)
  have HZ0 := hide z0
  have HBL := hide hbl
  have hl0 : len0 ≤ 140737488351232 := by omega
  clear r0 l0 m0 z0 hbl hPl
  go_enter Tryz.func5, Tryz.ntmps5
  go_upto_region 2 with (first
    | (have hlate := HO4; at_builtin; refine join _ rfl _ _ rfl w.heap.size (.slice a4 len0 c4) b0 rfl (HO4.out.below ((Below.refl _ _).alloc (Nat.le_refl _) _)) (some ⟨w4.heap.size, 0, none⟩) 1 1 [f] rfl (Got.rd (base := 0) (cap := 1) (own_heap (bs := [f]) (heap_alloc_new w4 _) (Nat.zero_le _) (by unfold maxLen; simp)) (by simp)) (fun h => nomatch h) (by rw [HBL.out]; omega) (Nat.le_trans HB4.out.size ((Below.refl w4.heap.size w4).alloc (Nat.le_refl _) (.cells #[.int .u8 (f.toNat : Int)] 5)).size) ?_
       intro v5 w5 ho5 hg5
       rw [HPP.out] at ho5
       obtain ⟨sa, sc, hv5⟩ := ho5.shape
       rw [HPl.out] at hv5
       subst hv5
       have HO5 := hide ho5
       have HB5 : Hid (Below w.heap.size w w5) := (HB4.out.alloc HB4.out.size _).grown hg5 (HB4.out.alloc HB4.out.size _).size (fun i e => (blk HO4.out i e).1)
       clear ho5 hg5)
    | (at_builtin; refine join _ rfl _ _ rfl w.heap.size (.slice (some ⟨w.heap.size, 0, none⟩) 0 0) [] rfl HO0.out a0 len0 cap0 b0 rfl HR0.out HZ0.out (by simp; omega) (by simp) ?_
       intro v4 w4 ho4 hg4
       rw [List.nil_append] at ho4
       obtain ⟨a4, c4, hv4⟩ := ho4.shape
       rw [HBL.out] at hv4
       subst hv4
       have HO4 := hide ho4
       have HB4 : Hid (Below w.heap.size w w4) := ((Below.refl _ _).alloc (Nat.le_refl _) _).grown hg4 (by simp) (fun i e => by cases e; exact Nat.le_refl _)
       clear ho4 hg4))
  have HSE : Hid (Calls Tryz.prog 16 #[.slice sa (len0 + 1) sc] w5 fun e w' => ∃ g N, e = .returned (.slice (some ⟨g, 0, none⟩) N N) ∧ Rd w' (some ⟨g, 0, none⟩) N (tile P) ∧ N ≤ 9223372036854775807 ∧ Below w5.heap.size w5 w') := by
    refine (Crc.seal_any sa (len0 + 1) sc P w5 (Got.rd HO5.out (by rw [HPl.out]; omega)) (Got.nil HO5.out) (by omega)).mono ?_
    rintro e w' ⟨g, rfl, _, ho, hb⟩
    exact ⟨g, _, rfl, Got.rd ho (by rw [length_tile, HPl.out]; omega), Own.room ho, hb⟩
  by_cases hgood : 1 ≤ n2 ∧ n2 ≤ 65536 ∧ unpOk (b0 ++ [f]) n2 = true ∧ rightT (unpT (b0 ++ [f]) n2) = true
  · obtain ⟨hg1, hg2, hg3, hg4⟩ := hgood
    obtain ⟨L, l1, l2, l3, l4, l5, l6, l7, l8, l9⟩ := open_good b0 f n2 (by rw [HBL.out]; exact hl0) hg1 hg2 hg3 hg4
    obtain ⟨u1, u2⟩ := unp_flag b0 f n2
    rw [u1] at hg3
    obtain ⟨_, hf3, hue⟩ := of_decide_eq_true hg3
    obtain ⟨T, hT⟩ : ∃ T, unpT (b0 ++ [f]) n2 = T := ⟨_, rfl⟩
    rw [hT] at l1 l2 l4 l5 l6 l7 l8
    have hTE : unpE f.toNat b0 n2 = (T, 0) := Prod.ext (by rw [← u2, hT]) hue
    clear hg3 hg4 u1 u2 hue hT
    obtain ⟨SZ, hSZ⟩ : ∃ SZ, T.length = SZ := ⟨_, rfl⟩
    have hw := ct_words T l7
    rw [hSZ] at l4 l7 l8 hw
    subst l8
    obtain ⟨k, hk⟩ : ∃ k, f.toNat = k := ⟨_, rfl⟩
    rw [hk] at hTE hf3 ⊢
    have hSZ6 : SZ ≤ 65536 := by omega
    have HOG : Hid (∀ (g N : Nat) (W : World), Rd W (some ⟨g, 0, none⟩) N (tile P) → N ≤ 9223372036854775807 → Calls Tryz.prog 10 #[.slice (some ⟨g, 0, none⟩) N N, .int .i64 (SZ : Int)] W fun e w' => ∃ q, e = .returned (.tuple #[.pointer (some ⟨q, 0, none⟩), .int .i64 0]) ∧ RL w' q L ∧ Below W.heap.size W w') := by
      rw [← HPP.out]; exact l9
    obtain ⟨R, hR⟩ : ∃ R, ctR T = R := ⟨_, rfl⟩
    obtain ⟨N, hN⟩ : ∃ N, L.length = N := ⟨_, rfl⟩
    rw [hR] at l2 l4 l5 l6 hw
    rw [hN] at l1
    rw [← l1] at hw
    have HW := hide hw
    have HOK := hide l2
    have HNE := hide l3
    have HRW := hide l4
    have HN := hide hN
    have hN1 : 1 ≤ N := by rw [← hN]; exact List.length_pos_iff.2 l3
    have hN6 : N ≤ 65536 := by have := ok_few l2; omega
    have HTE := hide hTE
    have HSZ := hide hSZ
    obtain ⟨t1, ht1⟩ : ∃ t1, ((k : Int) == 1) = t1 := ⟨_, rfl⟩
    obtain ⟨t2, ht2⟩ : ∃ t2, ((k : Int) == 2) = t2 := ⟨_, rfl⟩
    have HT1 : Hid (t1 = true ↔ k = 1) := by show _ ↔ _; rw [← ht1, beq_iff_eq]; omega
    have HT2 : Hid (t2 = true ↔ k = 2) := by show _ ↔ _; rw [← ht2, beq_iff_eq]; omega
    clear l1 l2 l3 l4 l9 hw hR hN hTE hSZ hk
    go_upto_if 66 with (first
      | (go_at_call 16; refine HSE.out.mono ?_; rintro e w6 ⟨g, NN, rfl, hr6, hN6, hb6⟩; have HR6 := hide hr6; have HN6 := hide hN6; have HB6 := hide (below_trans HB5.out hb6); clear hr6 hN6 hb6)
      | (go_at_call 10; refine (HOG.out g NN _ HR6.out HN6.out).mono ?_; rintro e w7 ⟨q, rfl, hrl, hb7⟩; have HRL := hide hrl; have HB7 := hide (below_trans HB6.out hb7); clear hrl hb7))
    have HP7 := hide (HP0.out.below HB7.out)
    go_cut [14] from 67 to 72 (fun s14 wx => ∃ ra rn rc, s14 = .slice ra rn rc ∧ Hid (SlR wx ra rn rc (if t1 = true then T else b0)) ∧ Hid (Below w7.heap.size w7 wx))
    case first =>
      cases t1 with
      | true =>
        have HDL : Hid (Calls Tryz.prog 12 #[.slice a0 len0 cap0, .int .i64 (SZ : Int)] w7 fun e w' => ∃ ra rc, e = .returned (.tuple #[.slice ra SZ rc, .int .i64 0]) ∧ SlR w' ra SZ rc T ∧ Below w7.heap.size w7 w') := by
          have h := dec1 k T b0 (SZ : Int) (HT1.out.1 rfl) HTE.out (by rw [HSZ.out]; exact hSZ6) a0 len0 cap0 w7 HP7.out
          rw [HSZ.out] at h; exact h
        go_wp2_with (go_at_call 12; refine HDL.out.mono ?_; rintro e w8 ⟨ra, rc, rfl, hs8, hb8⟩; have HS8 := hide hs8; have HB8 := hide hb8; clear hs8 hb8)
        go_meet
        case rel => exact ⟨ra, SZ, rc, rfl, HS8.out, HB8.out⟩
      | false =>
        go_wp2_with fail
        go_meet
        case rel => exact ⟨a0, len0, cap0, rfl, HP7.out, Below.refl _ _⟩
    case rest =>
      obtain ⟨ra0, rn0, rc0, rfl, HS3, HB3⟩ := hcut
      obtain ⟨V1, rfl⟩ : ∃ V1 : World, V1 = wc := ⟨_, rfl⟩
      go_upto_if 74 with (fail)
      go_cut [14] from 75 to 80 (fun s14 wx => ∃ ra rc, s14 = .slice ra SZ rc ∧ Hid (SlR wx ra SZ rc T) ∧ Hid (Below w7.heap.size w7 wx))
      case first =>
        cases t2 with
        | true =>
          have HDH : Hid (Calls Tryz.prog 13 #[.slice a0 len0 cap0, .int .i64 (SZ : Int)] V1 fun e w' => ∃ ra rc, e = .returned (.tuple #[.slice ra SZ rc, .int .i64 0]) ∧ SlR w' ra SZ rc T ∧ Below V1.heap.size V1 w') := by
            have h := dec2 k T b0 (SZ : Int) (HT2.out.1 rfl) HTE.out (by rw [HSZ.out]; exact hSZ6) a0 len0 cap0 V1 (HP7.out.below HB3.out)
            rw [HSZ.out] at h; exact h
          go_wp2_with (go_at_call 13; refine HDH.out.mono ?_; rintro e w8 ⟨ra, rc, rfl, hs8, hb8⟩; have HS8 := hide hs8; have HB8 := hide (below_trans HB3.out hb8); clear hs8 hb8)
          go_meet
          case rel => exact ⟨ra, rc, rfl, HS8.out, HB8.out⟩
        | false =>
          have HX : Hid (rn0 = SZ ∧ SlR V1 ra0 SZ rc0 T) := by
            have h := HS3.out
            have hk2f : k ≠ 2 := fun e => by have := HT2.out.2 e; cases this
            have hT : (if t1 = true then T else b0) = T := by
              split
              · rfl
              · next hf =>
                have hk1 : k ≠ 1 := fun e => hf (HT1.out.2 e)
                exact dec0 k T b0 _ (by omega) HTE.out (by rw [HSZ.out]; exact l7)
            rw [hT] at h
            have hn : rn0 = SZ := by rw [← h.1, HSZ.out]
            rw [hn] at h
            exact ⟨hn, h⟩
          obtain ⟨rfl, hx⟩ := HX.out
          have HX2 := hide hx
          clear hx HX
          go_wp2_with fail
          go_meet
          case rel => exact ⟨ra0, rc0, rfl, HX2.out, HB3.out⟩
      case rest =>
        clear HS3 HB3 ra0 rn0 rc0
        obtain ⟨ra, rc, rfl, HSR, HBR⟩ := hcut
        obtain ⟨V2, rfl⟩ : ∃ V2 : World, V2 = wc := ⟨_, rfl⟩
        have HBw := hide (below_trans HB7.out HBR.out)
        have HRL2 := hide (HRL.out.below HBR.out)
        obtain ⟨S8, hS8⟩ : ∃ S, SZ - 8 = S := ⟨_, rfl⟩
        obtain ⟨S4, hS4⟩ : ∃ S, SZ - 4 = S := ⟨_, rfl⟩
        have q8 : IntKind.i64.wrap ((SZ : Int) - 8) = (S8 : Int) := by rw [IntKind.wrap_i64]; omega
        have q4 : IntKind.i64.wrap ((SZ : Int) - 4) = (S4 : Int) := by rw [IntKind.wrap_i64]; omega
        have qR : IntKind.i64.wrap (R : Int) = (R : Int) := by rw [IntKind.wrap_i64]; omega
        have qN : IntKind.u64.wrap (N : Int) = (N : Int) := by rw [IntKind.wrap_u64]; omega
        obtain ⟨LA, hLA⟩ : ∃ LA, laB ra rc S8 = LA := ⟨_, rfl⟩
        obtain ⟨LC, hLC⟩ : ∃ LC, rc - S8 = LC := ⟨_, rfl⟩
        obtain ⟨LB, hLB⟩ : ∃ LB, laB ra rc S4 = LB := ⟨_, rfl⟩
        obtain ⟨LD, hLD⟩ : ∃ LD, rc - S4 = LD := ⟨_, rfl⟩
        obtain ⟨sr1, sr2, sr3, sr4, sr5⟩ := HSR.out
        have hsl1 : ∀ W, (Instr.sliceAt 24 (.slice ra SZ rc) (some (.int .i64 (S8 : Int))) (some (.int .i64 (S4 : Int))) none).run Tryz.prog W = .ok (.slice LA 4 LC) W := fun W => by
          have h := slice_lh8 ra SZ rc S8 S4 (by omega) (by omega) W
          rw [show S4 - S8 = 4 by omega, hLA, hLC] at h; exact h
        have hsl2 : ∀ W, (Instr.sliceAt 24 (.slice ra SZ rc) (some (.int .i64 (S4 : Int))) none none).run Tryz.prog W = .ok (.slice LB 4 LD) W := fun W => by
          have h := slice_l8 ra SZ rc S4 (by omega) (by omega) W
          rw [show SZ - S4 = 4 by omega, hLB, hLD] at h; exact h
        have HWD1 : Hid (∀ W, Below V2.heap.size V2 W → Calls Tryz.prog 18 #[.slice LA 4 LC] W fun e w' => e = .returned (.int .u64 (R : Nat)) ∧ Below W.heap.size W w') := fun W hW => by
          have hr := rd_lh (cap := rc) sr2 (show S8 ≤ S4 by omega) (by omega) sr3
          rw [show S4 - S8 = 4 by omega, hLA] at hr
          have h := word_any LA 4 LC _ W (hr.below hW) (by omega) (by omega)
          have hx := HW.out.1
          rw [hS8] at hx
          rw [← hx] at h; exact h
        have HWD2 : Hid (∀ W, Below V2.heap.size V2 W → Calls Tryz.prog 18 #[.slice LB 4 LD] W fun e w' => e = .returned (.int .u64 (N : Nat)) ∧ Below W.heap.size W w') := fun W hW => by
          have hr := rd_l (cap := rc) sr2 (show S4 ≤ SZ by omega) sr3
          rw [show SZ - S4 = 4 by omega, hLB] at hr
          have h := word_any LB 4 LD _ W (hr.below hW) (by omega) (by omega)
          have hx := HW.out.2
          rw [hS4] at hx
          rw [← hx] at h; exact h
        have HLE : Hid (∀ W, Below V2.heap.size V2 W → Calls Tryz.prog 17 #[.pointer (some ⟨q, 0, none⟩)] W fun e w' => e = .returned (.int .i64 (N : Nat)) ∧ w' = W) := fun W hW => by
          have h := len_rl q L W (HRL2.out.below hW)
          rw [HN.out] at h; exact h
        have HAT : Hid (∀ (i : Nat) W, i < N → Below V2.heap.size V2 W → Calls Tryz.prog 20 #[.pointer (some ⟨q, 0, none⟩), .int .i64 (i : Int)] W fun e w' => e = .returned (.tuple #[.string (L.getD i dE).1, .string (L.getD i dE).2, .int .i64 0]) ∧ Below W.heap.size W w') := fun i W hi hW => at_rl q L i W (HRL2.out.below hW) (by rw [HN.out]; exact hi)
        have HNB : Hid (∀ W, Calls Tryz.prog 19 #[.int .i64 (R : Int), .int .i64 65536] W fun e w' => ∃ bq, e = .returned (.tuple #[.pointer (some ⟨bq, 0, none⟩), .int .i64 0]) ∧ W.heap.size ≤ bq ∧ bq + 1 ≤ w'.heap.size ∧ BS w' bq (bq + 1) R 65536 [] ∧ Below W.heap.size W w') := fun W => by
          refine (new_bs R 65536 W ⟨by omega, by omega, by omega, by omega⟩).mono ?_
          rintro e w' ⟨rfl, h1, h2, h3⟩
          exact ⟨_, rfl, Nat.le_refl _, by omega, h1, h3⟩
        have hs8 : ¬ (SZ : Int) < 8 := by omega
        have hn1 : ¬ (N : Int) < 1 := by omega
        have HAD : Hid (∀ (bq i : Nat) W, i < N → BS W bq (bq + 1) R 65536 (L.take i) → bq + 1 ≤ W.heap.size → Calls Tryz.prog 21 #[.pointer (some ⟨bq, 0, none⟩), .string (L.getD i dE).1, .string (L.getD i dE).2] W fun e w' => e = .returned (.int .i64 0) ∧ BS w' bq (bq + 1) R 65536 (L.take (i + 1)) ∧ KeptF W w' (BF W bq (bq + 1))) := fun bq i W hi hb hq => by
          have hi' : i < L.length := by rw [HN.out]; exact hi
          have hm : L.getD i dE ∈ L := by rw [List.getD_eq_getElem?_getD, List.getElem?_eq_getElem hi']; exact List.getElem_mem _
          have hsm := HOK.out.1 _ hm
          have ha := add_again HOK.out (by omega) i hi'
          have h := add_bs bq (bq + 1) R 65536 (L.take i) (L.getD i dE).1 (L.getD i dE).2 W hb (ok_take HOK.out i (by omega)) (by omega) hq ⟨by omega, by omega, by omega, by omega⟩ (by omega) (by omega)
          unfold addL at h
          rw [ha, if_pos rfl, ← take_next L i hi'] at h
          exact h.mono fun e w' ⟨e1, e2, _, e4⟩ => ⟨e1, e2, e4⟩
        have HSIZ : Hid (∀ (bq : Nat) W, BS W bq (bq + 1) R 65536 (L.take N) → Calls Tryz.prog 22 #[.pointer (some ⟨bq, 0, none⟩)] W fun e w' => e = .returned (.int .i64 (SZ : Nat)) ∧ ∃ k, w' = W.drewN k) := fun bq W hb => by
          rw [← HN.out, List.take_length] at hb
          have h := size_bs bq (bq + 1) R 65536 L W hb HOK.out HNE.out
          rw [HRW.out] at h; exact h
        have HS8 := hide hS8
        have HS4 := hide hS4
        have HSV : Hid (w.heap.size ≤ V2.heap.size) := HBw.out.size
        clear hS8 hS4 hLA hLC hLB hLD sr1 sr2 sr3 sr4 sr5 HPl HPP HO0 HR0 HZ0 HBL HO4 HB4 HO5 HB5 HSE HOG HT1 HT2 HTE HBN
        go_upto_region 18 with (first
          | (go_at_call 17; refine (HLE.out _ (Below.refl _ _)).mono ?_; rintro e w9 ⟨rfl, h9⟩; obtain rfl := h9.symm)
          | (go_at_call 18; refine (HWD1.out _ (Below.refl _ _)).mono ?_; rintro e w9 ⟨rfl, hb9⟩; have HB9 := hide hb9; clear hb9)
          | (go_at_call 19; refine (HNB.out _).mono ?_; rintro e wA ⟨bq, rfl, hbq, hbs, hbn, hbA⟩; have HBQ := hide (Nat.le_trans HB9.out.size hbq); have HSA := hide hbs; have HBN := hide hbn; have HBA := hide (below_trans HB9.out hbA); clear hbq hbs hbn hbA))
        go_loopw [18] (fun s18 wr => ∃ i : Nat, i ≤ N ∧ s18 = .int .i64 (i : Int) ∧ Hid (BS wr bq (bq + 1) R 65536 (L.take i)) ∧ Hid (Below V2.heap.size V2 wr) ∧ Hid (bq + 1 ≤ wr.heap.size)) (fun s18 _ => N - (intOf s18).toNat)
        case atStart => exact ⟨0, Nat.zero_le _, rfl, HBN.out, HBA.out, HSA.out⟩
        case round =>
          rename World => V0
          obtain ⟨i, hi, rfl, HG, HBi, HSi⟩ := hrel
          by_cases hlt : i < N
          · have hli : (i : Int) < (N : Int) := by omega
            have HA1 := hide (HAT.out i V0 hlt HBi.out)
            have HA2 : Hid (∀ W, Below V0.heap.size V0 W → Calls Tryz.prog 21 #[.pointer (some ⟨bq, 0, none⟩), .string (L.getD i dE).1, .string (L.getD i dE).2] W fun e w' => e = .returned (.int .i64 0) ∧ BS w' bq (bq + 1) R 65536 (L.take (i + 1)) ∧ KeptF W w' (BF W bq (bq + 1))) := fun W hW => HAD.out bq i W hlt (HG.out.below hW) (Nat.le_trans HSi.out hW.size)
            obtain ⟨K, hK⟩ : ∃ K, (L.getD i dE).1 = K := ⟨_, rfl⟩
            obtain ⟨V, hV⟩ : ∃ V, (L.getD i dE).2 = V := ⟨_, rfl⟩
            rw [hK, hV] at HA1 HA2
            clear hK hV
            go_wp2_with (first
              | (go_at_call 17; refine (HLE.out _ HBi.out).mono ?_; rintro e w9 ⟨rfl, h9⟩; obtain rfl := h9.symm)
              | (go_at_call 20; refine HA1.out.mono ?_; rintro e w3 ⟨rfl, hb3⟩; have HB3 := hide hb3; clear hb3)
              | (go_at_call 21; refine (HA2.out _ HB3.out).mono ?_; rintro e w4 ⟨rfl, hbs4, hkf4⟩; have HS4' := hide hbs4; have HB4' : Hid (Below V2.heap.size V2 w4) := hkf4.toBelow (below_trans HBi.out HB3.out) (fun i hi => by have := HBQ.out; rcases hi with h1 | h1 <;> omega); have HN4' : Hid (bq + 1 ≤ w4.heap.size) := Nat.le_trans HSi.out (Nat.le_trans HB3.out.size hkf4.size); clear hbs4 hkf4))
            go_roundw
            case rel => exact ⟨i + 1, by omega, by go_num, HS4'.out, HB4'.out, HN4'.out⟩
            case measure => (simp [intOf] <;> omega)
          · obtain rfl : N = i := by omega
            have HSI := hide (HSIZ.out bq V0 HG.out)
            go_wp2_with (first
              | (go_at_call 17; first | (refine (HLE.out _ HBi.out).mono ?_; rintro e w9 ⟨rfl, h9⟩; obtain rfl := h9.symm) | (refine (HLE.out _ HB6'.out).mono ?_; rintro e w9 ⟨rfl, h9⟩; obtain rfl := h9.symm))
              | (go_at_call 22; refine HSI.out.mono ?_; rintro e w5 ⟨rfl, n5, hw5⟩; have HB5' : Hid (Below V2.heap.size V2 w5) := (by rw [hw5]; exact below_trans HBi.out (below_drewN' _ _ _)); clear hw5)
              | (go_at_call 18; refine (HWD2.out _ HB5'.out).mono ?_; rintro e w6 ⟨rfl, hb6⟩; have HB6' := hide (below_trans HB5'.out hb6); clear hb6))
            go_ret
            exact ⟨by first | rfl | (simp; done) | (simp; omega), below_trans HBw.out HB6'.out⟩
  · have HBAD := hide (fun g N W hr hN => open_bad b0 f n2 (by rw [HBL.out]; exact hl0) hgood g N W hr hN)
    clear hgood
    by_cases hrg : 1 ≤ n2 ∧ n2 ≤ 65536
    · have h1 : ¬ n2 < 1 := by omega
      go_wp2_with (first
        | (go_at_call 16; refine HSE.out.mono ?_; rintro e w6 ⟨g, N, rfl, hr6, hN6, hb6⟩; have HR6 := hide hr6; have HN6 := hide hN6; have HB6 := hide (below_trans HB5.out hb6); clear hr6 hN6 hb6)
        | (go_at_call 10; refine ((HBAD.out g N _ (by rw [HPP.out]; exact HR6.out) HN6.out).1 hrg).mono ?_; rintro e w7 ⟨rfl, hb7⟩; have HB7 := hide (below_trans HB6.out hb7); clear hb7)
        | (go_at_call 8; refine (HBN.out _).mono ?_; rintro e w8 ⟨x, y, z, rfl, hb8⟩; have HB8 := hide (below_trans HB7.out hb8); clear hb8))
      go_ret
      exact ⟨rfl, HB8.out⟩
    · by_cases h1 : n2 < 1
      · go_wp2_with (first
          | (go_at_call 16; refine HSE.out.mono ?_; rintro e w6 ⟨g, N, rfl, hr6, hN6, hb6⟩; have HR6 := hide hr6; have HN6 := hide hN6; have HB6 := hide (below_trans HB5.out hb6); clear hr6 hN6 hb6)
          | (go_at_call 10; refine ((HBAD.out g N _ (by rw [HPP.out]; exact HR6.out) HN6.out).2 hrg).mono ?_; rintro e w7 ⟨rfl, hb7⟩; have HB7 := hide (below_trans HB6.out hb7); clear hb7)
          | (go_at_call 8; refine (HBN.out _).mono ?_; rintro e w8 ⟨x, y, z, rfl, hb8⟩; have HB8 := hide (below_trans HB7.out hb8); clear hb8))
        go_ret
        exact ⟨by first | rfl | (simp; done) | (simp; omega), HB8.out⟩
      · have h2 : 65536 < n2 := by omega
        go_wp2_with (first
          | (go_at_call 16; refine HSE.out.mono ?_; rintro e w6 ⟨g, N, rfl, hr6, hN6, hb6⟩; have HR6 := hide hr6; have HN6 := hide hN6; have HB6 := hide (below_trans HB5.out hb6); clear hr6 hN6 hb6)
          | (go_at_call 10; refine ((HBAD.out g N _ (by rw [HPP.out]; exact HR6.out) HN6.out).2 hrg).mono ?_; rintro e w7 ⟨rfl, hb7⟩; have HB7 := hide (below_trans HB6.out hb7); clear hb7)
          | (go_at_call 8; refine (HBN.out _).mono ?_; rintro e w8 ⟨x, y, z, rfl, hb8⟩; have HB8 := hide (below_trans HB7.out hb8); clear hb8))
        go_ret
        exact ⟨by first | rfl | (simp; done) | (simp; omega), HB8.out⟩
/-- For every input. -/
theorem walk (a0 : Option Addr) (len0 cap0 : Nat) (b0 : List (BitVec 8)) (n1 n2 : Int) (w : World)
    (r0 : Rd w a0 len0 b0) (l0 : len0 ≤ cap0) (m0 : cap0 ≤ 140737488351232) (z0 : a0 = none → len0 = 0 ∧ cap0 = 0)
    (w1 : (Lit.int .u8 n1).wf = true) (w2 : (Lit.int .i64 n2).wf = true) :
    Calls Tryz.prog 5 #[.slice a0 len0 cap0, .int .u8 n1, .int .i64 n2] w fun e w' => e = .returned (.bool true) ∧ Below w.heap.size w w' := by
  obtain ⟨h1, h2⟩ := bounds_u8 w1
  have h := walk8 a0 len0 cap0 b0 (BitVec.ofNat 8 n1.toNat) n2 w r0 l0 m0 z0
  have e : ((BitVec.ofNat 8 n1.toNat).toNat : Int) = n1 := by
    rw [BitVec.toNat_ofNat, Nat.mod_eq_of_lt (by omega)]; omega
  rw [e] at h
  exact h
end Go.Proofs.YthdblnfohbldcaaGreat.blockTotal
