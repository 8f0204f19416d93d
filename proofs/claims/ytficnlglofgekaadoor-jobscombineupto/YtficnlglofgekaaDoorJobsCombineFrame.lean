/-
  For every input the Go function JobsCombine returns true, and each argument reads behind the call as it read before; the library's tables and sentinels that the row lists hold what the program's text lays. (Where the arguments are of bulk at most 1048576.)
-/
import Derived.Test.YtficnlglofgekaaDoorJobsCombineWalk
import Derived.Test.YtficnlglofgekaaDoorBulk
import Derived.LaidMore
import Derived.Deep.Strs
import Derived.Lib.LaidTab
import Derived.ShutString
import Derived.ChangeOld
import Derived.Below
import Derived.JoinedCond
import Derived.Deep.DeepWitnessRowRef
import Derived.Test.YtficnlglofgekaaDoorCards
import Derived.Test.YtficnlglofgekaaDoorTie
namespace Go.Proofs.YtficnlglofgekaaDoor.jobsCombine
open Go.ChangeShapes Go.WideShapes Go.ChangeAt Go.RowKit Go.ChangeMaps
open Go.Proofs.YtficnlglofgekaaDoor.Base Go.Proofs.YtficnlglofgekaaDoor.Jb
open Go.Proofs.YtficnlglofgekaaDoor.Pa (RdS rds_nil rds_row)
set_option linter.unusedVariables false
theorem texts_small {H : Type} {d : DataW H} {elems spare l : List (DataW H)} (e : d = DataW.slice elems spare) (h : d ∈ l) (hk : Rows.uptoSmall H l = true) {s : ByteArray} (hs : (.lit (.string s.data.toList) : DataW H) ∈ elems) : s.size ≤ 1048576 := by
  have hb : Rows.uptoBulkAll l ≤ 1048576 := of_decide_eq_true hk
  have h1 := Bulk.member h
  have h2 := Bulk.member hs
  subst e
  simp only [Rows.uptoBulk, Array.length_toList] at h1 h2
  have : s.size = s.data.size := rfl
  omega
def laid2 : List (String × DataW Unit) := Rows.jobsCombineUptoRow.laid
theorem wd_of_laid {W : World} (h : laidMetH Tryd.prog laid2 W) : Wd W := by
  unfold laid2 at h
  rw [MakeChecks.laidMetH_plain _ _ _ (by kernel_rfl)] at h
  obtain ⟨ps, ⟨g0, t0, cs0, f0, p0, q0, hg0, ht0, hv0, hd0, ⟨g1, t1, cs1, f1, p1, q1, hg1, ht1, hv1, hd1, ⟨g2, t2, cs2, f2, p2, q2, hg2, ht2, hv2, hd2, ⟨g3, t3, cs3, f3, p3, q3, hg3, ht3, hv3, hd3, ⟨g4, t4, cs4, f4, p4, q4, hg4, ht4, hv4, hd4, _, _⟩, _⟩, _⟩, _⟩, _⟩, _, _⟩ := h
  have ht : (Tryd.prog.globals[g2]?).map (·.type) = some 94 := by
    have e : Tryd.prog.globalNamed "internal/strconv.uint64pow10" = some g2 := hg2
    have hk : (Tryd.prog.globalNamed "internal/strconv.uint64pow10").bind (fun g => (Tryd.prog.globals[g]?).map (·.type)) = some 94 := by kernel_rfl
    rw [e] at hk
    exact hk
  have hr : (Tryd.prog.globals[g3]?).map (·.type) = some 61 := by
    have e : Tryd.prog.globalNamed "strconv.ErrRange" = some g3 := hg3
    have hk : (Tryd.prog.globalNamed "strconv.ErrRange").bind (fun g => (Tryd.prog.globals[g]?).map (·.type)) = some 61 := by kernel_rfl
    rw [e] at hk
    exact hk
  have hs : (Tryd.prog.globals[g4]?).map (·.type) = some 61 := by
    have e : Tryd.prog.globalNamed "strconv.ErrSyntax" = some g4 := hg4
    have hk : (Tryd.prog.globalNamed "strconv.ErrSyntax").bind (fun g => (Tryd.prog.globals[g]?).map (·.type)) = some 61 := by kernel_rfl
    rw [e] at hk
    exact hk
  obtain rfl := Option.some.inj (ht.symm.trans ht2)
  obtain rfl := Option.some.inj (hr.symm.trans ht3)
  obtain rfl := Option.some.inj (hs.symm.trans ht4)
  obtain ⟨l3⟩ := cs3
  obtain ⟨l4⟩ := cs4
  obtain ⟨_, u3, v3, e3, _, _⟩ := iface_of_trod Tryd.underlying61 hd3
  obtain ⟨_, u4, v4, e4, _, _⟩ := iface_of_trod Tryd.underlying61 hd4
  refine ⟨?_, ⟨u4, v4, ?_⟩, u3, v3, ?_⟩
  · unfold Lib.TabIs
    rw [hv2, ← Lib.cells_of_tab (k := .u64) (zs := Lib.pow10Tab) Tryd.underlying94 Tryd.underlying72 (by kernel_rfl) (by kernel_rfl) hd2]
  · have e5 : l4 = [.iface u4 v4] := e4
    subst e5
    exact hv4
  · have e5 : l3 = [.iface u3 v3] := e3
    subst e5
    exact hv3
theorem door_met (os : Os) (args : Array Value) : laidMetH Tryd.prog laid2 ((World.doorLaid Tryd.prog 400 os).forCall (fun _ _ => 0) ⟨#[], args, []⟩).memory :=
  laidMetH_of_parts3 (fuel := 8) (laidMet_of_run' 8 (by kernel_rfl) (by kernel_rfl)) (by kernel_rfl) (by kernel_rfl)
theorem reads (os : Os) {H : Type} (enc : TypeId × Value → H) : ∃ places, DataW.whole enc Tryd.prog ((World.doorLaid Tryd.prog 400 os).forCall (fun _ _ => 0) ⟨#[], #[.int .i64 0, .slice none 0 0], []⟩).memory Tryd.f4.params.toList Rows.jobsCombineSpec.vars false #[Value.int .i64 0, Value.slice none 0 0].toList 8 = some ([.lit (.int .i64 0), .nil], [], places) :=
  ⟨[], by kernel_rfl⟩
set_option maxRecDepth 100000 in
theorem lifted (os : Os) (started : os.Started) (H : Type) (enc : TypeId × Value → H) (Fs : Stop.Interp) :
    ReturnsInHanded {} Tryd.checked os 4 .any ((Rows.OpenSpec.upto Rows.jobsCombineSpec).preRow enc Tryd.prog Tryd.f4 Rows.jobsCombineUptoRow.domain false Rows.jobsCombineUptoRow.laid) (((Rows.OpenSpec.upto Rows.jobsCombineSpec).at Fs).post enc Tryd.prog Tryd.f4 false true false false) := by
  obtain ⟨places, hx⟩ := reads os enc
  refine returnsInHanded_of_row (C := Tryd.checked) (s := Rows.OpenSpec.upto Rows.jobsCombineSpec) own started (by kernel_rfl) Tryd.func4
    (witness_row_atRef (enc := enc) (C := Tryd.checked) false (World.doorLaid Tryd.prog 400 os) #[.int .i64 0, .slice none 0 0] rfl (by kernel_rfl) (by kernel_rfl) (by kernel_rfl)
      (OpenSpec.preRow_of_cond 8 hx (by kernel_rfl) (fun k hk => by cases hk; kernel_rfl) (by kernel_rfl) (door_met os _))) ?_
  intro W base args ds gs before hval0 hW _ hk0 _ hL _ _
  have hval : ∀ (j : Nat) t v, Tryd.f4.params[j]? = some t → args[j]? = some v → Value.okWide Tryd.prog W .any base t v := hval0
  have hk : Rows.uptoSmall H (ds ++ gs) = true := hk0 _ rfl
  have hW' := hW
  obtain ⟨p, q, hA0, hV, rfl, hfz, hnd⟩ := hW
  have hA : DataW.TrodAll enc Tryd.prog W 0 (fun _ => true) true Tryd.f4.params.toList args.toList ds p := hA0
  rw [Tryd.params4] at hA hval
  obtain ⟨v0, vs0, d0, ds0, p0, q0, hargs, rfl, rfl, h0, r0⟩ := trodAll_cons hA
  obtain ⟨v1, vs1, d1, ds1, p1, q1, rfl, rfl, rfl, h1, r1⟩ := trodAll_cons r0
  obtain ⟨rfl, rfl, rfl⟩ := trodAll_nil r1
  obtain rfl : args = #[v0, v1] := by cases args; simp_all
  obtain ⟨rfl, rfl⟩ := trodVars_none hV
  obtain ⟨n0, rfl, rfl, rfl, w0⟩ := open_int Tryd.underlying3 (hval 0 3 v0 rfl rfl) h0
  obtain ⟨a1, len1, cap1, rfl⟩ := okWide_slice Tryd.underlying32 (hval 1 32 v1 rfl rfl)
  have k1 := h1
  have lt1 : ∀ x ∈ p1, x.block < W.heap.size := by obtain ⟨m, hm⟩ := k1; exact DataW.trod_lt m _ _ _ hm
  obtain ⟨b1, rd1, l1, m1, z1, y1⟩ : ∃ ss, RdS W a1 len1 ss ∧ len1 ≤ cap1 ∧ len1 ≤ 1048576 ∧ (a1 = none → len1 = 0 ∧ cap1 = 0) ∧ ∀ s ∈ ss, s.size ≤ 1048576 := by
    obtain ⟨fuel, hf⟩ := h1
    rcases Deep.open_strs Tryd.underlying32 Tryd.underlying9 (by kernel_rfl) hf with ⟨hcs, _⟩ | ⟨x, l, c, m, Sx, hcs, _, hl, hm, hmm, hx, hcell⟩
    · simp [Value.cells] at hcs
      obtain ⟨rfl, rfl, rfl⟩ := hcs
      exact ⟨[], rds_nil _, by omega, by omega, (fun _ => ⟨rfl, rfl⟩), (fun s hs => absurd hs List.not_mem_nil)⟩
    · simp [Value.cells] at hcs
      obtain ⟨rfl, rfl, rfl⟩ := hcs
      simp only [Prod.mk.injEq] at hx
      have hmc : m = cap1 := by simpa using hmm
      subst hmc
      have hw := Bulk.places hx.1 (by simp) hk
      have hws := fun (s : ByteArray) hb => texts_small hx.1 (by simp) hk (s := s) hb
      simp only [List.length_map, List.length_range] at hw
      refine ⟨_, rds_row hl (by omega) hcell, hl, by omega, (fun h => by cases h), ?_⟩
      intro s hs
      obtain ⟨i, hi, rfl⟩ := List.mem_map.1 hs
      exact hws (Sx i) (List.mem_map.2 ⟨i, hi, rfl⟩)
  have hT := wd_of_laid hL
  clear hA0 hval0
  refine (Jb.jcwalk n0 a1 len1 cap1 b1 W rd1 z1 (by omega) y1 hT).mono fun e W' ⟨he, bel⟩ => ?_
  subst he
  exact ⟨_, rfl, _, _, _, [], _, [], hW', trodAll_mk1 (shut_bool Tryd.underlying4 _), (trodAll_cons_mk (shut_int Tryd.underlying3 w0) (trodAll_cons_mk (Below.trod laidOut (by kernel_rfl) (of_decide_eq_true (by kernel_rfl)) k1 bel lt1) trodAll_mk0)), rfl, bel.frame _, fun h => by cases h⟩
theorem over : Rows.JobsCombineUptoSaid :=
  OpenClaim.holds_of_cond 4 Tryd.f4 rfl rfl rfl rfl rfl rfl rfl ⟨rfl, rfl, rfl, rfl, rfl⟩ rfl rfl rfl rfl rfl (by kernel_rfl) Tryd.func4 (by kernel_rfl)
    (of_decide_eq_true (by kernel_rfl)) (by unfold Func.isWrapper; first | (rw [if_pos (by decide +kernel)]; kernel_rfl) | (rw [if_neg (by decide +kernel)]; exact ⟨rfl, rfl⟩))
    (fun os started H enc _ Fs => by rw [OpenClaim.pre_eq_preRow]; exact lifted os started H enc Fs)
/-- THE STATEMENT. -/
theorem proved : Rows.JobsCombineUptoCardSaid :=
  Claim7.holds_tied_plain_at .later [] [.data, .data, .data, .sentinel, .sentinel] true (true, "80f371e216f075bd5f19880ddcbec16ccbc0dbd23d60e42fadc93d5e16a47247") true
    over (fun _ h => by cases h) (by kernel_rfl) (fun _ h => by cases h) jobsCombineUpto_row_tie rfl ⟨rfl, rfl⟩ (by kernel_rfl) rfl
    (fun f fn hf hfn => by
      obtain rfl : f = 4 := Option.some.inj ((show Tryd.prog.funcNamed "winnow/winnowlaw15.JobsCombine" = some 4 by kernel_rfl).symm.trans hf) |>.symm
      obtain rfl : fn = Tryd.f4 := (Option.some.inj (Tryd.func4.symm.trans hfn)).symm
      exact ⟨by kernel_rfl, fun j t ht => by
        rw [Tryd.params4] at ht
        have hm : t ∈ [3, 32] := by simpa using Array.mem_of_getElem? ht
        have hall : ([3, 32].all fun u => !Tryd.prog.wantsStandIn u) = true := by kernel_rfl
        exact (show Tryd.prog.wantsStandIn t = false by simpa using List.all_eq_true.1 hall t hm)⟩)
    (by kernel_rfl)
end Go.Proofs.YtficnlglofgekaaDoor.jobsCombine
