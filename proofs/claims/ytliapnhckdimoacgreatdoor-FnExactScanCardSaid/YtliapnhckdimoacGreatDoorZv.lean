import Derived.Test.YtliapnhckdimoacGreatDoorCards
import Derived.Test.YtliapnhckdimoacGreatDoorTie
import Derived.Test.YtliapnhckdimoacGreatDoorZu
import Derived.ProofKit
import Derived.OpenShut
import Derived.Deep.DeepHandedRow
import Derived.Lib.LaidTab
namespace Go.Proofs.YtliapnhckdimoacGreatDoor.fnExactScan
open Go.ChangeShapes Go.WideShapes Go.ChangeAt Go.RowKit Go.Proofs.Sha
open Go.ChangeMaps (open_string shut_string)

theorem own : ownKnob Tryz.prog.godebug = none := by kernel_rfl
theorem gTab : Tryz.prog.globalNamed "loop.example/s03048/impl.roundWords" = some 0 := by kernel_rfl
theorem gTabType : (Tryz.prog.globals[0]?).map (·.type) = some 91 := by kernel_rfl
theorem cellsTab : Tryz.prog.cellsOf 91 = 64 := by kernel_rfl
theorem cellsEl : Tryz.prog.cellsOf 59 = 1 := by kernel_rfl
def zs : List Int := kTab.map fun x => (x.toNat : Int)

/-- What the row's list gives: the table's cells hold its numbers. -/
theorem table {W : World} (h : laidMetH Tryz.prog Rows.fnExactScanRow.laid W) : Lib.TabIs Tryz.prog W "loop.example/s03048/impl.roundWords" .u32 zs :=
  Lib.tabIs_of_head (rest := []) gTab gTabType Tryz.underlying91 Tryz.underlying59 cellsEl cellsTab h
theorem tabCells {W : World} (h : laidMetH Tryz.prog Rows.fnExactScanRow.laid W) : ∀ j, j < 64 → W.cell? ⟨0, j, none⟩ = some (.int .u32 ((kTab.getD j 0).toNat : Int)) := fun j hj => by
  have h1 := (table h).cell gTab j (by exact hj)
  rw [h1]
  unfold zs
  rw [List.getD_eq_getElem?_getD, List.getElem?_map, List.getD_eq_getElem?_getD, List.getElem?_eq_getElem (by exact hj)]; rfl

def dat {H : Type} : DataW H := .agg (zs.map fun z => .lit (.int .u32 z))
/-- The table reads as itself, in whatever world. -/
theorem trod_tab {H : Type} (enc : TypeId × Value → H) (W : World) (sp : Nat → Bool) (hd : Bool) (n : Nat) : DataW.trod enc Tryz.prog W 0 sp hd (n + 2) 91 (kTab.map U) = some (dat, []) := by kernel_rfl
theorem trod_tab1 {H : Type} (enc : TypeId × Value → H) (W : World) (sp : Nat → Bool) (hd : Bool) : DataW.trod enc Tryz.prog W 0 sp hd 1 91 (kTab.map U) = none := by kernel_rfl

set_option maxRecDepth 100000 in
theorem contract (H : Type) (enc : TypeId × Value → H) (W : World) (base : Nat) (args : Array Value) (ds gs : List (DataW H)) (before : List MemPlace)
    (hval : ∀ (j : Nat) t v, Tryz.f3.params[j]? = some t → args[j]? = some v → Value.okWide Tryz.prog W .any base t v)
    (hW : DataW.Whole enc Tryz.prog Tryz.f3.params.toList Rows.fnExactScanSpec.vars false W args.toList ds gs before) (hL : laidMetH Tryz.prog Rows.fnExactScanRow.laid W) :
    Calls Tryz.prog 3 args W fun e W' => ∃ v, e = .returned v ∧ Rows.fnExactScanSpec.post enc Tryz.prog Tryz.f3 false true false false W args v W' := by
  have hW' := hW
  obtain ⟨p, q, hA0, hV, rfl, hfz, hnd⟩ := hW
  have hA : DataW.TrodAll enc Tryz.prog W 0 (fun _ => true) true Tryz.f3.params.toList args.toList ds p := hA0
  rw [Tryz.params3] at hA hval
  obtain ⟨v0, vs0, d0, ds0, p0, q0, hargs, rfl, rfl, h0, r0⟩ := trodAll_cons hA
  obtain ⟨v1, vs1, d1, ds1, p1, q1, rfl, rfl, rfl, h1, r1⟩ := trodAll_cons r0
  obtain ⟨rfl, rfl, rfl⟩ := trodAll_nil r1
  obtain rfl : args = #[v0, v1] := by cases args; simp_all
  obtain ⟨s0, rfl, rfl, rfl, hs0⟩ := open_string Tryz.underlying9 (hval 0 9 v0 rfl rfl) h0
  obtain ⟨k1, rfl, rfl, rfl, wk1⟩ := open_int Tryz.underlying3 (hval 1 3 v1 rfl rfl) h1
  obtain ⟨g, t, cs, fuel, d, p', rfl, hg, ht, hvar, hd, rfl⟩ := trodVars_one hV
  obtain rfl := Option.some.inj (gTab.symm.trans hg)
  obtain rfl := Option.some.inj (gTabType.symm.trans ht)
  have hcs : cs = (kTab.map U).toArray := Option.some.inj (hvar.symm.trans (table hL))
  subst hcs
  have hdd : d = dat ∧ p' = [] := by
    match fuel, hd with
    | 0, hd => simp [DataW.trod] at hd
    | 1, hd => rw [show (kTab.map U).toArray.toList = kTab.map U from rfl, trod_tab1] at hd; cases hd
    | n + 2, hd =>
      rw [show (kTab.map U).toArray.toList = kTab.map U from rfl, trod_tab] at hd
      cases hd
      exact ⟨rfl, rfl⟩
  obtain ⟨rfl, rfl⟩ := hdd
  have hcells := tabCells hL
  have hl0 : 0 < W.heap.size := World.block_lt_of_cell? W _ (hcells 0 (by omega))
  clear hA0
  refine (law_scan s0 k1 W hs0 hcells).mono fun e W' ⟨he, hb⟩ => ?_
  subst he
  have hvar' : W'.var? Tryz.prog "loop.example/s03048/impl.roundWords" = some (kTab.map U).toArray := by
    unfold World.var? at hvar ⊢
    simp only [gTab, Option.bind_some] at hvar ⊢
    rw [hb.block 0 hl0]
    exact hvar
  exact ⟨_, rfl, ⟨_, _, _, [], [], MemPlace.row ⟨0, 0, none⟩ (kTab.map U).toArray.size ++ [], hW', trodAll_cons_mk (shut_bool Tryz.underlying4 _) trodAll_mk0, trodAll_cons_mk (shut_string Tryz.underlying9 hs0) (trodAll_cons_mk (shut_int Tryz.underlying3 wk1) trodAll_mk0),
    trodVars_mk1 (fuel := 2) gTab gTabType hvar' (trod_tab enc W' _ _ 0), hb.frame _, fun h => by cases h⟩⟩

theorem laid_met (os : Os) : laidMet Tryz.prog Rows.fnExactScanRow.laid (World.forCall ({ World.holding Tryz.prog os ⟨#[], #[], []⟩ with heap := (World.holding Tryz.prog os ⟨#[], #[], []⟩).heap.modify 0 fun | .cells _ t frozen => .cells (kTab.map U).toArray t frozen | o => o }) (fun _ _ => 0) ⟨#[], #[.string ByteArray.empty, .int .i64 0], []⟩).memory :=
  laidMet_of_run' 8 (by kernel_rfl) (by kernel_rfl)
theorem reads (os : Os) {H : Type} (enc : TypeId × Value → H) : ∃ places, DataW.whole enc Tryz.prog (World.forCall ({ World.holding Tryz.prog os ⟨#[], #[], []⟩ with heap := (World.holding Tryz.prog os ⟨#[], #[], []⟩).heap.modify 0 fun | .cells _ t frozen => .cells (kTab.map U).toArray t frozen | o => o }) (fun _ _ => 0) ⟨#[], #[.string ByteArray.empty, .int .i64 0], []⟩).memory Tryz.f3.params.toList Rows.fnExactScanSpec.vars false #[Value.string ByteArray.empty, Value.int .i64 0].toList 8 = some ([.lit (.string []), .lit (.int .i64 0)], [dat], places) :=
  ⟨MemPlace.row ⟨0, 0, none⟩ 64, by kernel_rfl⟩

set_option maxRecDepth 100000 in
theorem lifted (os : Os) (started : os.Started) (H : Type) (enc : TypeId × Value → H) (F : Stop.Interp) :
    ReturnsInHanded {} Tryz.checked os 3 .any ((OpenSpec.ofChange Rows.fnExactScanSpec).preRow enc Tryz.prog Tryz.f3 Rows.fnExactScanRow.domain false Rows.fnExactScanRow.laid) (((OpenSpec.ofChange Rows.fnExactScanSpec).at F).post enc Tryz.prog Tryz.f3 false true false false) := by
  obtain ⟨places, hx⟩ := reads os enc
  refine returnsInHanded_of_row (C := Tryz.checked) (s := OpenSpec.ofChange Rows.fnExactScanSpec) own started (by kernel_rfl) Tryz.func3
    (witness_row_at (enc := enc) (C := Tryz.checked) false ({ World.holding Tryz.prog os ⟨#[], #[], []⟩ with heap := (World.holding Tryz.prog os ⟨#[], #[], []⟩).heap.modify 0 fun | .cells _ t frozen => .cells (kTab.map U).toArray t frozen | o => o }) #[.string ByteArray.empty, .int .i64 0] rfl (by kernel_rfl) (by kernel_rfl) (by kernel_rfl)
      (OpenSpec.preRow_of_cond 8 hx (by kernel_rfl) (fun k hk => by cases hk) (by kernel_rfl) (laid_met os))) ?_
  intro W base args ds gs before hval hW _ _ _ hL _ _
  exact contract H enc W base args ds gs before hval hW hL

theorem said : Rows.FnExactScanSaid :=
  OpenClaim.holds_of_cond 3 Tryz.f3 rfl rfl rfl rfl rfl rfl rfl ⟨rfl, rfl, rfl, rfl, rfl⟩ rfl rfl rfl rfl rfl (by kernel_rfl) Tryz.func3 (by kernel_rfl)
    (of_decide_eq_true (by kernel_rfl)) (by unfold Func.isWrapper; first | (rw [if_pos (by decide +kernel)]; kernel_rfl) | (rw [if_neg (by decide +kernel)]; exact ⟨rfl, rfl⟩))
    (fun os started H enc _ F => by rw [OpenClaim.pre_eq_preRow]; exact lifted os started H enc F)

theorem plain (f : FuncId) (fn : Func) (hf : Tryz.pinned.checked.prog.funcNamed "loop.example/s03048/laws.FnExactScan" = some f) (hfn : Tryz.pinned.checked.prog.funcs[f]? = some fn) :
    false = Tryz.pinned.checked.prog.looks [] ∧ ∀ (j : Nat) t, fn.params[j]? = some t → Tryz.pinned.checked.prog.wantsStandIn t = false := by
  obtain rfl : f = 3 := Option.some.inj ((show Tryz.prog.funcNamed "loop.example/s03048/laws.FnExactScan" = some 3 by kernel_rfl).symm.trans hf) |>.symm
  obtain rfl : fn = Tryz.f3 := (Option.some.inj (Tryz.func3.symm.trans hfn)).symm
  refine ⟨by kernel_rfl, fun j t ht => ?_⟩
  rw [Tryz.params3] at ht
  have hm : t ∈ [9, 3] := by simpa using Array.mem_of_getElem? ht
  have hall : ([9, 3].all fun u => !Tryz.prog.wantsStandIn u) = true := by kernel_rfl
  exact (show Tryz.prog.wantsStandIn t = false by simpa using List.all_eq_true.1 hall t hm)
end Go.Proofs.YtliapnhckdimoacGreatDoor.fnExactScan

namespace Go.Proofs.YtliapnhckdimoacGreatDoor
/-- The card. -/
theorem fnExactScan_card : Rows.FnExactScanCardSaid :=
  Claim7.holds_tied_plain_at .later [] _ _ _ _ fnExactScan.said (fun _ h => by cases h) (by kernel_rfl) (fun _ h => by cases h) fnExactScan_row_tie rfl ⟨rfl, rfl⟩ (by kernel_rfl) rfl fnExactScan.plain (by kernel_rfl)
#print axioms fnExactScan_card
end Go.Proofs.YtliapnhckdimoacGreatDoor
