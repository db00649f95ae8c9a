import Derived.ProofKit
import Derived.OpenShut
import Derived.ChangeSlices
import Derived.Test.YtngnbflkiiehmaaGreatDoorCards
import Derived.Test.YtngnbflkiiehmaaGreatDoorTie
import Derived.Test.YtngnbflkiiehmaaGreatDoorZp
import Derived.Deep.DeepHandedRow
import Derived.Lib.LaidTab
namespace Go.Proofs.Disk
open Go Go.ChangeShapes Go.WideShapes Go.ChangeAt Go.RowKit

/-- A slice of numbers that is handed in: what it holds, and that it reads so in every world in which what was there is as it was. -/
theorem open_nums {P : Program} {H : Type} {enc : TypeId × Value → H} {W : World} {b0 : Nat} {t e : TypeId} {k : IntKind} {v : Value} {d : DataW H} {p : List MemPlace} (ht : P.underlying t = some (.slice e)) (he : P.underlying e = some (.int k)) (hc : P.cellsOf e = 1)
    (hv : Value.okWide P W .any b0 t v) (h : DataW.Trod enc P W 0 (fun _ => true) true t v d p) :
    ∃ (a : Option Addr) (c : Nat) (xs : List Int), v = .slice a xs.length c ∧ xs.length ≤ maxLen ∧ (∀ x ∈ xs, (Lit.int k x).wf = true) ∧
      (0 < xs.length → ∃ b off : Nat, a = some ⟨b, off, none⟩ ∧ b < W.heap.size ∧ ∀ j, j < xs.length → W.cell? ⟨b, off + j, none⟩ = some (.int k (xs.getD j 0))) ∧
      (∀ W' : World, Below W.heap.size W W' → DataW.Trod enc P W' 0 (fun b => decide (b < W.heap.size)) true t v d p) := by
  obtain ⟨a0, len, cap, rfl⟩ := okWide_slice ht hv
  obtain ⟨fuel, hf⟩ := h
  rcases open_ints ht he hc hf with ⟨h0, hx⟩ | ⟨a, len', cap', zs, hcs, _, hl, hm, hz, hx, hcell, hwz⟩
  · simp [Value.cells] at h0
    obtain ⟨rfl, rfl, rfl⟩ := h0
    simp only [Prod.mk.injEq] at hx
    obtain ⟨rfl, rfl⟩ := hx
    exact ⟨none, 0, [], rfl, Nat.zero_le _, (fun x hx => by cases hx), fun hx => absurd hx (Nat.lt_irrefl 0), fun W' _ => shut_slice_nil ht⟩
  · simp [Value.cells] at hcs
    obtain ⟨rfl, rfl, rfl⟩ := hcs
    simp only [Prod.mk.injEq] at hx
    obtain ⟨rfl, rfl⟩ := hx
    simp only [if_true] at hz
    have hlz : (zs.take len).length = len := by rw [List.length_take]; omega
    obtain ⟨b, off, spot⟩ := a
    have hspot : 0 < cap → spot = none := fun h => by simpa [Addr.add] using World.cell?_spot (hcell 0 (by omega))
    have hcells : 0 < cap → spot = none ∧ b < W.heap.size := fun h => by
      refine ⟨hspot h, ?_⟩
      have := hcell 0 (by omega)
      have e0 : (⟨b, off, spot⟩ : Addr).add 0 = ⟨b, off, spot⟩ := by simp [Addr.add]
      rw [e0, hspot h] at this
      exact World.block_lt_of_cell? _ _ this
    refine ⟨some ⟨b, off, spot⟩, cap, zs.take len, by rw [hlz], by rw [hlz]; omega, fun x hx => hwz x (List.mem_of_mem_take hx), fun hpos => ?_, fun W' hb => ?_⟩
    · rw [hlz] at hpos
      obtain ⟨rfl, hlt⟩ := hcells (by omega)
      refine ⟨b, off, rfl, hlt, fun j hj => ?_⟩
      rw [hlz] at hj
      rw [← add_plain, hcell j (by omega), List.getD_eq_getElem?_getD, List.getD_eq_getElem?_getD, List.getElem?_take, if_pos hj]
    · refine ⟨2, ?_⟩
      have := shut_ints (enc := enc) (w := W') (base := 0) (spare := fun b => decide (b < W.heap.size)) (held := true) (a := ⟨b, off, spot⟩) (len := len) (cap := cap) (zs := zs) 0 ht he hc (Nat.zero_le _) hl hm
        (by
          by_cases h0 : 0 < cap
          · rw [hz, if_pos (by simpa using (hcells h0).2)]
          · rw [hz]; split <;> omega)
        (fun i hi => by
          obtain ⟨rfl, hlt⟩ := hcells (by omega)
          rw [add_plain, hb.cell hlt, ← add_plain]
          exact hcell i hi) hwz
      simpa [Value.cells] using this
end Go.Proofs.Disk
namespace Go.Proofs.YtngnbflkiiehmaaGreatDoor.fnCodec
open Go.ChangeShapes Go.WideShapes Go.ChangeAt Go.RowKit Go.Proofs.Sha
open Go.ChangeMaps (open_string shut_string)

theorem own : ownKnob Tryz.prog.godebug = none := by kernel_rfl
theorem gTab : Tryz.prog.globalNamed "loop.example/s03048/impl.roundWords" = some 0 := by kernel_rfl
theorem gTabType : (Tryz.prog.globals[0]?).map (·.type) = some 104 := by kernel_rfl
theorem cellsTab : Tryz.prog.cellsOf 104 = 64 := by kernel_rfl
theorem cellsEl : Tryz.prog.cellsOf 77 = 1 := by kernel_rfl
def zs : List Int := kTab.map fun x => (x.toNat : Int)

/-- What the row's list gives: the table's cells hold its numbers. -/
theorem table {W : World} (h : laidMetH Tryz.prog Rows.fnCodecRow.laid W) : Lib.TabIs Tryz.prog W "loop.example/s03048/impl.roundWords" .u32 zs :=
  Lib.tabIs_of_head (rest := []) gTab gTabType Tryz.underlying104 Tryz.underlying77 cellsEl cellsTab h
theorem tabCells {W : World} (h : laidMetH Tryz.prog Rows.fnCodecRow.laid W) : ∀ j, j < 64 → W.cell? ⟨0, j, none⟩ = some (.int .u32 ((kTab.getD j 0).toNat : Int)) := fun j hj => by
  have h1 := (table h).cell gTab j (by exact hj)
  rw [h1]
  unfold zs
  rw [List.getD_eq_getElem?_getD, List.getElem?_map, List.getD_eq_getElem?_getD, List.getElem?_eq_getElem (by exact hj)]; rfl

def dat {H : Type} : DataW H := .agg (zs.map fun z => .lit (.int .u32 z))
/-- The table reads as itself, in whatever world. -/
theorem trod_tab {H : Type} (enc : TypeId × Value → H) (W : World) (sp : Nat → Bool) (hd : Bool) (n : Nat) : DataW.trod enc Tryz.prog W 0 sp hd (n + 2) 104 (kTab.map U) = some (dat, []) := by kernel_rfl
theorem trod_tab1 {H : Type} (enc : TypeId × Value → H) (W : World) (sp : Nat → Bool) (hd : Bool) : DataW.trod enc Tryz.prog W 0 sp hd 1 104 (kTab.map U) = none := by kernel_rfl

set_option maxRecDepth 100000 in
theorem contract (H : Type) (enc : TypeId × Value → H) (W : World) (base : Nat) (args : Array Value) (ds gs : List (DataW H)) (before : List MemPlace)
    (hval : ∀ (j : Nat) t v, Tryz.f3.params[j]? = some t → args[j]? = some v → Value.okWide Tryz.prog W .any base t v)
    (hW : DataW.Whole enc Tryz.prog Tryz.f3.params.toList Rows.fnCodecSpec.vars false W args.toList ds gs before) (hL : laidMetH Tryz.prog Rows.fnCodecRow.laid W) :
    Calls Tryz.prog 3 args W fun e W' => ∃ v, e = .returned v ∧ Rows.fnCodecSpec.post enc Tryz.prog Tryz.f3 false true false false W args v W' := by
  have hW' := hW
  obtain ⟨p, q, hA0, hV, rfl, hfz, hnd⟩ := hW
  have hA : DataW.TrodAll enc Tryz.prog W 0 (fun _ => true) true Tryz.f3.params.toList args.toList ds p := hA0
  rw [Tryz.params3] at hA hval
  obtain ⟨v0, vs0, d0, ds0, p0, q0, hargs, rfl, rfl, h0, r0⟩ := trodAll_cons hA
  obtain ⟨v1, vs1, d1, ds1, p1, q1, rfl, rfl, rfl, h1, r1⟩ := trodAll_cons r0
  obtain ⟨rfl, rfl, rfl⟩ := trodAll_nil r1
  obtain rfl : args = #[v0, v1] := by cases args; simp_all
  obtain ⟨x0, c0, s0, rfl, hs0, hw0, hx0, hz0⟩ := Disk.open_nums Tryz.underlying22 Tryz.underlying5 (by kernel_rfl) (hval 0 22 v0 rfl rfl) h0
  obtain ⟨x1, c1, s1, rfl, hs1, hw1, hx1, hz1⟩ := Disk.open_nums Tryz.underlying22 Tryz.underlying5 (by kernel_rfl) (hval 1 22 v1 rfl rfl) h1
  obtain ⟨g, t, cs, fuel, d, p', rfl, hg, ht, hvar, hd, rfl⟩ := trodVars_one hV
  obtain rfl := Option.some.inj (gTab.symm.trans hg)
  obtain rfl := Option.some.inj (gTabType.symm.trans ht)
  have hcs : cs = (kTab.map U).toArray := Option.some.inj (hvar.symm.trans (table hL))
  subst hcs
  have hdd : d = dat ∧ p' = [] := by
    match fuel, hd with
    | 0, hd => simp [DataW.trod] at hd
    | 1, hd => rw [show (kTab.map U).toArray.toList = kTab.map U from rfl, trod_tab1] at hd; cases hd
    | n + 2, hd =>
      rw [show (kTab.map U).toArray.toList = kTab.map U from rfl, trod_tab] at hd
      cases hd
      exact ⟨rfl, rfl⟩
  obtain ⟨rfl, rfl⟩ := hdd
  have hcells := tabCells hL
  have hl0 : 0 < W.heap.size := World.block_lt_of_cell? W _ (hcells 0 (by omega))
  clear hA0
  refine (law_codec_h x0 s0 c0 x1 s1 c1 W hs0 hw0 hx0 hs1 hw1 hx1 hcells).mono fun e W' ⟨he, hb⟩ => ?_
  subst he
  have hvar' : W'.var? Tryz.prog "loop.example/s03048/impl.roundWords" = some (kTab.map U).toArray := by
    unfold World.var? at hvar ⊢
    simp only [gTab, Option.bind_some] at hvar ⊢
    rw [hb.block 0 hl0]
    exact hvar
  exact ⟨_, rfl, ⟨_, _, _, [], _, MemPlace.row ⟨0, 0, none⟩ (kTab.map U).toArray.size ++ [], hW', trodAll_cons_mk (shut_bool Tryz.underlying4 _) trodAll_mk0, trodAll_cons_mk (hz0 W' hb) (trodAll_cons_mk (hz1 W' hb) trodAll_mk0),
    trodVars_mk1 (fuel := 2) gTab gTabType hvar' (trod_tab enc W' _ _ 0), hb.frame _, fun h => by cases h⟩⟩

theorem laid_met (os : Os) : laidMet Tryz.prog Rows.fnCodecRow.laid (World.forCall ({ World.holding Tryz.prog os ⟨#[], #[], []⟩ with heap := (World.holding Tryz.prog os ⟨#[], #[], []⟩).heap.modify 0 fun | .cells _ t frozen => .cells (kTab.map U).toArray t frozen | o => o }) (fun _ _ => 0) ⟨#[], #[.slice none 0 0, .slice none 0 0], []⟩).memory :=
  laidMet_of_run' 8 (by kernel_rfl) (by kernel_rfl)
theorem reads (os : Os) {H : Type} (enc : TypeId × Value → H) : ∃ places, DataW.whole enc Tryz.prog (World.forCall ({ World.holding Tryz.prog os ⟨#[], #[], []⟩ with heap := (World.holding Tryz.prog os ⟨#[], #[], []⟩).heap.modify 0 fun | .cells _ t frozen => .cells (kTab.map U).toArray t frozen | o => o }) (fun _ _ => 0) ⟨#[], #[.slice none 0 0, .slice none 0 0], []⟩).memory Tryz.f3.params.toList Rows.fnCodecSpec.vars false #[Value.slice none 0 0, Value.slice none 0 0].toList 8 = some ([.nil, .nil], [dat], places) :=
  ⟨MemPlace.row ⟨0, 0, none⟩ 64, by kernel_rfl⟩

set_option maxRecDepth 100000 in
theorem lifted (os : Os) (started : os.Started) (H : Type) (enc : TypeId × Value → H) (F : Stop.Interp) :
    ReturnsInHanded {} Tryz.checked os 3 .any ((OpenSpec.ofChange Rows.fnCodecSpec).preRow enc Tryz.prog Tryz.f3 Rows.fnCodecRow.domain false Rows.fnCodecRow.laid) (((OpenSpec.ofChange Rows.fnCodecSpec).at F).post enc Tryz.prog Tryz.f3 false true false false) := by
  obtain ⟨places, hx⟩ := reads os enc
  refine returnsInHanded_of_row (C := Tryz.checked) (s := OpenSpec.ofChange Rows.fnCodecSpec) own started (by kernel_rfl) Tryz.func3
    (witness_row_at (enc := enc) (C := Tryz.checked) false ({ World.holding Tryz.prog os ⟨#[], #[], []⟩ with heap := (World.holding Tryz.prog os ⟨#[], #[], []⟩).heap.modify 0 fun | .cells _ t frozen => .cells (kTab.map U).toArray t frozen | o => o }) #[.slice none 0 0, .slice none 0 0] rfl (by kernel_rfl) (by kernel_rfl) (by kernel_rfl)
      (OpenSpec.preRow_of_cond 8 hx (by kernel_rfl) (fun k hk => by cases hk) (by kernel_rfl) (laid_met os))) ?_
  intro W base args ds gs before hval hW _ _ _ hL _ _
  exact contract H enc W base args ds gs before hval hW hL

theorem said : Rows.FnCodecSaid :=
  OpenClaim.holds_of_cond 3 Tryz.f3 rfl rfl rfl rfl rfl rfl rfl ⟨rfl, rfl, rfl, rfl, rfl⟩ rfl rfl rfl rfl rfl (by kernel_rfl) Tryz.func3 (by kernel_rfl)
    (of_decide_eq_true (by kernel_rfl)) (by unfold Func.isWrapper; first | (rw [if_pos (by decide +kernel)]; kernel_rfl) | (rw [if_neg (by decide +kernel)]; exact ⟨rfl, rfl⟩))
    (fun os started H enc _ F => by rw [OpenClaim.pre_eq_preRow]; exact lifted os started H enc F)

theorem plain (f : FuncId) (fn : Func) (hf : Tryz.pinned.checked.prog.funcNamed "loop.example/s03048/laws.FnCodec" = some f) (hfn : Tryz.pinned.checked.prog.funcs[f]? = some fn) :
    false = Tryz.pinned.checked.prog.looks [] ∧ ∀ (j : Nat) t, fn.params[j]? = some t → Tryz.pinned.checked.prog.wantsStandIn t = false := by
  obtain rfl : f = 3 := Option.some.inj ((show Tryz.prog.funcNamed "loop.example/s03048/laws.FnCodec" = some 3 by kernel_rfl).symm.trans hf) |>.symm
  obtain rfl : fn = Tryz.f3 := (Option.some.inj (Tryz.func3.symm.trans hfn)).symm
  refine ⟨by kernel_rfl, fun j t ht => ?_⟩
  rw [Tryz.params3] at ht
  have hm : t ∈ [22, 22] := by simpa using Array.mem_of_getElem? ht
  have hall : ([22, 22].all fun u => !Tryz.prog.wantsStandIn u) = true := by kernel_rfl
  exact (show Tryz.prog.wantsStandIn t = false by simpa using List.all_eq_true.1 hall t hm)
end Go.Proofs.YtngnbflkiiehmaaGreatDoor.fnCodec

namespace Go.Proofs.YtngnbflkiiehmaaGreatDoor
/-- The card. -/
theorem fnCodec_card : Rows.FnCodecCardSaid :=
  Claim7.holds_tied_plain_at .later [] _ _ _ _ fnCodec.said (fun _ h => by cases h) (by kernel_rfl) (fun _ h => by cases h) fnCodec_row_tie rfl ⟨rfl, rfl⟩ (by kernel_rfl) rfl fnCodec.plain (by kernel_rfl)
#print axioms fnCodec_card
end Go.Proofs.YtngnbflkiiehmaaGreatDoor
