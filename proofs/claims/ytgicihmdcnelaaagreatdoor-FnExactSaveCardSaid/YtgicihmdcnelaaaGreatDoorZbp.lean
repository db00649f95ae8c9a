import Derived.ProofKit
import Derived.OpenShut
import Derived.ChangeSlices
import Derived.Deep.SlicePairs
import Derived.Test.YtgicihmdcnelaaaGreatDoorCards
import Derived.Test.YtgicihmdcnelaaaGreatDoorTie
import Derived.Test.YtgicihmdcnelaaaGreatDoorZbo
import Derived.Deep.DeepHandedRow
import Derived.Lib.LaidTab
namespace Go.Proofs.Pairs
open Go Go.ChangeShapes Go.WideShapes Go.ChangeAt Go.RowKit

/-- A slice of structs of two texts that is handed in: what it holds, and that it reads so in every world in which what was there is as it was. -/
theorem open_pairs {P : Program} {H : Type} {enc : TypeId × Value → H} {W : World} {b0 : Nat} {t e : TypeId} {f0 f1 : Field} {v : Value} {d : DataW H} {p : List MemPlace} (ht : P.underlying t = some (.slice e)) (he : P.underlying e = some (.struct #[f0, f1])) (ce : P.cellsOf e = 2) (o0 : f0.offset = 0) (o1 : f1.offset = 1)
    (s0 : P.underlying f0.type = some .string) (s1 : P.underlying f1.type = some .string) (c0 : P.cellsOf f0.type = 1) (c1 : P.cellsOf f1.type = 1)
    (hv : Value.okWide P W .any b0 t v) (h : DataW.Trod enc P W 0 (fun _ => true) true t v d p) :
    ∃ (a : Option Addr) (c : Nat) (xs : List (ByteArray × ByteArray)), v = .slice a xs.length c ∧ xs.length ≤ maxLen ∧ (∀ j, (xs.getD j (⟨#[]⟩, ⟨#[]⟩)).1.size ≤ maxLen ∧ (xs.getD j (⟨#[]⟩, ⟨#[]⟩)).2.size ≤ maxLen) ∧
      (0 < xs.length → ∃ b off : Nat, a = some ⟨b, off, none⟩ ∧ b < W.heap.size ∧ ∀ j, j < xs.length → W.cell? ⟨b, off + j * 2, none⟩ = some (.string (xs.getD j (⟨#[]⟩, ⟨#[]⟩)).1) ∧ W.cell? ⟨b, off + j * 2 + 1, none⟩ = some (.string (xs.getD j (⟨#[]⟩, ⟨#[]⟩)).2)) ∧
      (∀ W' : World, Below W.heap.size W W' → DataW.Trod enc P W' 0 (fun b => decide (b < W.heap.size)) true t v d p) := by
  obtain ⟨a0, len, cap, rfl⟩ := okWide_slice ht hv
  obtain ⟨fuel, hf⟩ := h
  rcases Deep.open_slice_pairs ht he ce o0 o1 c0 c1 hf with ⟨h0, hx⟩ | ⟨a, len', cap', m, n, V0, V1, D0, D1, P0, P1, hcs, _, hl, hm, hmm, hx, hcell⟩
  · simp [Value.cells] at h0
    obtain ⟨rfl, rfl, rfl⟩ := h0
    simp only [Prod.mk.injEq] at hx
    obtain ⟨rfl, rfl⟩ := hx
    exact ⟨none, 0, [], rfl, Nat.zero_le _, fun _ => ⟨Nat.zero_le _, Nat.zero_le _⟩, fun hx => absurd hx (Nat.lt_irrefl 0), fun W' _ => shut_slice_nil ht⟩
  · simp [Value.cells] at hcs
    obtain ⟨rfl, rfl, rfl⟩ := hcs
    simp only [Prod.mk.injEq] at hx
    obtain ⟨rfl, rfl⟩ := hx
    simp only [if_true] at hmm
    subst hmm
    obtain ⟨b, off, spot⟩ := a
    have hstr : ∀ i, i < m → ∃ q : ByteArray × ByteArray, V0 i = .string q.1 ∧ V1 i = .string q.2 ∧ q.1.size ≤ maxLen ∧ q.2.size ≤ maxLen ∧ D0 i = .lit (.string q.1.data.toList) ∧ D1 i = .lit (.string q.2.data.toList) ∧ P0 i = [] ∧ P1 i = [] := fun i hi => by
      obtain ⟨_, _, t0, t1⟩ := hcell i hi
      obtain ⟨x0, e0, y0, z0⟩ := DataW.trod_string s0 t0
      obtain ⟨x1, e1, y1, z1⟩ := DataW.trod_string s1 t1
      simp only [List.cons.injEq, and_true] at e0 e1
      simp only [Prod.mk.injEq] at y0 y1
      exact ⟨(x0, x1), e0, e1, z0, z1, y0.1, y1.1, y0.2, y1.2⟩
    obtain ⟨Q, hQ⟩ := Deep.choose_lt hstr
    have hcells : 0 < m → spot = none ∧ b < W.heap.size := fun h => by
      have h1 := (hcell 0 (by omega)).1
      have hsp : spot = none := by simpa [Addr.add] using World.cell?_spot h1
      subst hsp
      rw [add_plain] at h1
      exact ⟨rfl, World.block_lt_of_cell? _ _ h1⟩
    have hlen : ((List.range len).map Q).length = len := by rw [List.length_map, List.length_range]
    have hget : ∀ j, j < len → ((List.range len).map Q).getD j (⟨#[]⟩, ⟨#[]⟩) = Q j := fun j hj => by
      rw [List.getD_eq_getElem?_getD, List.getElem?_map, List.getElem?_range hj]
      rfl
    refine ⟨some ⟨b, off, spot⟩, m, (List.range len).map Q, by rw [hlen], by rw [hlen]; omega, fun j => ?_, fun hpos => ?_, fun W' hb => ?_⟩
    · by_cases hj : j < len
      · rw [hget j hj]; exact ⟨(hQ j (by omega)).2.2.1, (hQ j (by omega)).2.2.2.1⟩
      · rw [List.getD_eq_getElem?_getD, List.getElem?_eq_none (by rw [hlen]; omega)]; exact ⟨Nat.zero_le _, Nat.zero_le _⟩
    · rw [hlen] at hpos
      obtain ⟨rfl, hlt⟩ := hcells (by omega)
      refine ⟨b, off, rfl, hlt, fun j hj => ?_⟩
      rw [hlen] at hj
      obtain ⟨k0, k1, _, _⟩ := hcell j (by omega)
      rw [add_plain] at k0 k1
      rw [hget j hj, ← (hQ j (by omega)).1, ← (hQ j (by omega)).2.1]
      exact ⟨k0, by rw [Nat.add_assoc]; exact k1⟩
    · by_cases h0 : 0 < m
      · obtain ⟨rfl, hlt⟩ := hcells h0
        have := Deep.shut_slice_pairs_whole (enc := enc) (P := P) (w := W') (base := 0) (spare := fun b => decide (b < W.heap.size)) (held := true) (b := b) (off := off) (len := len) (cap := m) ht he ce o0 o1 c0 c1 (Nat.zero_le _) hl hm (by simpa using hlt) V0 V1 D0 D1 P0 P1
          (fun i hi => by have := (hcell i hi).1; rw [add_plain] at this; exact (hb.cell hlt).trans this)
          (fun i hi => by have := (hcell i hi).2.1; rw [add_plain] at this; exact (hb.cell hlt).trans (by rw [Nat.add_assoc]; exact this))
          (fun i hi => by
            obtain ⟨q0, _, q2, _, q4, _, q6, _⟩ := hQ i hi
            rw [q0, q4, q6]
            exact ⟨1, by simp [DataW.trod, s0, q2]⟩)
          (fun i hi => by
            obtain ⟨_, q1, _, q3, _, q5, _, q7⟩ := hQ i hi
            rw [q1, q5, q7]
            exact ⟨1, by simp [DataW.trod, s1, q3]⟩)
        obtain ⟨n, hn⟩ := this
        exact ⟨n, by simpa [Value.cells] using hn⟩
      · obtain rfl : m = 0 := by omega
        obtain rfl : len = 0 := by omega
        by_cases hlt : b < W.heap.size
        · have := Deep.shut_slice_whole_cells (enc := enc) (P := P) (w := W') (base := 0) (spare := fun b => decide (b < W.heap.size)) (held := true) (a := ⟨b, off, spot⟩) (len := 0) (cap := 0) ht (Nat.zero_le _) hl hm (by simpa using hlt) (fun i => .agg [D0 i, D1 i]) (fun _ => []) (fun i hi => absurd hi (Nat.not_lt_zero i))
          obtain ⟨n, hn⟩ := this
          exact ⟨n, by simpa [Value.cells] using hn⟩
        · have := Deep.shut_slice_cells (enc := enc) (P := P) (w := W') (base := 0) (spare := fun b => decide (b < W.heap.size)) (held := true) (a := ⟨b, off, spot⟩) (len := 0) (cap := 0) ht (Nat.zero_le _) hl hm (by simpa using hlt) (fun i => .agg [D0 i, D1 i]) (fun _ => []) (fun i hi => absurd hi (Nat.not_lt_zero i))
          obtain ⟨n, hn⟩ := this
          exact ⟨n, by simpa [Value.cells] using hn⟩
end Go.Proofs.Pairs
namespace Go.Proofs.YtgicihmdcnelaaaGreatDoor.fnExactSave
open Go.ChangeShapes Go.WideShapes Go.ChangeAt Go.RowKit Go.Proofs.Sha
open Go.ChangeMaps (open_string shut_string)

theorem own : ownKnob Tryz.prog.godebug = none := by kernel_rfl
theorem gTab : Tryz.prog.globalNamed "loop.example/s03048/impl.roundWords" = some 0 := by kernel_rfl
theorem gTabType : (Tryz.prog.globals[0]?).map (·.type) = some 196 := by kernel_rfl
theorem cellsTab : Tryz.prog.cellsOf 196 = 64 := by kernel_rfl
theorem cellsEl : Tryz.prog.cellsOf 109 = 1 := by kernel_rfl
def zs : List Int := kTab.map fun x => (x.toNat : Int)

/-- What the row's list gives: the table's cells hold its numbers. -/
theorem table {W : World} (h : laidMetH Tryz.prog Rows.fnExactSaveRow.laid W) : Lib.TabIs Tryz.prog W "loop.example/s03048/impl.roundWords" .u32 zs :=
  Lib.tabIs_of_head (rest := []) gTab gTabType Tryz.underlying196 Tryz.underlying109 cellsEl cellsTab h
theorem tabCells {W : World} (h : laidMetH Tryz.prog Rows.fnExactSaveRow.laid W) : ∀ j, j < 64 → W.cell? ⟨0, j, none⟩ = some (.int .u32 ((kTab.getD j 0).toNat : Int)) := fun j hj => by
  have h1 := (table h).cell gTab j (by exact hj)
  rw [h1]
  unfold zs
  rw [List.getD_eq_getElem?_getD, List.getElem?_map, List.getD_eq_getElem?_getD, List.getElem?_eq_getElem (by exact hj)]; rfl

def dat {H : Type} : DataW H := .agg (zs.map fun z => .lit (.int .u32 z))
/-- The table reads as itself, in whatever world. -/
theorem trod_tab {H : Type} (enc : TypeId × Value → H) (W : World) (sp : Nat → Bool) (hd : Bool) (n : Nat) : DataW.trod enc Tryz.prog W 0 sp hd (n + 2) 196 (kTab.map U) = some (dat, []) := by kernel_rfl
theorem trod_tab1 {H : Type} (enc : TypeId × Value → H) (W : World) (sp : Nat → Bool) (hd : Bool) : DataW.trod enc Tryz.prog W 0 sp hd 1 196 (kTab.map U) = none := by kernel_rfl

set_option maxRecDepth 100000 in
theorem contract (H : Type) (enc : TypeId × Value → H) (W : World) (base : Nat) (args : Array Value) (ds gs : List (DataW H)) (before : List MemPlace)
    (hval : ∀ (j : Nat) t v, Tryz.f3.params[j]? = some t → args[j]? = some v → Value.okWide Tryz.prog W .any base t v)
    (hW : DataW.Whole enc Tryz.prog Tryz.f3.params.toList Rows.fnExactSaveSpec.vars false W args.toList ds gs before) (hL : laidMetH Tryz.prog Rows.fnExactSaveRow.laid W) :
    Calls Tryz.prog 3 args W fun e W' => ∃ v, e = .returned v ∧ Rows.fnExactSaveSpec.post enc Tryz.prog Tryz.f3 false true false false W args v W' := by
  have hW' := hW
  obtain ⟨p, q, hA0, hV, rfl, hfz, hnd⟩ := hW
  have hA : DataW.TrodAll enc Tryz.prog W 0 (fun _ => true) true Tryz.f3.params.toList args.toList ds p := hA0
  rw [Tryz.params3] at hA hval
  obtain ⟨v0, vs0, d0, ds0, p0, q0, hargs, rfl, rfl, h0, r0⟩ := trodAll_cons hA
  obtain ⟨v1, vs1, d1, ds1, p1, q1, rfl, rfl, rfl, h1, r1⟩ := trodAll_cons r0
  obtain ⟨rfl, rfl, rfl⟩ := trodAll_nil r1
  obtain rfl : args = #[v0, v1] := by cases args; simp_all
  obtain ⟨k0, x0, c0, s0, rfl, hs0, hm0, hx0, hz0⟩ := Pools.open_pool Tryz.underlying24 (by kernel_rfl) (by kernel_rfl) Tryz.underlying3 Tryz.underlying22 Tryz.underlying9 (by kernel_rfl) (hval 0 24 v0 rfl rfl) h0
  obtain ⟨x1, c1, s1, rfl, hs1, hm1, hx1, hz1⟩ := Pairs.open_pairs Tryz.underlying25 Tryz.underlying49 (by kernel_rfl) rfl rfl Tryz.underlying9 Tryz.underlying9 (by kernel_rfl) (by kernel_rfl) (hval 1 25 v1 rfl rfl) h1
  obtain ⟨g, t, cs, fuel, d, p', rfl, hg, ht, hvar, hd, rfl⟩ := trodVars_one hV
  obtain rfl := Option.some.inj (gTab.symm.trans hg)
  obtain rfl := Option.some.inj (gTabType.symm.trans ht)
  have hcs : cs = (kTab.map U).toArray := Option.some.inj (hvar.symm.trans (table hL))
  subst hcs
  have hdd : d = dat ∧ p' = [] := by
    match fuel, hd with
    | 0, hd => simp [DataW.trod] at hd
    | 1, hd => rw [show (kTab.map U).toArray.toList = kTab.map U from rfl, trod_tab1] at hd; cases hd
    | n + 2, hd =>
      rw [show (kTab.map U).toArray.toList = kTab.map U from rfl, trod_tab] at hd
      cases hd
      exact ⟨rfl, rfl⟩
  obtain ⟨rfl, rfl⟩ := hdd
  have hcells := tabCells hL
  have hl0 : 0 < W.heap.size := World.block_lt_of_cell? W _ (hcells 0 (by omega))
  clear hA0
  refine (law_save k0 x0 s0 c0 x1 s1 c1 W hs0 hm0 hx0 hs1 hm1 hx1 hcells).mono fun e W' ⟨he, hb⟩ => ?_
  subst he
  have hvar' : W'.var? Tryz.prog "loop.example/s03048/impl.roundWords" = some (kTab.map U).toArray := by
    unfold World.var? at hvar ⊢
    simp only [gTab, Option.bind_some] at hvar ⊢
    rw [hb.block 0 hl0]
    exact hvar
  exact ⟨_, rfl, ⟨_, _, _, [], _, MemPlace.row ⟨0, 0, none⟩ (kTab.map U).toArray.size ++ [], hW', trodAll_cons_mk (shut_bool Tryz.underlying4 _) trodAll_mk0, trodAll_cons_mk (hz0 W' hb) (trodAll_cons_mk (hz1 W' hb) trodAll_mk0),
    trodVars_mk1 (fuel := 2) gTab gTabType hvar' (trod_tab enc W' _ _ 0), hb.frame _, fun h => by cases h⟩⟩

theorem laid_met (os : Os) : laidMet Tryz.prog Rows.fnExactSaveRow.laid (World.forCall ({ World.holding Tryz.prog os ⟨#[], #[], []⟩ with heap := (World.holding Tryz.prog os ⟨#[], #[], []⟩).heap.modify 0 fun | .cells _ t frozen => .cells (kTab.map U).toArray t frozen | o => o }) (fun _ _ => 0) ⟨#[], #[.agg #[.int .i64 0, .slice none 0 0], .slice none 0 0], []⟩).memory :=
  laidMet_of_run' 8 (by kernel_rfl) (by kernel_rfl)
theorem reads (os : Os) {H : Type} (enc : TypeId × Value → H) : ∃ places, DataW.whole enc Tryz.prog (World.forCall ({ World.holding Tryz.prog os ⟨#[], #[], []⟩ with heap := (World.holding Tryz.prog os ⟨#[], #[], []⟩).heap.modify 0 fun | .cells _ t frozen => .cells (kTab.map U).toArray t frozen | o => o }) (fun _ _ => 0) ⟨#[], #[.agg #[.int .i64 0, .slice none 0 0], .slice none 0 0], []⟩).memory Tryz.f3.params.toList Rows.fnExactSaveSpec.vars false #[Value.agg #[.int .i64 0, .slice none 0 0], Value.slice none 0 0].toList 8 = some ([.agg [.lit (.int .i64 0), .nil], .nil], [dat], places) :=
  ⟨MemPlace.row ⟨0, 0, none⟩ 64, by kernel_rfl⟩

set_option maxRecDepth 100000 in
theorem lifted (os : Os) (started : os.Started) (H : Type) (enc : TypeId × Value → H) (F : Stop.Interp) :
    ReturnsInHanded {} Tryz.checked os 3 .any ((OpenSpec.ofChange Rows.fnExactSaveSpec).preRow enc Tryz.prog Tryz.f3 Rows.fnExactSaveRow.domain false Rows.fnExactSaveRow.laid) (((OpenSpec.ofChange Rows.fnExactSaveSpec).at F).post enc Tryz.prog Tryz.f3 false true false false) := by
  obtain ⟨places, hx⟩ := reads os enc
  refine returnsInHanded_of_row (C := Tryz.checked) (s := OpenSpec.ofChange Rows.fnExactSaveSpec) own started (by kernel_rfl) Tryz.func3
    (witness_row_at (enc := enc) (C := Tryz.checked) false ({ World.holding Tryz.prog os ⟨#[], #[], []⟩ with heap := (World.holding Tryz.prog os ⟨#[], #[], []⟩).heap.modify 0 fun | .cells _ t frozen => .cells (kTab.map U).toArray t frozen | o => o }) #[.agg #[.int .i64 0, .slice none 0 0], .slice none 0 0] rfl (by kernel_rfl) (by kernel_rfl) (by kernel_rfl)
      (OpenSpec.preRow_of_cond 8 hx (by kernel_rfl) (fun k hk => by cases hk) (by kernel_rfl) (laid_met os))) ?_
  intro W base args ds gs before hval hW _ _ _ hL _ _
  exact contract H enc W base args ds gs before hval hW hL

theorem said : Rows.FnExactSaveSaid :=
  OpenClaim.holds_of_cond 3 Tryz.f3 rfl rfl rfl rfl rfl rfl rfl ⟨rfl, rfl, rfl, rfl, rfl⟩ rfl rfl rfl rfl rfl (by kernel_rfl) Tryz.func3 (by kernel_rfl)
    (of_decide_eq_true (by kernel_rfl)) (by unfold Func.isWrapper; first | (rw [if_pos (by decide +kernel)]; kernel_rfl) | (rw [if_neg (by decide +kernel)]; exact ⟨rfl, rfl⟩))
    (fun os started H enc _ F => by rw [OpenClaim.pre_eq_preRow]; exact lifted os started H enc F)

theorem plain (f : FuncId) (fn : Func) (hf : Tryz.pinned.checked.prog.funcNamed "loop.example/s03048/laws.FnExactSave" = some f) (hfn : Tryz.pinned.checked.prog.funcs[f]? = some fn) :
    false = Tryz.pinned.checked.prog.looks [] ∧ ∀ (j : Nat) t, fn.params[j]? = some t → Tryz.pinned.checked.prog.wantsStandIn t = false := by
  obtain rfl : f = 3 := Option.some.inj ((show Tryz.prog.funcNamed "loop.example/s03048/laws.FnExactSave" = some 3 by kernel_rfl).symm.trans hf) |>.symm
  obtain rfl : fn = Tryz.f3 := (Option.some.inj (Tryz.func3.symm.trans hfn)).symm
  refine ⟨by kernel_rfl, fun j t ht => ?_⟩
  rw [Tryz.params3] at ht
  have hm : t ∈ [24, 25] := by simpa using Array.mem_of_getElem? ht
  have hall : ([24, 25].all fun u => !Tryz.prog.wantsStandIn u) = true := by kernel_rfl
  exact (show Tryz.prog.wantsStandIn t = false by simpa using List.all_eq_true.1 hall t hm)
end Go.Proofs.YtgicihmdcnelaaaGreatDoor.fnExactSave

namespace Go.Proofs.YtgicihmdcnelaaaGreatDoor
/-- The card. -/
theorem fnExactSave_card : Rows.FnExactSaveCardSaid :=
  Claim7.holds_tied_plain_at .later [] _ _ _ _ fnExactSave.said (fun _ h => by cases h) (by kernel_rfl) (fun _ h => by cases h) fnExactSave_row_tie rfl ⟨rfl, rfl⟩ (by kernel_rfl) rfl fnExactSave.plain (by kernel_rfl)
#print axioms fnExactSave_card
end Go.Proofs.YtgicihmdcnelaaaGreatDoor
