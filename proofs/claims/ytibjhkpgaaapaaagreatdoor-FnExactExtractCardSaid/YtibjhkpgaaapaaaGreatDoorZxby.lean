import Derived.Test.YtibjhkpgaaapaaaGreatDoorZxbx
import Derived.Test.YtibjhkpgaaapaaaGreatDoorCards
import Derived.Test.YtibjhkpgaaapaaaGreatDoorTie
import Derived.ProofKit
import Derived.OpenShut
import Derived.Deep.DeepHandedRow
import Derived.Lib.LaidTab
namespace Go.Proofs.YtibjhkpgaaapaaaGreatDoor
open Go.RowKit Go.Proofs.Sha

theorem sextract_any (n : Int) (root lo hi s1 s2 : ByteArray) (w : World) (hs1 : s1.size ≤ 1048576) (hs2 : s2.size ≤ 1048576) (hr : root.size ≤ 1048576) (hlo : lo.size ≤ 1048576) (hhi : hi.size ≤ 1048576) :
    Calls Tryz.prog 9 #[.int .i64 n, .string root, .string lo, .string hi, .string s1, .string s2] w fun e w' => e = .returned (exV (exR n lo hi (accP n root lo hi s1) (accP n root lo hi s2))) ∧ Below w.heap.size w w' := by
  cases h1 : accP n root lo hi s1 with
  | none => exact sx_no n root lo hi s1 s2 w hs1 hs2 hr hlo hhi (.inl h1)
  | some s =>
    cases h2 : accP n root lo hi s2 with
    | none => exact sx_no n root lo hi s1 s2 w hs1 hs2 hr hlo hhi (.inr h2)
    | some t => exact sx_yes n root lo hi s1 s2 w hs1 hs2 hr hlo hhi s t h1 h2
set_option maxRecDepth 100000 in
set_option maxHeartbeats 1000000 in
theorem law_extract (n : Int) (root lo hi s1 s2 : ByteArray) (w : World) (hr : root.size ≤ maxLen) (hlo : lo.size ≤ maxLen) (hhi : hi.size ≤ maxLen) (hs1 : s1.size ≤ maxLen) (hs2 : s2.size ≤ maxLen)
    (hK : ∀ j, j < 64 → w.cell? ⟨0, j, none⟩ = some (.int .u32 ((kTab.getD j 0).toNat : Int))) :
    Calls Tryz.prog 3 #[.int .i64 n, .string root, .string lo, .string hi, .string s1, .string s2] w fun e w' => e = .returned (.bool true) ∧ Below w.heap.size w w' := by
  unfold maxLen at hr hlo hhi hs1 hs2
  have hb0 : Below w.heap.size w w := Below.refl _ _
  by_cases hx0 : 1048576 < root.size
  · have z0 : decide ((1048576 : Int) < (root.size : Int)) = true := by rw [decide_eq_true_eq]; omega
    go_enter Tryz.func3, Tryz.ntmps3
    go_wp2_with fail
    go_ret
    exact ⟨rfl, hb0⟩
  have z0 : decide ((1048576 : Int) < (root.size : Int)) = false := by rw [decide_eq_false_iff_not]; omega
  by_cases hx1 : 1048576 < lo.size
  · have z1 : decide ((1048576 : Int) < (lo.size : Int)) = true := by rw [decide_eq_true_eq]; omega
    go_enter Tryz.func3, Tryz.ntmps3
    go_wp2_with fail
    go_ret
    exact ⟨rfl, hb0⟩
  have z1 : decide ((1048576 : Int) < (lo.size : Int)) = false := by rw [decide_eq_false_iff_not]; omega
  by_cases hx2 : 1048576 < hi.size
  · have z2 : decide ((1048576 : Int) < (hi.size : Int)) = true := by rw [decide_eq_true_eq]; omega
    go_enter Tryz.func3, Tryz.ntmps3
    go_wp2_with fail
    go_ret
    exact ⟨rfl, hb0⟩
  have z2 : decide ((1048576 : Int) < (hi.size : Int)) = false := by rw [decide_eq_false_iff_not]; omega
  by_cases hx3 : 1048576 < s1.size
  · have z3 : decide ((1048576 : Int) < (s1.size : Int)) = true := by rw [decide_eq_true_eq]; omega
    go_enter Tryz.func3, Tryz.ntmps3
    go_wp2_with fail
    go_ret
    exact ⟨rfl, hb0⟩
  have z3 : decide ((1048576 : Int) < (s1.size : Int)) = false := by rw [decide_eq_false_iff_not]; omega
  by_cases hx4 : 1048576 < s2.size
  · have z4 : decide ((1048576 : Int) < (s2.size : Int)) = true := by rw [decide_eq_true_eq]; omega
    go_enter Tryz.func3, Tryz.ntmps3
    go_wp2_with fail
    go_ret
    exact ⟨rfl, hb0⟩
  have z4 : decide ((1048576 : Int) < (s2.size : Int)) = false := by rw [decide_eq_false_iff_not]; omega
  have HS := sextract_any n root lo hi s1 s2 w (by omega) (by omega) (by omega) (by omega) (by omega)
  have hKT : KT w := hK
  have HI : Hid (∀ W, Below w.heap.size w W → Calls Tryz.prog 10 #[.int .i64 n, .string root, .string lo, .string hi, .string s1, .string s2] W fun e w' => e = .returned (exV (exR n lo hi (accP n root lo hi s1) (accP n root lo hi s2))) ∧ Below W.heap.size W w') := fun W hW => iextract_any n root lo hi s1 s2 W (by omega) (by omega) (by omega) (hKT.below hW)
  generalize exR n lo hi (accP n root lo hi s1) (accP n root lo hi s2) = R at HS HI
  unfold exV at HS HI
  generalize (resT R).1 = A at HS HI
  generalize (resT R).2 = B at HS HI
  generalize (!R.isNone) = b at HS HI
  have y1 : (A.toList == A.toList) = true := by simp
  have y2 : (B.toList == B.toList) = true := by simp
  have y3 : (b != b) = false := by simp
  clear hx0 hx1 hx2 hx3 hx4 hr hlo hhi hs1 hs2 hK hKT hb0
  go_enter Tryz.func3, Tryz.ntmps3
  go_wp2_with fail
  refine HS.mono ?_
  rintro e w1 ⟨rfl, hb1⟩
  go_wp2_with fail
  refine (HI.out w1 hb1).mono ?_
  rintro e w2 ⟨rfl, hb2⟩
  go_wp2_with fail
  go_ret
  exact ⟨rfl, hb1.trans (hb2.mono hb1.size)⟩
end Go.Proofs.YtibjhkpgaaapaaaGreatDoor
namespace Go.Proofs.YtibjhkpgaaapaaaGreatDoor.fnExactExtract
open Go.ChangeShapes Go.WideShapes Go.ChangeAt Go.RowKit Go.Proofs.Sha
open Go.ChangeMaps (open_string shut_string)

theorem own : ownKnob Tryz.prog.godebug = none := by kernel_rfl
theorem gTab : Tryz.prog.globalNamed "loop.example/s03048/impl.roundWords" = some 0 := by kernel_rfl
theorem gTabType : (Tryz.prog.globals[0]?).map (·.type) = some 294 := by kernel_rfl
theorem cellsTab : Tryz.prog.cellsOf 294 = 64 := by kernel_rfl
theorem cellsEl : Tryz.prog.cellsOf 177 = 1 := by kernel_rfl
def zs : List Int := kTab.map fun x => (x.toNat : Int)

/-- What the row's list gives: the table's cells hold its numbers. -/
theorem table {W : World} (h : laidMetH Tryz.prog Rows.fnExactExtractRow.laid W) : Lib.TabIs Tryz.prog W "loop.example/s03048/impl.roundWords" .u32 zs :=
  Lib.tabIs_of_head (rest := []) gTab gTabType Tryz.underlying294 Tryz.underlying177 cellsEl cellsTab h
theorem tabCells {W : World} (h : laidMetH Tryz.prog Rows.fnExactExtractRow.laid W) : ∀ j, j < 64 → W.cell? ⟨0, j, none⟩ = some (.int .u32 ((kTab.getD j 0).toNat : Int)) := fun j hj => by
  have h1 := (table h).cell gTab j (by exact hj)
  rw [h1]
  unfold zs
  rw [List.getD_eq_getElem?_getD, List.getElem?_map, List.getD_eq_getElem?_getD, List.getElem?_eq_getElem (by exact hj)]; rfl

def dat {H : Type} : DataW H := .agg (zs.map fun z => .lit (.int .u32 z))
/-- The table reads as itself, in whatever world. -/
theorem trod_tab {H : Type} (enc : TypeId × Value → H) (W : World) (sp : Nat → Bool) (hd : Bool) (n : Nat) : DataW.trod enc Tryz.prog W 0 sp hd (n + 2) 294 (kTab.map U) = some (dat, []) := by kernel_rfl
theorem trod_tab1 {H : Type} (enc : TypeId × Value → H) (W : World) (sp : Nat → Bool) (hd : Bool) : DataW.trod enc Tryz.prog W 0 sp hd 1 294 (kTab.map U) = none := by kernel_rfl

set_option maxRecDepth 100000 in
theorem contract (H : Type) (enc : TypeId × Value → H) (W : World) (base : Nat) (args : Array Value) (ds gs : List (DataW H)) (before : List MemPlace)
    (hval : ∀ (j : Nat) t v, Tryz.f3.params[j]? = some t → args[j]? = some v → Value.okWide Tryz.prog W .any base t v)
    (hW : DataW.Whole enc Tryz.prog Tryz.f3.params.toList Rows.fnExactExtractSpec.vars false W args.toList ds gs before) (hL : laidMetH Tryz.prog Rows.fnExactExtractRow.laid W) :
    Calls Tryz.prog 3 args W fun e W' => ∃ v, e = .returned v ∧ Rows.fnExactExtractSpec.post enc Tryz.prog Tryz.f3 false true false false W args v W' := by
  have hW' := hW
  obtain ⟨p, q, hA0, hV, rfl, hfz, hnd⟩ := hW
  have hA : DataW.TrodAll enc Tryz.prog W 0 (fun _ => true) true Tryz.f3.params.toList args.toList ds p := hA0
  rw [Tryz.params3] at hA hval
  obtain ⟨v0, vs0, d0, ds0, p0, q0, hargs, rfl, rfl, h0, r0⟩ := trodAll_cons hA
  obtain ⟨v1, vs1, d1, ds1, p1, q1, rfl, rfl, rfl, h1, r1⟩ := trodAll_cons r0
  obtain ⟨v2, vs2, d2, ds2, p2, q2, rfl, rfl, rfl, h2, r2⟩ := trodAll_cons r1
  obtain ⟨v3, vs3, d3, ds3, p3, q3, rfl, rfl, rfl, h3, r3⟩ := trodAll_cons r2
  obtain ⟨v4, vs4, d4, ds4, p4, q4, rfl, rfl, rfl, h4, r4⟩ := trodAll_cons r3
  obtain ⟨v5, vs5, d5, ds5, p5, q5, rfl, rfl, rfl, h5, r5⟩ := trodAll_cons r4
  obtain ⟨rfl, rfl, rfl⟩ := trodAll_nil r5
  obtain rfl : args = #[v0, v1, v2, v3, v4, v5] := by cases args; simp_all
  obtain ⟨k0, rfl, rfl, rfl, wk0⟩ := open_int Tryz.underlying3 (hval 0 3 v0 rfl rfl) h0
  obtain ⟨s1, rfl, rfl, rfl, hs1⟩ := open_string Tryz.underlying9 (hval 1 9 v1 rfl rfl) h1
  obtain ⟨s2, rfl, rfl, rfl, hs2⟩ := open_string Tryz.underlying9 (hval 2 9 v2 rfl rfl) h2
  obtain ⟨s3, rfl, rfl, rfl, hs3⟩ := open_string Tryz.underlying9 (hval 3 9 v3 rfl rfl) h3
  obtain ⟨s4, rfl, rfl, rfl, hs4⟩ := open_string Tryz.underlying9 (hval 4 9 v4 rfl rfl) h4
  obtain ⟨s5, rfl, rfl, rfl, hs5⟩ := open_string Tryz.underlying9 (hval 5 9 v5 rfl rfl) h5
  obtain ⟨g, t, cs, fuel, d, p', rfl, hg, ht, hvar, hd, rfl⟩ := trodVars_one hV
  obtain rfl := Option.some.inj (gTab.symm.trans hg)
  obtain rfl := Option.some.inj (gTabType.symm.trans ht)
  have hcs : cs = (kTab.map U).toArray := Option.some.inj (hvar.symm.trans (table hL))
  subst hcs
  have hdd : d = dat ∧ p' = [] := by
    match fuel, hd with
    | 0, hd => simp [DataW.trod] at hd
    | 1, hd => rw [show (kTab.map U).toArray.toList = kTab.map U from rfl, trod_tab1] at hd; cases hd
    | n + 2, hd =>
      rw [show (kTab.map U).toArray.toList = kTab.map U from rfl, trod_tab] at hd
      cases hd
      exact ⟨rfl, rfl⟩
  obtain ⟨rfl, rfl⟩ := hdd
  have hcells := tabCells hL
  have hl0 : 0 < W.heap.size := World.block_lt_of_cell? W _ (hcells 0 (by omega))
  clear hA0
  refine (law_extract k0 s1 s2 s3 s4 s5 W hs1 hs2 hs3 hs4 hs5 hcells).mono fun e W' ⟨he, hb⟩ => ?_
  subst he
  have hvar' : W'.var? Tryz.prog "loop.example/s03048/impl.roundWords" = some (kTab.map U).toArray := by
    unfold World.var? at hvar ⊢
    simp only [gTab, Option.bind_some] at hvar ⊢
    rw [hb.block 0 hl0]
    exact hvar
  exact ⟨_, rfl, ⟨_, _, _, [], [], MemPlace.row ⟨0, 0, none⟩ (kTab.map U).toArray.size ++ [], hW', trodAll_cons_mk (shut_bool Tryz.underlying4 _) trodAll_mk0, trodAll_cons_mk (shut_int Tryz.underlying3 wk0) (trodAll_cons_mk (shut_string Tryz.underlying9 hs1) (trodAll_cons_mk (shut_string Tryz.underlying9 hs2) (trodAll_cons_mk (shut_string Tryz.underlying9 hs3) (trodAll_cons_mk (shut_string Tryz.underlying9 hs4) (trodAll_cons_mk (shut_string Tryz.underlying9 hs5) trodAll_mk0))))),
    trodVars_mk1 (fuel := 2) gTab gTabType hvar' (trod_tab enc W' _ _ 0), hb.frame _, fun h => by cases h⟩⟩

theorem laid_met (os : Os) : laidMet Tryz.prog Rows.fnExactExtractRow.laid (World.forCall ({ World.holding Tryz.prog os ⟨#[], #[], []⟩ with heap := (World.holding Tryz.prog os ⟨#[], #[], []⟩).heap.modify 0 fun | .cells _ t frozen => .cells (kTab.map U).toArray t frozen | o => o }) (fun _ _ => 0) ⟨#[], #[.int .i64 0, .string ByteArray.empty, .string ByteArray.empty, .string ByteArray.empty, .string ByteArray.empty, .string ByteArray.empty], []⟩).memory :=
  laidMet_of_run' 8 (by kernel_rfl) (by kernel_rfl)
theorem reads (os : Os) {H : Type} (enc : TypeId × Value → H) : ∃ places, DataW.whole enc Tryz.prog (World.forCall ({ World.holding Tryz.prog os ⟨#[], #[], []⟩ with heap := (World.holding Tryz.prog os ⟨#[], #[], []⟩).heap.modify 0 fun | .cells _ t frozen => .cells (kTab.map U).toArray t frozen | o => o }) (fun _ _ => 0) ⟨#[], #[.int .i64 0, .string ByteArray.empty, .string ByteArray.empty, .string ByteArray.empty, .string ByteArray.empty, .string ByteArray.empty], []⟩).memory Tryz.f3.params.toList Rows.fnExactExtractSpec.vars false #[Value.int .i64 0, Value.string ByteArray.empty, Value.string ByteArray.empty, Value.string ByteArray.empty, Value.string ByteArray.empty, Value.string ByteArray.empty].toList 8 = some ([.lit (.int .i64 0), .lit (.string []), .lit (.string []), .lit (.string []), .lit (.string []), .lit (.string [])], [dat], places) :=
  ⟨MemPlace.row ⟨0, 0, none⟩ 64, by kernel_rfl⟩

set_option maxRecDepth 100000 in
theorem lifted (os : Os) (started : os.Started) (H : Type) (enc : TypeId × Value → H) (F : Stop.Interp) :
    ReturnsInHanded {} Tryz.checked os 3 .any ((OpenSpec.ofChange Rows.fnExactExtractSpec).preRow enc Tryz.prog Tryz.f3 Rows.fnExactExtractRow.domain false Rows.fnExactExtractRow.laid) (((OpenSpec.ofChange Rows.fnExactExtractSpec).at F).post enc Tryz.prog Tryz.f3 false true false false) := by
  obtain ⟨places, hx⟩ := reads os enc
  refine returnsInHanded_of_row (C := Tryz.checked) (s := OpenSpec.ofChange Rows.fnExactExtractSpec) own started (by kernel_rfl) Tryz.func3
    (witness_row_at (enc := enc) (C := Tryz.checked) false ({ World.holding Tryz.prog os ⟨#[], #[], []⟩ with heap := (World.holding Tryz.prog os ⟨#[], #[], []⟩).heap.modify 0 fun | .cells _ t frozen => .cells (kTab.map U).toArray t frozen | o => o }) #[.int .i64 0, .string ByteArray.empty, .string ByteArray.empty, .string ByteArray.empty, .string ByteArray.empty, .string ByteArray.empty] rfl (by kernel_rfl) (by kernel_rfl) (by kernel_rfl)
      (OpenSpec.preRow_of_cond 8 hx (by kernel_rfl) (fun k hk => by cases hk) (by kernel_rfl) (laid_met os))) ?_
  intro W base args ds gs before hval hW _ _ _ hL _ _
  exact contract H enc W base args ds gs before hval hW hL

theorem said : Rows.FnExactExtractSaid :=
  OpenClaim.holds_of_cond 3 Tryz.f3 rfl rfl rfl rfl rfl rfl rfl ⟨rfl, rfl, rfl, rfl, rfl⟩ rfl rfl rfl rfl rfl (by kernel_rfl) Tryz.func3 (by kernel_rfl)
    (of_decide_eq_true (by kernel_rfl)) (by unfold Func.isWrapper; first | (rw [if_pos (by decide +kernel)]; kernel_rfl) | (rw [if_neg (by decide +kernel)]; exact ⟨rfl, rfl⟩))
    (fun os started H enc _ F => by rw [OpenClaim.pre_eq_preRow]; exact lifted os started H enc F)

theorem plain (f : FuncId) (fn : Func) (hf : Tryz.pinned.checked.prog.funcNamed "loop.example/s03048/laws.FnExactExtract" = some f) (hfn : Tryz.pinned.checked.prog.funcs[f]? = some fn) :
    true = Tryz.pinned.checked.prog.looks [] ∧ ∀ (j : Nat) t, fn.params[j]? = some t → Tryz.pinned.checked.prog.wantsStandIn t = false := by
  obtain rfl : f = 3 := Option.some.inj ((show Tryz.prog.funcNamed "loop.example/s03048/laws.FnExactExtract" = some 3 by kernel_rfl).symm.trans hf) |>.symm
  obtain rfl : fn = Tryz.f3 := (Option.some.inj (Tryz.func3.symm.trans hfn)).symm
  refine ⟨by kernel_rfl, fun j t ht => ?_⟩
  rw [Tryz.params3] at ht
  have hm : t ∈ [3, 9, 9, 9, 9, 9] := by simpa using Array.mem_of_getElem? ht
  have hall : ([3, 9, 9, 9, 9, 9].all fun u => !Tryz.prog.wantsStandIn u) = true := by kernel_rfl
  exact (show Tryz.prog.wantsStandIn t = false by simpa using List.all_eq_true.1 hall t hm)
end Go.Proofs.YtibjhkpgaaapaaaGreatDoor.fnExactExtract

namespace Go.Proofs.YtibjhkpgaaapaaaGreatDoor
/-- The card. -/
theorem fnExactExtract_card : Rows.FnExactExtractCardSaid :=
  Claim7.holds_tied_plain_at .later [] _ _ _ _ fnExactExtract.said (fun _ h => by cases h) (by kernel_rfl) (fun _ h => by cases h) fnExactExtract_row_tie rfl ⟨rfl, rfl⟩ (by kernel_rfl) rfl fnExactExtract.plain (by kernel_rfl)
#print axioms fnExactExtract_card
end Go.Proofs.YtibjhkpgaaapaaaGreatDoor
