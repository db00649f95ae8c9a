import Derived.Test.YtibjhkpgaaapaaaGreatDoorZvbw
import Derived.Test.YtibjhkpgaaapaaaGreatDoorZvbs
import Derived.Test.YtibjhkpgaaapaaaGreatDoorCards
import Derived.Test.YtibjhkpgaaapaaaGreatDoorTie
import Derived.ProofKit
import Derived.OpenShut
import Derived.Deep.DeepHandedRow
import Derived.Lib.LaidTab
namespace Go.Proofs.YtibjhkpgaaapaaaGreatDoor
open Go.RowKit Go.Proofs.Sha

/-- What both sides answer: the pairs, in a row of one's own, and the word. -/
structure VB (P : List PairT) (b : Bool) (w : World) (e : Ending) (w' : World) : Prop where
  at_ : ∃ a c, e = .returned (.tuple #[.slice a P.length c, .bool b]) ∧ PArg a P w' ∧ PRow w' w.heap.size a P.length c (flatP P) ∧ ∀ g off, a = some ⟨g, off, none⟩ → w.heap.size ≤ g ∧ g < w'.heap.size
  bel : Below w.heap.size w w'
theorem VB.of_own {P : List PairT} {b : Bool} {w w' : World} {a : Option Addr} {c : Nat} (hs : SmallP P) (ho : w'.ownsRow w.heap.size 81 2 (.slice a P.length c) P.length (flatP P)) (hb : Below w.heap.size w w') : VB P b w (.returned (.tuple #[.slice a P.length c, .bool b])) w' :=
  ⟨⟨a, c, rfl, own_parg ho hs, own_prow ho, fun g off e => own_in ho g off e⟩, hb⟩
theorem smallP_nil : SmallP [] := ⟨by simp, fun j => by simp; decide⟩
set_option maxRecDepth 100000 in
set_option maxHeartbeats 2000000 in
theorem law_vf (n : Int) (root lo hi s : ByteArray) (w : World) (hr : root.size ≤ maxLen) (hlo : lo.size ≤ maxLen) (hhi : hi.size ≤ maxLen) (hs : s.size ≤ maxLen) (hK : KT w)
    (P : List PairT) (b : Bool) (hP5 : P.length ≤ 500)
    (HS : Hid (s.size ≤ 1048576 → root.size ≤ 1048576 → lo.size ≤ 1048576 → hi.size ≤ 1048576 → ∀ w', Calls Tryz.prog 16 #[.int .i64 n, .string root, .string lo, .string hi, .string s] w' (VB P b w')))
    (HI : Hid (s.size ≤ 1048576 → root.size ≤ 1048576 → ∀ w', KT w' → Calls Tryz.prog 17 #[.int .i64 n, .string root, .string lo, .string hi, .string s] w' (VB P b w'))) :
    Calls Tryz.prog 5 #[.int .i64 n, .string root, .string lo, .string hi, .string s] w fun e w' => e = .returned (.bool true) ∧ Below w.heap.size w w' := by
  unfold maxLen at hr hlo hhi hs
  have hb0 : Below w.heap.size w w := Below.refl _ _
  by_cases hx0 : 1048576 < root.size
  · have z1 : decide ((1048576 : Int) < (root.size : Int)) = true := by rw [decide_eq_true_eq]; omega
    go_enter Tryz.func5, Tryz.ntmps5
    go_wp2_with fail
    go_ret
    exact ⟨rfl, hb0⟩
  have z1 : decide ((1048576 : Int) < (root.size : Int)) = false := by rw [decide_eq_false_iff_not]; omega
  by_cases hx1 : 1048576 < lo.size
  · have z2 : decide ((1048576 : Int) < (lo.size : Int)) = true := by rw [decide_eq_true_eq]; omega
    go_enter Tryz.func5, Tryz.ntmps5
    go_wp2_with fail
    go_ret
    exact ⟨rfl, hb0⟩
  have z2 : decide ((1048576 : Int) < (lo.size : Int)) = false := by rw [decide_eq_false_iff_not]; omega
  by_cases hx2 : 1048576 < hi.size
  · have z3 : decide ((1048576 : Int) < (hi.size : Int)) = true := by rw [decide_eq_true_eq]; omega
    go_enter Tryz.func5, Tryz.ntmps5
    go_wp2_with fail
    go_ret
    exact ⟨rfl, hb0⟩
  have z3 : decide ((1048576 : Int) < (hi.size : Int)) = false := by rw [decide_eq_false_iff_not]; omega
  by_cases hx3 : 1048576 < s.size
  · have z4 : decide ((1048576 : Int) < (s.size : Int)) = true := by rw [decide_eq_true_eq]; omega
    go_enter Tryz.func5, Tryz.ntmps5
    go_wp2_with fail
    go_ret
    exact ⟨rfl, hb0⟩
  have z4 : decide ((1048576 : Int) < (s.size : Int)) = false := by rw [decide_eq_false_iff_not]; omega
  have HE : Hid (∀ a1 c1 a2 c2 w', PArg a1 P w' → PArg a2 P w' → Calls Tryz.prog 18 #[.slice a1 P.length c1, .slice a2 P.length c2] w' fun e w'' => e = .returned (.bool true) ∧ Below w'.heap.size w' w'') := fun a1 c1 a2 c2 w' q1 q2 => eqPairS_any a1 a2 P c1 c2 w' q1 q2
  obtain ⟨M, hMM⟩ := mark_ex
  have HM : Hid (MarkSaid M) := hMM
  have HS' : Hid (∀ w', Calls Tryz.prog 16 #[.int .i64 n, .string root, .string lo, .string hi, .string s] w' (VB P b w')) := HS.out (by omega) (by omega) (by omega) (by omega)
  have HI' : Hid (∀ w', KT w' → Calls Tryz.prog 17 #[.int .i64 n, .string root, .string lo, .string hi, .string s] w' (VB P b w')) := HI.out (by omega) (by omega)
  have zb : (b != b) = false := by simp
  clear hMM HS HI hx0 hx1 hx2 hx3 hr hlo hhi hs
  go_enter Tryz.func5, Tryz.ntmps5
  go_wp2_with fail
  refine (HS'.out w).mono ?_
  rintro e w1 ⟨⟨aw, cw, rfl, pw1, _, lw1⟩, hb1⟩
  go_wp2_with fail
  refine (HI'.out w1 (hK.below hb1)).mono ?_
  rintro e w2 ⟨⟨ag, cg, rfl, pg2, rg2, lg2⟩, hb2⟩
  have pw2 := pw1.below hb2
  have hw2 := hb1.trans (hb2.mono hb1.size)
  have lw2 : ∀ g off, aw = some ⟨g, off, none⟩ → g < w1.heap.size := fun g off e => (lw1 g off e).2
  have hge : w.heap.size ≤ w1.heap.size := hb1.size
  clear hb2 pw1 lw1
  have HE1 := HE.out ag cg aw cw w2 pg2 pw2
  have HI2 : Hid (∀ w', Below w.heap.size w w' → Calls Tryz.prog 17 #[.int .i64 n, .string root, .string lo, .string hi, .string s] w' (VB P b w')) := fun w' hb => HI'.out w' (hK.below hb)
  clear HI' HS' hK hb0
  go_upto_region 13 with (first | (go_at_call 18; refine HE1.mono ?_; rintro e w3 ⟨rfl, hb3⟩))
  have pw3 := pw2.below hb3
  have rg3 := rg2.below hb3
  have hw3 := hw2.trans (hb3.mono hw2.size)
  clear hb3 pw2 pg2 rg2 hw2 HE1
  have HM2 := markP_any M HM w1.heap.size P.length cg 1 ag _ w3 rg3 (Nat.le_refl _) (by omega)
  have HH2 : Hid (∀ w', PRow w' w1.heap.size ag P.length cg (marksV M 1 (P.length * 2)) → Calls Tryz.prog 20 #[.slice ag P.length cg, .int .i64 1] w' fun e w'' => e = .returned (.int .i64 ((1 + P.length * 2 : Nat) : Int)) ∧ Below w'.heap.size w' w'') := fun w' q => heldP_any M HM w1.heap.size P.length cg 1 ag w' q (Nat.le_refl _) (by omega)
  generalize marksV M 1 (P.length * 2) = mV at HM2 HH2
  obtain ⟨m, hm⟩ : ∃ m : Nat, 1 + P.length * 2 = m := ⟨_, rfl⟩
  rw [hm] at HM2 HH2
  have zm : decide ((m : Int) < 0) = false := by rw [decide_eq_false_iff_not]; omega
  have zm2 : ((m : Int) != (m : Int)) = false := by simp
  clear hm
  go_upto_region 15 with (first | (go_at_call 19; refine HM2.mono ?_; rintro e w4 ⟨rfl, rg4, hg4⟩))
  have hrow : ∀ q, (if P.length = 0 then none else (Value.slice ag P.length cg).ownBlock) = some q → w1.heap.size ≤ q := fun q hq => by
    by_cases h0 : P.length = 0
    · rw [if_pos h0] at hq; cases hq
    · rw [if_neg h0] at hq
      cases ag with
      | none => cases hq
      | some x =>
        obtain ⟨b, o, el⟩ := x
        rcases rg3 with h | ⟨g, e, hr⟩
        · exact absurd h h0
        · cases e; cases hq; exact hr.ge
  have hw4 : Below w.heap.size w w4 := hw3.grown hg4 hw3.size (fun q hq => by have := hrow q hq; omega)
  have pw4 := pw3.grown hg4 (fun b off e _ q => by have := lw2 b off e; have := hrow b q.symm; omega)
  clear pw3 rg3 hw3 hg4 HM2 hrow
  go_upto_region 21 with (first | (go_at_call 20; refine (HH2.out _ rg4).mono ?_; rintro e w5 ⟨rfl, hb5⟩))
  have pw5 := pw4.below hb5
  have hw5 := hw4.trans (hb5.mono hw4.size)
  clear hb5 pw4 rg4 hw4 HH2
  go_wp2_with fail
  refine (HI2.out w5 hw5).mono ?_
  rintro e w6 ⟨⟨ah, ch, rfl, ph6, _, _⟩, hb6⟩
  have pw6 := pw5.below hb6
  have hw6 := hw5.trans (hb6.mono hw5.size)
  clear hb6 pw5 hw5 HI2
  have HE3 := HE.out ah ch aw cw w6 ph6 pw6
  go_wp2_with (first | (go_at_call 18; refine HE3.mono ?_; rintro e w7 ⟨rfl, hb7⟩))
  go_ret
  exact ⟨rfl, hw6.trans (hb7.mono hw6.size)⟩
theorem law_verify (n : Int) (root lo hi s : ByteArray) (w : World) (hr : root.size ≤ maxLen) (hlo : lo.size ≤ maxLen) (hhi : hi.size ≤ maxLen) (hs : s.size ≤ maxLen)
    (hK : ∀ j, j < 64 → w.cell? ⟨0, j, none⟩ = some (.int .u32 ((kTab.getD j 0).toNat : Int))) :
    Calls Tryz.prog 5 #[.int .i64 n, .string root, .string lo, .string hi, .string s] w fun e w' => e = .returned (.bool true) ∧ Below w.heap.size w w' := by
  cases hR : accP n root lo hi s with
  | none =>
    refine law_vf n root lo hi s w hr hlo hhi hs hK [] false (by simp) ?_ ?_
    · intro q1 q2 q3 q4 w'
      refine (sverify_any n root lo hi s w' q1 q2 q3 q4).mono ?_
      rintro e w'' ⟨_, h2, hb⟩
      obtain ⟨a, he, ho⟩ := h2 hR
      rw [he]
      exact VB.of_own smallP_nil ho hb
    · intro q1 q2 w' hk
      refine (iverify_any n root lo hi s w' q1 q2 hk).mono ?_
      rintro e w'' ⟨_, h2, hb⟩
      rw [h2 hR]
      exact ⟨⟨none, 0, rfl, ⟨smallP_nil.1, smallP_nil.2, fun q => by cases q⟩, .inl rfl, fun g off e => by cases e⟩, hb⟩
  | some t =>
    obtain ⟨hsm, h5⟩ := shP_smallP lo hi hR
    refine law_vf n root lo hi s w hr hlo hhi hs hK (shP lo hi t) true h5 ?_ ?_
    · intro q1 q2 q3 q4 w'
      refine (sverify_any n root lo hi s w' q1 q2 q3 q4).mono ?_
      rintro e w'' ⟨h1, _, hb⟩
      obtain ⟨a, c, he, ho⟩ := h1 t hR
      rw [he]
      exact VB.of_own hsm ho hb
    · intro q1 q2 w' hk
      refine (iverify_any n root lo hi s w' q1 q2 hk).mono ?_
      rintro e w'' ⟨h1, _, hb⟩
      obtain ⟨a, c, he, ho⟩ := h1 t hR
      rw [he]
      exact VB.of_own hsm ho hb
end Go.Proofs.YtibjhkpgaaapaaaGreatDoor
namespace Go.Proofs.YtibjhkpgaaapaaaGreatDoor.fnExactVerify
open Go.ChangeShapes Go.WideShapes Go.ChangeAt Go.RowKit Go.Proofs.Sha
open Go.ChangeMaps (open_string shut_string)

theorem own : ownKnob Tryz.prog.godebug = none := by kernel_rfl
theorem gTab : Tryz.prog.globalNamed "loop.example/s03048/impl.roundWords" = some 0 := by kernel_rfl
theorem gTabType : (Tryz.prog.globals[0]?).map (·.type) = some 294 := by kernel_rfl
theorem cellsTab : Tryz.prog.cellsOf 294 = 64 := by kernel_rfl
theorem cellsEl : Tryz.prog.cellsOf 177 = 1 := by kernel_rfl
def zs : List Int := kTab.map fun x => (x.toNat : Int)

/-- What the row's list gives: the table's cells hold its numbers. -/
theorem table {W : World} (h : laidMetH Tryz.prog Rows.fnExactVerifyRow.laid W) : Lib.TabIs Tryz.prog W "loop.example/s03048/impl.roundWords" .u32 zs :=
  Lib.tabIs_of_head (rest := []) gTab gTabType Tryz.underlying294 Tryz.underlying177 cellsEl cellsTab h
theorem tabCells {W : World} (h : laidMetH Tryz.prog Rows.fnExactVerifyRow.laid W) : ∀ j, j < 64 → W.cell? ⟨0, j, none⟩ = some (.int .u32 ((kTab.getD j 0).toNat : Int)) := fun j hj => by
  have h1 := (table h).cell gTab j (by exact hj)
  rw [h1]
  unfold zs
  rw [List.getD_eq_getElem?_getD, List.getElem?_map, List.getD_eq_getElem?_getD, List.getElem?_eq_getElem (by exact hj)]; rfl

def dat {H : Type} : DataW H := .agg (zs.map fun z => .lit (.int .u32 z))
/-- The table reads as itself, in whatever world. -/
theorem trod_tab {H : Type} (enc : TypeId × Value → H) (W : World) (sp : Nat → Bool) (hd : Bool) (n : Nat) : DataW.trod enc Tryz.prog W 0 sp hd (n + 2) 294 (kTab.map U) = some (dat, []) := by kernel_rfl
theorem trod_tab1 {H : Type} (enc : TypeId × Value → H) (W : World) (sp : Nat → Bool) (hd : Bool) : DataW.trod enc Tryz.prog W 0 sp hd 1 294 (kTab.map U) = none := by kernel_rfl

set_option maxRecDepth 100000 in
theorem contract (H : Type) (enc : TypeId × Value → H) (W : World) (base : Nat) (args : Array Value) (ds gs : List (DataW H)) (before : List MemPlace)
    (hval : ∀ (j : Nat) t v, Tryz.f5.params[j]? = some t → args[j]? = some v → Value.okWide Tryz.prog W .any base t v)
    (hW : DataW.Whole enc Tryz.prog Tryz.f5.params.toList Rows.fnExactVerifySpec.vars false W args.toList ds gs before) (hL : laidMetH Tryz.prog Rows.fnExactVerifyRow.laid W) :
    Calls Tryz.prog 5 args W fun e W' => ∃ v, e = .returned v ∧ Rows.fnExactVerifySpec.post enc Tryz.prog Tryz.f5 false true false false W args v W' := by
  have hW' := hW
  obtain ⟨p, q, hA0, hV, rfl, hfz, hnd⟩ := hW
  have hA : DataW.TrodAll enc Tryz.prog W 0 (fun _ => true) true Tryz.f5.params.toList args.toList ds p := hA0
  rw [Tryz.params5] at hA hval
  obtain ⟨v0, vs0, d0, ds0, p0, q0, hargs, rfl, rfl, h0, r0⟩ := trodAll_cons hA
  obtain ⟨v1, vs1, d1, ds1, p1, q1, rfl, rfl, rfl, h1, r1⟩ := trodAll_cons r0
  obtain ⟨v2, vs2, d2, ds2, p2, q2, rfl, rfl, rfl, h2, r2⟩ := trodAll_cons r1
  obtain ⟨v3, vs3, d3, ds3, p3, q3, rfl, rfl, rfl, h3, r3⟩ := trodAll_cons r2
  obtain ⟨v4, vs4, d4, ds4, p4, q4, rfl, rfl, rfl, h4, r4⟩ := trodAll_cons r3
  obtain ⟨rfl, rfl, rfl⟩ := trodAll_nil r4
  obtain rfl : args = #[v0, v1, v2, v3, v4] := by cases args; simp_all
  obtain ⟨k0, rfl, rfl, rfl, wk0⟩ := open_int Tryz.underlying3 (hval 0 3 v0 rfl rfl) h0
  obtain ⟨s1, rfl, rfl, rfl, hs1⟩ := open_string Tryz.underlying9 (hval 1 9 v1 rfl rfl) h1
  obtain ⟨s2, rfl, rfl, rfl, hs2⟩ := open_string Tryz.underlying9 (hval 2 9 v2 rfl rfl) h2
  obtain ⟨s3, rfl, rfl, rfl, hs3⟩ := open_string Tryz.underlying9 (hval 3 9 v3 rfl rfl) h3
  obtain ⟨s4, rfl, rfl, rfl, hs4⟩ := open_string Tryz.underlying9 (hval 4 9 v4 rfl rfl) h4
  obtain ⟨g, t, cs, fuel, d, p', rfl, hg, ht, hvar, hd, rfl⟩ := trodVars_one hV
  obtain rfl := Option.some.inj (gTab.symm.trans hg)
  obtain rfl := Option.some.inj (gTabType.symm.trans ht)
  have hcs : cs = (kTab.map U).toArray := Option.some.inj (hvar.symm.trans (table hL))
  subst hcs
  have hdd : d = dat ∧ p' = [] := by
    match fuel, hd with
    | 0, hd => simp [DataW.trod] at hd
    | 1, hd => rw [show (kTab.map U).toArray.toList = kTab.map U from rfl, trod_tab1] at hd; cases hd
    | n + 2, hd =>
      rw [show (kTab.map U).toArray.toList = kTab.map U from rfl, trod_tab] at hd
      cases hd
      exact ⟨rfl, rfl⟩
  obtain ⟨rfl, rfl⟩ := hdd
  have hcells := tabCells hL
  have hl0 : 0 < W.heap.size := World.block_lt_of_cell? W _ (hcells 0 (by omega))
  clear hA0
  refine (law_verify k0 s1 s2 s3 s4 W hs1 hs2 hs3 hs4 hcells).mono fun e W' ⟨he, hb⟩ => ?_
  subst he
  have hvar' : W'.var? Tryz.prog "loop.example/s03048/impl.roundWords" = some (kTab.map U).toArray := by
    unfold World.var? at hvar ⊢
    simp only [gTab, Option.bind_some] at hvar ⊢
    rw [hb.block 0 hl0]
    exact hvar
  exact ⟨_, rfl, ⟨_, _, _, [], [], MemPlace.row ⟨0, 0, none⟩ (kTab.map U).toArray.size ++ [], hW', trodAll_cons_mk (shut_bool Tryz.underlying4 _) trodAll_mk0, trodAll_cons_mk (shut_int Tryz.underlying3 wk0) (trodAll_cons_mk (shut_string Tryz.underlying9 hs1) (trodAll_cons_mk (shut_string Tryz.underlying9 hs2) (trodAll_cons_mk (shut_string Tryz.underlying9 hs3) (trodAll_cons_mk (shut_string Tryz.underlying9 hs4) trodAll_mk0)))),
    trodVars_mk1 (fuel := 2) gTab gTabType hvar' (trod_tab enc W' _ _ 0), hb.frame _, fun h => by cases h⟩⟩

theorem laid_met (os : Os) : laidMet Tryz.prog Rows.fnExactVerifyRow.laid (World.forCall ({ World.holding Tryz.prog os ⟨#[], #[], []⟩ with heap := (World.holding Tryz.prog os ⟨#[], #[], []⟩).heap.modify 0 fun | .cells _ t frozen => .cells (kTab.map U).toArray t frozen | o => o }) (fun _ _ => 0) ⟨#[], #[.int .i64 0, .string ByteArray.empty, .string ByteArray.empty, .string ByteArray.empty, .string ByteArray.empty], []⟩).memory :=
  laidMet_of_run' 8 (by kernel_rfl) (by kernel_rfl)
theorem reads (os : Os) {H : Type} (enc : TypeId × Value → H) : ∃ places, DataW.whole enc Tryz.prog (World.forCall ({ World.holding Tryz.prog os ⟨#[], #[], []⟩ with heap := (World.holding Tryz.prog os ⟨#[], #[], []⟩).heap.modify 0 fun | .cells _ t frozen => .cells (kTab.map U).toArray t frozen | o => o }) (fun _ _ => 0) ⟨#[], #[.int .i64 0, .string ByteArray.empty, .string ByteArray.empty, .string ByteArray.empty, .string ByteArray.empty], []⟩).memory Tryz.f5.params.toList Rows.fnExactVerifySpec.vars false #[Value.int .i64 0, Value.string ByteArray.empty, Value.string ByteArray.empty, Value.string ByteArray.empty, Value.string ByteArray.empty].toList 8 = some ([.lit (.int .i64 0), .lit (.string []), .lit (.string []), .lit (.string []), .lit (.string [])], [dat], places) :=
  ⟨MemPlace.row ⟨0, 0, none⟩ 64, by kernel_rfl⟩

set_option maxRecDepth 100000 in
theorem lifted (os : Os) (started : os.Started) (H : Type) (enc : TypeId × Value → H) (F : Stop.Interp) :
    ReturnsInHanded {} Tryz.checked os 5 .any ((OpenSpec.ofChange Rows.fnExactVerifySpec).preRow enc Tryz.prog Tryz.f5 Rows.fnExactVerifyRow.domain false Rows.fnExactVerifyRow.laid) (((OpenSpec.ofChange Rows.fnExactVerifySpec).at F).post enc Tryz.prog Tryz.f5 false true false false) := by
  obtain ⟨places, hx⟩ := reads os enc
  refine returnsInHanded_of_row (C := Tryz.checked) (s := OpenSpec.ofChange Rows.fnExactVerifySpec) own started (by kernel_rfl) Tryz.func5
    (witness_row_at (enc := enc) (C := Tryz.checked) false ({ World.holding Tryz.prog os ⟨#[], #[], []⟩ with heap := (World.holding Tryz.prog os ⟨#[], #[], []⟩).heap.modify 0 fun | .cells _ t frozen => .cells (kTab.map U).toArray t frozen | o => o }) #[.int .i64 0, .string ByteArray.empty, .string ByteArray.empty, .string ByteArray.empty, .string ByteArray.empty] rfl (by kernel_rfl) (by kernel_rfl) (by kernel_rfl)
      (OpenSpec.preRow_of_cond 8 hx (by kernel_rfl) (fun k hk => by cases hk) (by kernel_rfl) (laid_met os))) ?_
  intro W base args ds gs before hval hW _ _ _ hL _ _
  exact contract H enc W base args ds gs before hval hW hL

theorem said : Rows.FnExactVerifySaid :=
  OpenClaim.holds_of_cond 5 Tryz.f5 rfl rfl rfl rfl rfl rfl rfl ⟨rfl, rfl, rfl, rfl, rfl⟩ rfl rfl rfl rfl rfl (by kernel_rfl) Tryz.func5 (by kernel_rfl)
    (of_decide_eq_true (by kernel_rfl)) (by unfold Func.isWrapper; first | (rw [if_pos (by decide +kernel)]; kernel_rfl) | (rw [if_neg (by decide +kernel)]; exact ⟨rfl, rfl⟩))
    (fun os started H enc _ F => by rw [OpenClaim.pre_eq_preRow]; exact lifted os started H enc F)

theorem plain (f : FuncId) (fn : Func) (hf : Tryz.pinned.checked.prog.funcNamed "loop.example/s03048/laws.FnExactVerify" = some f) (hfn : Tryz.pinned.checked.prog.funcs[f]? = some fn) :
    true = Tryz.pinned.checked.prog.looks [] ∧ ∀ (j : Nat) t, fn.params[j]? = some t → Tryz.pinned.checked.prog.wantsStandIn t = false := by
  obtain rfl : f = 5 := Option.some.inj ((show Tryz.prog.funcNamed "loop.example/s03048/laws.FnExactVerify" = some 5 by kernel_rfl).symm.trans hf) |>.symm
  obtain rfl : fn = Tryz.f5 := (Option.some.inj (Tryz.func5.symm.trans hfn)).symm
  refine ⟨by kernel_rfl, fun j t ht => ?_⟩
  rw [Tryz.params5] at ht
  have hm : t ∈ [3, 9, 9, 9, 9] := by simpa using Array.mem_of_getElem? ht
  have hall : ([3, 9, 9, 9, 9].all fun u => !Tryz.prog.wantsStandIn u) = true := by kernel_rfl
  exact (show Tryz.prog.wantsStandIn t = false by simpa using List.all_eq_true.1 hall t hm)
end Go.Proofs.YtibjhkpgaaapaaaGreatDoor.fnExactVerify

namespace Go.Proofs.YtibjhkpgaaapaaaGreatDoor
/-- The card. -/
theorem fnExactVerify_card : Rows.FnExactVerifyCardSaid :=
  Claim7.holds_tied_plain_at .later [] _ _ _ _ fnExactVerify.said (fun _ h => by cases h) (by kernel_rfl) (fun _ h => by cases h) fnExactVerify_row_tie rfl ⟨rfl, rfl⟩ (by kernel_rfl) rfl fnExactVerify.plain (by kernel_rfl)
#print axioms fnExactVerify_card
end Go.Proofs.YtibjhkpgaaapaaaGreatDoor
