import Derived.Test.YthklibioolnggaaGreatDoorAw
namespace Go.Proofs.YthklibioolnggaaGreatDoor
open Go.RowKit Go.Proofs.Sha

/-- The words' places: the map's and the model's agree. -/
theorem kNames_tab : kNames.map (fun b => b.data.toList) = kindTab.map (·.1) := by decide
theorem kShapes_len : kShapes.length = 13 := rfl
theorem kNames_len : kNames.length = 13 := rfl
theorem findS_go (k : ByteArray) : ∀ (ks : List ByteArray) (vs : List Value) (tb : List (List UInt8 × List UInt8)) (i : Nat), ks.map (fun b => b.data.toList) = tb.map (·.1) → vs.length = ks.length →
    findS k ks vs i = (tb.findIdx? fun p => p.1 == k.data.toList).bind fun q => (vs[q]?).map fun v => (i + q, v)
  | [], vs, tb, i, h, _ => by
    cases tb with
    | nil => cases vs <;> rfl
    | cons => simp at h
  | x :: r, [], tb, i, _, h => by simp at h
  | x :: r, v :: s, [], i, h, _ => by simp at h
  | x :: r, v :: s, p :: q, i, h, hl => by
    simp only [List.map_cons, List.cons.injEq] at h
    rw [findS, List.findIdx?_cons]
    by_cases hk : k = x
    · subst hk
      rw [if_pos rfl, ← h.1]; simp
    · have hne : (p.1 == k.data.toList) = false := by
        rw [beq_eq_false_iff_ne, ← h.1]; exact fun e => hk (bs_eq.1 e.symm)
      rw [if_neg hk, hne, findS_go k r s q (i + 1) h.2 (by simpa using hl)]
      cases q.findIdx? (fun p => p.1 == k.data.toList) with
      | none => rfl
      | some z => simp [Nat.add_comm, Nat.add_left_comm]
theorem kindOf_lt {l : List UInt8} {k : Nat} (h : kindOf l = some k) : k < 13 := by
  have := (List.findIdx?_eq_some_iff_findIdx_eq.1 h).1
  exact this
theorem find_kind (k : ByteArray) (gs : List Nat) (hg : gs.length = 13) : findS k kNames ((kShapes.zip gs).map fun p => kindV p.1 p.2) 0 = (kindOf k.data.toList).map fun q => (q, kindV (kShapes.getD q ⟨#[]⟩) (gs.getD q 0)) := by
  rw [findS_go k kNames _ kindTab 0 kNames_tab (by simp [kShapes_len, kNames_len, hg])]
  show (kindOf k.data.toList).bind _ = _
  cases hk : kindOf k.data.toList with
  | none => rfl
  | some q =>
    have hq := kindOf_lt hk
    simp only [Option.bind_some, Option.map_some, List.getElem?_map, Nat.zero_add]
    rw [List.getElem?_eq_getElem (by simp [kShapes_len, hg]; omega), List.getElem_zip]
    simp only [Option.map_some, List.getD_eq_getElem?_getD]
    rw [List.getElem?_eq_getElem (by rw [kShapes_len]; exact hq), List.getElem?_eq_getElem (by rw [hg]; exact hq)]
    rfl
theorem shape_both (k : Nat) (hk : k < 13) (n : Nat) : shI (kShapes.getD k ⟨#[]⟩) n = shapeAt k n := by
  unfold shI shapeAt
  have h : ∀ k, k < 13 → ((kShapes.getD k ⟨#[]⟩).data.toList = [110, 42] ↔ shapeOf k = [42]) ∧ (shapeOf k ≠ [42] → (kShapes.getD k ⟨#[]⟩).data.toList = shapeOf k) := by decide
  obtain ⟨h1, h2⟩ := h k hk
  by_cases h3 : shapeOf k = [42]
  · rw [if_pos (h1.2 h3), if_pos h3]
  · rw [if_neg (fun e => h3 (h1.1 e)), if_neg h3, h2 h3]
theorem shape_small (k : Nat) (hk : k < 13) : (kShapes.getD k ⟨#[]⟩).size ≤ 10 := by
  have h : ∀ k, k < 13 → (kShapes.getD k ⟨#[]⟩).size ≤ 10 := by decide
  exact h k hk
theorem cf_any (k : Nat) (hk : k < 13) (x : Array Value) (W : World) : (callFunc (35 + k) x).run Tryz.prog W = .ok (.enter (35 + k) x) W := by
  have h : ∀ k, k < 13 → ∃ fn, Tryz.prog.funcs[35 + k]? = some fn ∧ (fn.name == "runtime.NumGoroutine") = false ∧ fn.body.isNone = false := by
    intro k hk
    match k, hk with
    | 0, _ => exact ⟨Tryz.f35, by kernel_rfl, by kernel_rfl, by kernel_rfl⟩
    | 1, _ => exact ⟨Tryz.f36, by kernel_rfl, by kernel_rfl, by kernel_rfl⟩
    | 2, _ => exact ⟨Tryz.f37, by kernel_rfl, by kernel_rfl, by kernel_rfl⟩
    | 3, _ => exact ⟨Tryz.f38, by kernel_rfl, by kernel_rfl, by kernel_rfl⟩
    | 4, _ => exact ⟨Tryz.f39, by kernel_rfl, by kernel_rfl, by kernel_rfl⟩
    | 5, _ => exact ⟨Tryz.f40, by kernel_rfl, by kernel_rfl, by kernel_rfl⟩
    | 6, _ => exact ⟨Tryz.f41, by kernel_rfl, by kernel_rfl, by kernel_rfl⟩
    | 7, _ => exact ⟨Tryz.f42, by kernel_rfl, by kernel_rfl, by kernel_rfl⟩
    | 8, _ => exact ⟨Tryz.f43, by kernel_rfl, by kernel_rfl, by kernel_rfl⟩
    | 9, _ => exact ⟨Tryz.f44, by kernel_rfl, by kernel_rfl, by kernel_rfl⟩
    | 10, _ => exact ⟨Tryz.f45, by kernel_rfl, by kernel_rfl, by kernel_rfl⟩
    | 11, _ => exact ⟨Tryz.f46, by kernel_rfl, by kernel_rfl, by kernel_rfl⟩
    | 12, _ => exact ⟨Tryz.f47, by kernel_rfl, by kernel_rfl, by kernel_rfl⟩
  obtain ⟨fn, h1, h2, h3⟩ := h k hk
  unfold callFunc
  have hp : (program).run Tryz.prog W = .ok Tryz.prog W := rfl
  simp only [Sem.run_bind, hp, Result.andThen_ok, h1, h2, h3]
  rfl
/-- Where the picks of an operation lie. -/
def aoK (k : Nat) (an : Option Addr) : Option Addr := if k = 11 then an else none
def coK (k cn : Nat) : Nat := if k = 11 then cn else 0
def opV2 (o : OpT) (ao : Option Addr) (co : Nat) : Value := .agg #[.int .i64 (o.kind : Int), .string o.key, .string o.val, .int .i64 o.n, .int .i64 o.m, .slice ao o.picks.length co]
theorem opfn_any (k : Nat) (hk : k < 13) (ts : List ByteArray) (ha : allT (shapeAt k ts.length) ts = true) (ws : List ByteArray) (hws : wordsT (shapeAt k ts.length) ts = ws) (ns : List Int) (hns : numsT (shapeAt k ts.length) ts = ns) (aw : Option Addr) (cw : Nat) (an : Option Addr) (cn : Nat) (W : World) (hT : TArg aw ws W) (hI : IArg an ns W) :
    Calls Tryz.prog (35 + k) #[.agg #[.slice aw ws.length cw, .slice an ns.length cn]] W fun e w' => e = .returned (opV2 (mkOp k ws ns) (aoK k an) (coK k cn)) ∧ Below W.heap.size W w' := by
  have hl := all_len ha
  match k, hk with
  | 0, _ =>
    have e : shapeAt 0 ts.length = [] := by simp [shapeAt, shapeOf, kindTab]
    rw [e] at hl hws hns
    match ts, hl, hws, hns with
    | [], _, hws, hns =>
      simp [wordsT] at hws
      simp [numsT] at hns
      subst hws hns
      exact (fn_open _ _ aw cw an cn W hT hI rfl rfl).mono (by rintro e w' ⟨rfl, hb⟩; exact ⟨rfl, hb⟩)
  | 1, _ =>
    have e : shapeAt 1 ts.length = [119, 119] := by simp [shapeAt, shapeOf, kindTab]
    rw [e] at hl hws hns
    match ts, hl, hws, hns with
    | [t0, t1], _, hws, hns =>
      simp [wordsT] at hws
      simp [numsT] at hns
      subst hws hns
      exact (fn_put _ _ aw cw an cn W hT hI rfl rfl).mono (by rintro e w' ⟨rfl, hb⟩; exact ⟨rfl, hb⟩)
  | 2, _ =>
    have e : shapeAt 2 ts.length = [119] := by simp [shapeAt, shapeOf, kindTab]
    rw [e] at hl hws hns
    match ts, hl, hws, hns with
    | [t0], _, hws, hns =>
      simp [wordsT] at hws
      simp [numsT] at hns
      subst hws hns
      exact (fn_del _ _ aw cw an cn W hT hI rfl rfl).mono (by rintro e w' ⟨rfl, hb⟩; exact ⟨rfl, hb⟩)
  | 3, _ =>
    have e : shapeAt 3 ts.length = [119] := by simp [shapeAt, shapeOf, kindTab]
    rw [e] at hl hws hns
    match ts, hl, hws, hns with
    | [t0], _, hws, hns =>
      simp [wordsT] at hws
      simp [numsT] at hns
      subst hws hns
      exact (fn_get _ _ aw cw an cn W hT hI rfl rfl).mono (by rintro e w' ⟨rfl, hb⟩; exact ⟨rfl, hb⟩)
  | 4, _ =>
    have e : shapeAt 4 ts.length = [119, 119] := by simp [shapeAt, shapeOf, kindTab]
    rw [e] at hl hws hns
    match ts, hl, hws, hns with
    | [t0, t1], _, hws, hns =>
      simp [wordsT] at hws
      simp [numsT] at hns
      subst hws hns
      exact (fn_range _ _ aw cw an cn W hT hI rfl rfl).mono (by rintro e w' ⟨rfl, hb⟩; exact ⟨rfl, hb⟩)
  | 5, _ =>
    have e : shapeAt 5 ts.length = [] := by simp [shapeAt, shapeOf, kindTab]
    rw [e] at hl hws hns
    match ts, hl, hws, hns with
    | [], _, hws, hns =>
      simp [wordsT] at hws
      simp [numsT] at hns
      subst hws hns
      exact (fn_commit _ _ aw cw an cn W hT hI rfl rfl).mono (by rintro e w' ⟨rfl, hb⟩; exact ⟨rfl, hb⟩)
  | 6, _ =>
    have e : shapeAt 6 ts.length = [110] := by simp [shapeAt, shapeOf, kindTab]
    rw [e] at hl hws hns
    match ts, hl, hws, hns with
    | [t0], _, hws, hns =>
      simp [wordsT] at hws
      simp [numsT] at hns
      subst hws hns
      exact (fn_checkout _ _ aw cw an cn W hT hI rfl rfl).mono (by rintro e w' ⟨rfl, hb⟩; exact ⟨rfl, hb⟩)
  | 7, _ =>
    have e : shapeAt 7 ts.length = [] := by simp [shapeAt, shapeOf, kindTab]
    rw [e] at hl hws hns
    match ts, hl, hws, hns with
    | [], _, hws, hns =>
      simp [wordsT] at hws
      simp [numsT] at hns
      subst hws hns
      exact (fn_versions _ _ aw cw an cn W hT hI rfl rfl).mono (by rintro e w' ⟨rfl, hb⟩; exact ⟨rfl, hb⟩)
  | 8, _ =>
    have e : shapeAt 8 ts.length = [110, 119, 119] := by simp [shapeAt, shapeOf, kindTab]
    rw [e] at hl hws hns
    match ts, hl, hws, hns with
    | [t0, t1, t2], _, hws, hns =>
      simp [wordsT] at hws
      simp [numsT] at hns
      subst hws hns
      exact (fn_prove _ _ aw cw an cn W hT hI rfl rfl).mono (by rintro e w' ⟨rfl, hb⟩; exact ⟨rfl, hb⟩)
  | 9, _ =>
    have e : shapeAt 9 ts.length = [110, 110] := by simp [shapeAt, shapeOf, kindTab]
    rw [e] at hl hws hns
    match ts, hl, hws, hns with
    | [t0, t1], _, hws, hns =>
      simp [wordsT] at hws
      simp [numsT] at hns
      subst hws hns
      exact (fn_diff _ _ aw cw an cn W hT hI rfl rfl).mono (by rintro e w' ⟨rfl, hb⟩; exact ⟨rfl, hb⟩)
  | 10, _ =>
    have e : shapeAt 10 ts.length = [] := by simp [shapeAt, shapeOf, kindTab]
    rw [e] at hl hws hns
    match ts, hl, hws, hns with
    | [], _, hws, hns =>
      simp [wordsT] at hws
      simp [numsT] at hns
      subst hws hns
      exact (fn_close _ _ aw cw an cn W hT hI rfl rfl).mono (by rintro e w' ⟨rfl, hb⟩; exact ⟨rfl, hb⟩)
  | 11, _ => exact (fn_crash ws ns aw cw an cn W hT hI).mono (by rintro e w' ⟨rfl, hb⟩; exact ⟨rfl, hb⟩)
  | 12, _ =>
    have e : shapeAt 12 ts.length = [110] := by simp [shapeAt, shapeOf, kindTab]
    rw [e] at hl hws hns
    match ts, hl, hws, hns with
    | [t0], _, hws, hns =>
      simp [wordsT] at hws
      simp [numsT] at hns
      subst hws hns
      exact (fn_fuel _ _ aw cw an cn W hT hI rfl rfl).mono (by rintro e w' ⟨rfl, hb⟩; exact ⟨rfl, hb⟩)

/-- What is to come of the lines from the j-th on. -/
def contS (L : List ByteArray) : Nat → Int → Int → List OpT → ScT
  | 0, _, _, _ => match headV [119, 105, 100, 116, 104] 87 L[0]? with
    | none => badS 2
    | some wd => match headV [99, 97, 112] 67 L[1]? with
      | none => badS 3
      | some cap => if (opsR 0 (L.drop 2) []).1 = 0 then ⟨0, wd, cap, (opsR 0 (L.drop 2) []).2⟩ else badS (opsR 0 (L.drop 2) []).1
  | 1, wd, _, _ => match headV [99, 97, 112] 67 L[1]? with
      | none => badS 3
      | some cap => if (opsR 0 (L.drop 2) []).1 = 0 then ⟨0, wd, cap, (opsR 0 (L.drop 2) []).2⟩ else badS (opsR 0 (L.drop 2) []).1
  | j + 2, wd, cap, es => if (opsR j (L.drop (j + 2)) es).1 = 0 then ⟨0, wd, cap, (opsR j (L.drop (j + 2)) es).2⟩ else badS (opsR j (L.drop (j + 2)) es).1
theorem contS_begin (t : ByteArray) (h : ¬ 60000 < t.size) : parseR t = contS (linesV t) 0 0 0 [] := by rw [parseR, if_neg h, contS]; rfl
theorem contS_short {L : List ByteArray} {j : Nat} {wd cap : Int} {es : List OpT} (hj : j < 2) (h : L.length ≤ j) : contS L j wd cap es = badS ((j + 2 : Nat) : Int) := by
  match j, hj with
  | 0, _ => rw [contS, List.getElem?_eq_none h]; rfl
  | 1, _ => rw [contS, List.getElem?_eq_none h]; rfl
theorem contS_many {L : List ByteArray} {j : Nat} {wd cap : Int} {es : List OpT} (hj : j = 1002) (h : j < L.length) : contS L j wd cap es = badS ((j + 2 : Nat) : Int) := by
  subst hj
  rw [contS, List.drop_eq_getElem_cons h, opsR, if_pos rfl]; rfl
theorem contS_done {L : List ByteArray} {j : Nat} {wd cap : Int} {es : List OpT} (hj : 2 ≤ j) (h : L.length ≤ j) : contS L j wd cap es = ⟨0, wd, cap, es⟩ := by
  obtain ⟨q, rfl⟩ : ∃ q, j = q + 2 := ⟨j - 2, by omega⟩
  rw [contS, List.drop_eq_nil_of_le h, opsR]; rfl
theorem contS_op {L : List ByteArray} {j : Nat} {wd cap : Int} {es : List OpT} {x : ByteArray} (hx : L[j + 2]? = some x) (hj : j < 1000) : contS L (j + 2) wd cap es = match lineOp x with
    | none => badS ((j + 4 : Nat) : Int)
    | some o => contS L (j + 3) wd cap (es ++ [o]) := by
  obtain ⟨h1, h2⟩ := List.getElem?_eq_some_iff.1 hx
  have e : opsR j (L.drop (j + 2)) es = match lineOp x with
    | none => (((j + 4 : Nat) : Int), [])
    | some o => opsR (j + 1) (L.drop (j + 2 + 1)) (es ++ [o]) := by rw [List.drop_eq_getElem_cons h1, opsR, if_neg (show ¬ j = 1000 by omega), h2]; rfl
  rw [contS, e]
  cases lineOp x with
  | none =>
    show (if ((j + 4 : Nat) : Int) = 0 then _ else badS ((j + 4 : Nat) : Int)) = _
    rw [if_neg (by omega)]
  | some o =>
    show _ = contS L (j + 1 + 2) wd cap (es ++ [o])
    rw [contS]
theorem headV_tail (word : List UInt8) (c : UInt8) (hc : c ≠ 119) (x : ByteArray) (ts : List ByteArray) (hts : (cutB 32 x).tail = ts) (hw : ((cutB 32 x).getD 0 ⟨#[]⟩).data.toList = word) : headV word c (some x) = if allT [c] ts = true then some ((numsT [c] ts).getD 0 0) else none := by
  have hne := cutB_ne 32 x
  simp only [headV]
  cases hP : cutB 32 x with
  | nil => rw [hP] at hne; simp at hne
  | cons p r =>
    rw [hP] at hts hw
    simp only [List.tail_cons] at hts
    subst hts
    match r with
    | [] => simp [allT]
    | [t] =>
      have hw' : p.data.toList = word := hw
      simp [allT, numsT, hc, hw']
    | t :: u :: v => simp [allT]
theorem headV_other (word : List UInt8) (c : UInt8) (x : ByteArray) (hw : ((cutB 32 x).getD 0 ⟨#[]⟩).data.toList ≠ word) : headV word c (some x) = none := by
  simp only [headV]
  rw [if_neg (fun h => hw h.2.1)]

/-- What a line's entering leaves. -/
def StepPost (L : List ByteArray) (j base s : Nat) (wd cap : Int) (es : List OE) (w : World) (b : Bool) (e : Ending) (w' : World) : Prop :=
  e = .returned (.bool b) ∧ ((b = true ∧ ∃ wd' cap' es' a' c', contS L j wd cap (es.map (·.1)) = contS L (j + 1) wd' cap' (es'.map (·.1)) ∧ ScAt base s wd' cap' es' a' c' w' ∧ es'.length = j + 1 - 2 ∧ Kp base s w w')
  ∨ (b = false ∧ contS L j wd cap (es.map (·.1)) = badS ((j + 2 : Nat) : Int) ∧ Kp base s w w'))

theorem enter0_any (L : List ByteArray) (x : ByteArray) (base s r : Nat) (wd cap : Int) (a : Option Addr) (c : Nat) (w : World) (hE : Env w) (hM : MapS r [⟨#[119, 105, 100, 116, 104]⟩] [headK 87 24] w) (hS : ScAt base s wd cap [] a c w) (hx : L[0]? = some x) (hz : x.size ≤ 1048576) (hb : base ≤ w.heap.size) :
    ∃ b, Calls Tryz.prog 15 #[.pointer (some ⟨s, 0, none⟩), .map (some r), .string x] w (StepPost L 0 base s wd cap [] w b) := by
  by_cases hw : (cutB 32 x).getD 0 ⟨#[]⟩ = ⟨#[119, 105, 100, 116, 104]⟩
  · have hf : findS ((cutB 32 x).getD 0 ⟨#[]⟩) [⟨#[119, 105, 100, 116, 104]⟩] [headK 87 24] 0 = some (0, headK 87 24) := by rw [findS, if_pos hw]
    have hv := headV_tail [119, 105, 100, 116, 104] 87 (by decide) x _ rfl (by rw [hw])
    refine ⟨allT [87] (cutB 32 x).tail, (enter_width s r _ _ 0 ⟨#[87]⟩ x w (fun W => ScAt base s ((numsT [87] (cutB 32 x).tail).getD 0 0) cap [] a c W ∧ Kp base s w W) hE hM hz (by decide) hf _ rfl [87] (by rfl) _ rfl _ rfl (fun W aw cw an cn hal hbW how hon => ?_)).mono ?_⟩
    · refine (fn_width base s wd cap [] a c aw _ cw _ an cn W (hS.below hbW) (OwnV.iarg ⟨hon, hbW⟩) ?_ (Nat.le_trans hb hbW.size)).mono ?_
      · generalize (cutB 32 x).tail = ts at hal
        match ts with
        | [] => cases hal
        | [t] => rfl
        | t :: u :: v => simp [allT] at hal
      · rintro e w' ⟨rfl, h1, h2⟩
        exact ⟨rfl, h1, (Kp.of (hbW.mono hb)).trans h2⟩
    · rintro e w' (⟨hal, rfl, h1, h2⟩ | ⟨hal, rfl, h2⟩)
      · refine ⟨by rw [hal], .inl ⟨hal, _, _, [], a, c, ?_, h1, rfl, h2⟩⟩
        rw [if_pos hal] at hv
        rw [contS, hx, hv]; rfl
      · refine ⟨by rw [hal], .inr ⟨hal, ?_, Kp.of (h2.mono hb)⟩⟩
        rw [if_neg (by rw [hal]; simp)] at hv
        rw [contS, hx, hv]; rfl
  · have hf : findS ((cutB 32 x).getD 0 ⟨#[]⟩) [⟨#[119, 105, 100, 116, 104]⟩] [headK 87 24] 0 = none := by rw [findS, if_neg hw]; rfl
    refine ⟨false, (enter_none s r _ _ x w hE hM hz hf).mono ?_⟩
    rintro e w' ⟨rfl, h2⟩
    refine ⟨rfl, .inr ⟨rfl, ?_, Kp.of (h2.mono hb)⟩⟩
    rw [contS, hx, headV_other _ _ _ (fun e => hw (bs_eq.1 e))]; rfl
theorem enter1_any (L : List ByteArray) (x : ByteArray) (base s r : Nat) (wd cap : Int) (a : Option Addr) (c : Nat) (w : World) (hE : Env w) (hM : MapS r [⟨#[99, 97, 112]⟩] [headK 67 25] w) (hS : ScAt base s wd cap [] a c w) (hx : L[1]? = some x) (hz : x.size ≤ 1048576) (hb : base ≤ w.heap.size) :
    ∃ b, Calls Tryz.prog 15 #[.pointer (some ⟨s, 0, none⟩), .map (some r), .string x] w (StepPost L 1 base s wd cap [] w b) := by
  by_cases hw : (cutB 32 x).getD 0 ⟨#[]⟩ = ⟨#[99, 97, 112]⟩
  · have hf : findS ((cutB 32 x).getD 0 ⟨#[]⟩) [⟨#[99, 97, 112]⟩] [headK 67 25] 0 = some (0, headK 67 25) := by rw [findS, if_pos hw]
    have hv := headV_tail [99, 97, 112] 67 (by decide) x _ rfl (by rw [hw])
    refine ⟨allT [67] (cutB 32 x).tail, (enter_cap s r _ _ 0 ⟨#[67]⟩ x w (fun W => ScAt base s wd ((numsT [67] (cutB 32 x).tail).getD 0 0) [] a c W ∧ Kp base s w W) hE hM hz (by decide) hf _ rfl [67] (by rfl) _ rfl _ rfl (fun W aw cw an cn hal hbW how hon => ?_)).mono ?_⟩
    · refine (fn_cap base s wd cap [] a c aw _ cw _ an cn W (hS.below hbW) (OwnV.iarg ⟨hon, hbW⟩) ?_ (Nat.le_trans hb hbW.size)).mono ?_
      · generalize (cutB 32 x).tail = ts at hal
        match ts with
        | [] => cases hal
        | [t] => rfl
        | t :: u :: v => simp [allT] at hal
      · rintro e w' ⟨rfl, h1, h2⟩
        exact ⟨rfl, h1, (Kp.of (hbW.mono hb)).trans h2⟩
    · rintro e w' (⟨hal, rfl, h1, h2⟩ | ⟨hal, rfl, h2⟩)
      · refine ⟨by rw [hal], .inl ⟨hal, _, _, [], a, c, ?_, h1, rfl, h2⟩⟩
        rw [if_pos hal] at hv
        rw [contS, hx, hv]; rfl
      · refine ⟨by rw [hal], .inr ⟨hal, ?_, Kp.of (h2.mono hb)⟩⟩
        rw [if_neg (by rw [hal]; simp)] at hv
        rw [contS, hx, hv]; rfl
  · have hf : findS ((cutB 32 x).getD 0 ⟨#[]⟩) [⟨#[99, 97, 112]⟩] [headK 67 25] 0 = none := by rw [findS, if_neg hw]; rfl
    refine ⟨false, (enter_none s r _ _ x w hE hM hz hf).mono ?_⟩
    rintro e w' ⟨rfl, h2⟩
    refine ⟨rfl, .inr ⟨rfl, ?_, Kp.of (h2.mono hb)⟩⟩
    rw [contS, hx, headV_other _ _ _ (fun e => hw (bs_eq.1 e))]; rfl
theorem enter2_any (L : List ByteArray) (j : Nat) (x : ByteArray) (base s r : Nat) (fs : List Nat) (wd cap : Int) (es : List OE) (a : Option Addr) (c : Nat) (w : World) (hE : Env w) (hM : KindsAt r fs w) (hS : ScAt base s wd cap es a c w) (hlen : es.length = j) (hj : j < 1000) (hx : L[j + 2]? = some x) (hz : x.size ≤ 1048576) (hb : base ≤ w.heap.size) :
    ∃ b, Calls Tryz.prog 15 #[.pointer (some ⟨s, 0, none⟩), .map (some r), .string x] w (StepPost L (j + 2) base s wd cap es w b) := by
  have hco := contS_op (wd := wd) (cap := cap) (es := es.map (·.1)) hx hj
  have hfk := find_kind ((cutB 32 x).getD 0 ⟨#[]⟩) fs hM.1
  unfold lineOp at hco
  cases hk : kindOf ((cutB 32 x).getD 0 ⟨#[]⟩).data.toList with
  | none =>
    rw [hk] at hfk hco
    refine ⟨false, (enter_none s r _ _ x w hE hM.2.1 hz hfk).mono ?_⟩
    rintro e w' ⟨rfl, h2⟩
    exact ⟨rfl, .inr ⟨rfl, hco, Kp.of (h2.mono hb)⟩⟩
  | some k =>
    rw [hk] at hfk hco
    have hk13 := kindOf_lt hk
    simp only at hco
    generalize hts : (cutB 32 x).tail = ts at hco
    have hsb := shape_both k hk13 ts.length
    have hG := hM.2.2 k hk13
    refine ⟨allT (shapeAt k ts.length) ts, (enter_op s r _ _ k (kShapes.getD k ⟨#[]⟩) (fs.getD k 0) x w (fun W => (∃ an cn a' c', ScAt base s wd cap (es ++ [(mkOp k (wordsT (shapeAt k ts.length) ts) (numsT (shapeAt k ts.length) ts), an, cn)]) a' c' W) ∧ Kp base s w W) hE hM.2.1 hz (shape_small k hk13) hfk ts hts (shapeAt k ts.length) hsb _ rfl _ rfl (fun W aw cw an cn hal hbW how hon => ?_)).mono ?_⟩
    · have hpk : W.ownsRow w.heap.size 3 1 (.slice (aoK k an) (mkOp k (wordsT (shapeAt k ts.length) ts) (numsT (shapeAt k ts.length) ts)).picks.length (coK k cn)) (mkOp k (wordsT (shapeAt k ts.length) ts) (numsT (shapeAt k ts.length) ts)).picks.length ((mkOp k (wordsT (shapeAt k ts.length) ts) (numsT (shapeAt k ts.length) ts)).picks.map I) := by
        by_cases h11 : k = 11
        · have e : shapeOf k = [42] := by rw [h11]; rfl
          rw [mkOp, if_pos e, aoK, coK, if_pos h11, if_pos h11]
          exact hon
        · have e : shapeOf k ≠ [42] := by
            have h : ∀ k, k < 13 → k ≠ 11 → shapeOf k ≠ [42] := by decide
            exact h k hk13 h11
          rw [mkOp, if_neg e, aoK, coK, if_neg h11, if_neg h11]
          exact World.ownsRow_nil _ _ _ _
      refine (opl_any base s (fs.getD k 0) (35 + k) w.heap.size wd cap es a c aw _ cw an _ cn _ _ _ W (cf_any k hk13) (hS.below hbW) ((hbW.block _ (Array.getElem?_eq_some_iff.1 hG).1).trans hG) (fun W' hbW' => ?_) hpk hS.ops.blk_lt hb (Nat.le_trans hb hbW.size) (by omega)).mono ?_
      · exact opfn_any k hk13 ts hal _ rfl _ rfl aw cw an cn W' ((OwnV.targ ⟨how, hbW⟩).below hbW') ((OwnV.iarg ⟨hon, hbW⟩).below hbW')
      · rintro e w' ⟨rfl, ⟨a', c', h1⟩, h2⟩
        exact ⟨rfl, ⟨_, _, a', c', h1⟩, (Kp.of (hbW.mono hb)).trans h2⟩
    · rintro e w' (⟨hal, rfl, ⟨an, cn, a', c', h1⟩, h2⟩ | ⟨hal, rfl, h2⟩)
      · rw [if_pos hal] at hco
        refine ⟨by rw [hal], .inl ⟨hal, wd, cap, _, a', c', ?_, h1, ?_, h2⟩⟩
        · rw [hco, List.map_append]; rfl
        · rw [List.length_append, hlen]; rfl
      · rw [if_neg (by rw [hal]; simp)] at hco
        exact ⟨by rw [hal], .inr ⟨hal, hco, Kp.of (h2.mono hb)⟩⟩
end Go.Proofs.YthklibioolnggaaGreatDoor
