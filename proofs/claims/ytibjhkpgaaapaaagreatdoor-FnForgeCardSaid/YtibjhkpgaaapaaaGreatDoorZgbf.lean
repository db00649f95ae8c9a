import Derived.Test.YtibjhkpgaaapaaaGreatDoorZgbd
import Derived.Test.YtibjhkpgaaapaaaGreatDoorZgbe
import Derived.Test.YtibjhkpgaaapaaaGreatDoorZgam
import Derived.Test.YtibjhkpgaaapaaaGreatDoorZgan
import Derived.Test.YtibjhkpgaaapaaaGreatDoorZgbc
set_option maxRecDepth 100000
set_option maxHeartbeats 2000000
namespace Go.Proofs.YtibjhkpgaaapaaaGreatDoor
open Go.RowKit Go.Proofs.Sha

theorem lrd_base (wd : Nat) (lo hi s over under par : ByteArray) (a : Nat) (w : World) (_hs : s.size ≤ 1048576) (ha : a ≤ s.size) :
    Calls Tryz.prog 84 #[.agg #[.int .i64 (wd : Int), .string lo, .string hi, .string s], .int .i64 (a : Int), .string par, .agg #[.string over, .string under], .int .i64 501] w (RdAt wd none w) := by
  have hQ := LQ.mk0 w wd lo hi s over under
  have HN : Hid (∀ w', Calls Tryz.prog 83 #[] w' fun e w'' => e = .returned (.agg #[.string ⟨#[]⟩, .slice none 0 0, .string ⟨#[]⟩, .int .i64 (-1)]) ∧ Below w'.heap.size w' w'') := none_any
  go_enter Tryz.func84, Tryz.ntmps84
  go_upto_region 1 with fail
  generalize (((w.alloc (.cells #[.int .i64 (wd : Int), .string lo, .string hi, .string s] 131)).alloc (.cells #[.string over, .string under] 94)).alloc (.cells #[.string ⟨#[]⟩, .slice none 0 0, .string ⟨#[]⟩, .int .i64 0] 65)) = W at hQ ⊢
  obtain ⟨gr, hgr⟩ : ∃ x, w.heap.size + 1 + 1 = x := ⟨_, rfl⟩
  rw [hgr] at hQ ⊢
  obtain ⟨gb, hgb⟩ : ∃ x, w.heap.size + 1 = x := ⟨_, rfl⟩
  rw [hgb] at hQ ⊢
  obtain ⟨ga, hga⟩ : ∃ x, w.heap.size = x := ⟨_, rfl⟩
  rw [show LQ w w.heap.size = LQ w ga by rw [hga]] at hQ
  rw [hga]
  clear hgr hgb hga
  have k3 := Lib.cell_of_heap hQ.nq 3
  have z0 : decide ((a : Int) < 0) = false := decide_eq_false (by omega)
  have hfin : Hid (∀ W : World, LQ w ga gb gr wd lo hi s over under W → W.cell? ⟨gr, 0, none⟩ = some (.string ⟨#[]⟩) ∧ W.cell? ⟨gr, 1, none⟩ = some (.slice none 0 0) ∧ W.cell? ⟨gr, 2, none⟩ = some (.string ⟨#[]⟩) ∧ W.cell? ⟨gr, 3, none⟩ = some (.int .i64 0) ∧ (∀ j, W.frozen? ⟨gr, j, none⟩ = false)) := fun W h => ⟨Lib.cell_of_heap h.nr 0, Lib.cell_of_heap h.nr 1, Lib.cell_of_heap h.nr 2, Lib.cell_of_heap h.nr 3, fun j => frozen_of_heap h.nr⟩
  by_cases hlt : a < s.size
  · have z1 : decide ((s.size : Int) ≤ (a : Int)) = false := decide_eq_false (by omega)
    have z1' : decide (s.size ≤ a) = false := decide_eq_false (by omega)
    clear hlt
    go_wp2_with (go_at_call 83; refine (HN.out _).mono ?_; rintro e W1 ⟨rfl, hb1⟩; have hQ1 := hQ.below hb1; obtain ⟨r0, r1, r2, r3, fr⟩ := hfin.out _ hQ1)
    exact hQ1.none rfl rfl rfl
  · have z1 : decide ((s.size : Int) ≤ (a : Int)) = true := decide_eq_true (by omega)
    have z1' : decide (s.size ≤ a) = true := decide_eq_true (by omega)
    clear hlt
    go_wp2_with (go_at_call 83; refine (HN.out _).mono ?_; rintro e W1 ⟨rfl, hb1⟩; have hQ1 := hQ.below hb1; obtain ⟨r0, r1, r2, r3, fr⟩ := hfin.out _ hQ1)
    exact hQ1.none rfl rfl rfl
theorem lrd_all (wd : Nat) (h1 : 1 ≤ wd) (h2 : wd ≤ 32) (lo hi s : ByteArray) (hs : s.size ≤ 1048576) (hlo : lo.size ≤ 1048576) (hhi : hi.size ≤ 1048576) : ∀ f, LrdSaid wd lo hi s f
  | 0 => fun over under par a cnt w h hc ha ho hu hp => by
    obtain rfl : cnt = 501 := by omega
    rw [if_pos (by omega)]
    exact lrd_base wd lo hi s over under par a w hs ha
  | f + 1 => lrd_step wd h1 h2 lo hi s hs hlo hhi f (lrd_all wd h1 h2 lo hi s hs hlo hhi f)
/-- What the reading of a whole proof answers. -/
def WhAt (wd : Nat) (s : ByteArray) (R : Option PT) (w : World) (e : Ending) (w' : World) : Prop :=
  (∀ t, R = some t → ∃ (x y : ByteArray) (a : Option Addr) (cap : Nat), e = .returned (.agg #[.string x, .slice a (nodesP wd t).length cap, .string y, .int .i64 (s.size : Int)]) ∧ Hid (x = hashP wd t) ∧ Hid (y.data.toList = shapeP t) ∧ w'.ownsRow w.heap.size 73 4 (.slice a (nodesP wd t).length cap) (nodesP wd t).length (flatN (nodesP wd t))) ∧ (R = none → e = .returned (.agg #[.string ⟨#[]⟩, .slice none 0 0, .string ⟨#[]⟩, .int .i64 (-1)])) ∧ Below w.heap.size w w'
/-- The result's block. -/
structure WB5 (w : World) (gr : Nat) (W : World) : Prop where
  sz : w.heap.size ≤ gr
  bl : Below w.heap.size w W
  nr : W.heap[gr]? = some (.cells #[.string ⟨#[]⟩, .slice none 0 0, .string ⟨#[]⟩, .int .i64 0] 65)
theorem WB5.below {w W W' : World} {gr : Nat} (h : WB5 w gr W) (hb : Below W.heap.size W W') : WB5 w gr W' := ⟨h.sz, h.bl.trans (hb.mono h.bl.size), below_cells hb h.nr⟩
theorem WB5.fin {w W : World} {gr : Nat} (h : WB5 w gr W) (v0 v1 v2 v3 : Value) :
    ((((W.setCell ⟨gr, 0, none⟩ v0).setCell ⟨gr, 1, none⟩ v1).setCell ⟨gr, 2, none⟩ v2).setCell ⟨gr, 3, none⟩ v3).heap[gr]? = some (.cells #[v0, v1, v2, v3] 65) ∧ Below w.heap.size w ((((W.setCell ⟨gr, 0, none⟩ v0).setCell ⟨gr, 1, none⟩ v1).setCell ⟨gr, 2, none⟩ v2).setCell ⟨gr, 3, none⟩ v3) ∧ (∀ k, k ≠ gr → ((((W.setCell ⟨gr, 0, none⟩ v0).setCell ⟨gr, 1, none⟩ v1).setCell ⟨gr, 2, none⟩ v2).setCell ⟨gr, 3, none⟩ v3).heap[k]? = W.heap[k]?) := by
  refine ⟨heap_setCell_same _ gr 3 _ 65 _ (heap_setCell_same _ gr 2 _ 65 _ (heap_setCell_same _ gr 1 _ 65 _ (heap_setCell_same _ gr 0 _ 65 _ h.nr))), (((h.bl.setCell h.sz _).setCell h.sz _).setCell h.sz _).setCell h.sz _, fun k hk => ?_⟩
  rw [Below.heap_setCell _ _ _ _ (by exact hk), Below.heap_setCell _ _ _ _ (by exact hk), Below.heap_setCell _ _ _ _ (by exact hk), Below.heap_setCell _ _ _ _ (by exact hk)]
theorem retW {W : World} {A : Act} {gr : Nat} {v0 v1 v2 v3 : Value} {R : Ending → World → Prop} (hp : A.tmps.getD 10 undef = .pointer (some ⟨gr, 0, none⟩)) (hd : A.defers = []) (h : W.heap[gr]? = some (.cells #[v0, v1, v2, v3] 65)) (hR : R (.returned (.agg #[v0, v1, v2, v3])) W) : bodyPost Tryz.prog Tryz.f35 R .ret A W := by
  have q0 := Lib.cell_of_heap h 0
  have q1 := Lib.cell_of_heap h 1
  have q2 := Lib.cell_of_heap h 2
  have q3 := Lib.cell_of_heap h 3
  refine bodyPost_ret (v := .agg #[v0, v1, v2, v3]) ?_ hd hR
  rw [results_cell W (fn := Tryz.f35) (p := 10) (ty := 65) rfl A.tmps _ hp]
  exact run_loadVar_mid W gr 0 65 [v0, v1, v2, v3] _ (fun j u hj => by
    match j, hj with
    | 0, hj => simpa using q0.trans (by simpa using hj)
    | 1, hj => simpa using q1.trans (by simpa using hj)
    | 2, hj => simpa using q2.trans (by simpa using hj)
    | 3, hj => simpa using q3.trans (by simpa using hj)) Tryz.underlying65 rfl (by kernel_rfl)
theorem WB5.none {w W : World} {gr wd : Nat} {s : ByteArray} (h : WB5 w gr W) {A : Act} {R : Option PT} (hR : R = none) (hp : A.tmps.getD 10 undef = .pointer (some ⟨gr, 0, Option.none⟩)) (hd : A.defers = []) :
    bodyPost Tryz.prog Tryz.f35 (WhAt wd s R w) .ret A ((((W.setCell ⟨gr, 0, Option.none⟩ (.string ⟨#[]⟩)).setCell ⟨gr, 1, Option.none⟩ (.slice Option.none 0 0)).setCell ⟨gr, 2, Option.none⟩ (.string ⟨#[]⟩)).setCell ⟨gr, 3, Option.none⟩ (.int .i64 (-1))) := by
  obtain ⟨h1, h2, h3⟩ := h.fin (.string ⟨#[]⟩) (.slice Option.none 0 0) (.string ⟨#[]⟩) (.int .i64 (-1))
  subst hR
  exact retW hp hd h1 ⟨fun t h => (by cases h), fun _ => rfl, h2⟩
theorem whole_any (n : Int) (root lo hi s : ByteArray) (w : World) (hs : s.size ≤ 1048576) (hr : root.size ≤ 1048576) (hlo : lo.size ≤ 1048576) (hhi : hi.size ≤ 1048576) :
    Calls Tryz.prog 35 #[.int .i64 n, .string root, .string lo, .string hi, .string s] w (WhAt n.toNat s (accP n root lo hi s) w) := by
  have HW : Hid (∀ w', Calls Tryz.prog 63 #[.int .i64 n] w' fun e w'' => e = .returned (.bool (isW n)) ∧ w' = w'') := fun w' => (isW_spec n w').mono (by rintro e w'' ⟨he, hw⟩; exact ⟨he, hw.symm⟩)
  have HV : Hid (∀ w', Calls Tryz.prog 82 #[.string root, .int .i64 n] w' fun e w'' => e = .returned (.bool (hashOk root.size n)) ∧ w' = w'') := fun w' => hashOk_any root n w' hr
  have HN : Hid (∀ w', Calls Tryz.prog 83 #[] w' fun e w'' => e = .returned (.agg #[.string ⟨#[]⟩, .slice none 0 0, .string ⟨#[]⟩, .int .i64 (-1)]) ∧ Below w'.heap.size w' w'') := none_any
  obtain ⟨R, hRe⟩ : ∃ R, accP n root lo hi s = R := ⟨_, rfl⟩
  rw [hRe]
  have hB0 : WB5 w w.heap.size (w.alloc (.cells #[.string ⟨#[]⟩, .slice none 0 0, .string ⟨#[]⟩, .int .i64 0] 65)) := ⟨Nat.le_refl _, (Below.refl _ _).alloc (Nat.le_refl _) _, heap_alloc_new w _⟩
  have hfin : Hid (∀ W : World, WB5 w w.heap.size W → W.cell? ⟨w.heap.size, 0, none⟩ = some (.string ⟨#[]⟩) ∧ W.cell? ⟨w.heap.size, 1, none⟩ = some (.slice none 0 0) ∧ W.cell? ⟨w.heap.size, 2, none⟩ = some (.string ⟨#[]⟩) ∧ W.cell? ⟨w.heap.size, 3, none⟩ = some (.int .i64 0) ∧ (∀ j, W.frozen? ⟨w.heap.size, j, none⟩ = false)) := fun W h => ⟨Lib.cell_of_heap h.nr 0, Lib.cell_of_heap h.nr 1, Lib.cell_of_heap h.nr 2, Lib.cell_of_heap h.nr 3, fun j => frozen_of_heap h.nr⟩
  unfold accP at hRe
  cases hw : isW n with
  | false =>
    rw [hw] at HW
    have hRn : Hid (R = none) := by show _ = _; rw [← hRe, if_neg (by rw [hw]; simp)]
    clear hRe hw
    go_enter Tryz.func35, Tryz.ntmps35
    go_wp2_with (first | (go_at_call 63; refine (HW.out _).mono ?_; rintro e w2 ⟨rfl, rfl⟩) | (go_at_call 83; refine (HN.out _).mono ?_; rintro e W1 ⟨rfl, hb1⟩; have hB1 := hB0.below hb1; obtain ⟨r0, r1, r2, r3, fr⟩ := hfin.out _ hB1))
    exact hB1.none hRn.out rfl rfl
  | true =>
  cases hv : hashOk root.size n with
  | false =>
    rw [hw] at HW
    rw [hv] at HV
    have hRn : Hid (R = none) := by show _ = _; rw [← hRe, if_neg (by rw [hv]; simp)]
    clear hRe hw hv
    go_enter Tryz.func35, Tryz.ntmps35
    go_wp2_with (first | (go_at_call 63; refine (HW.out _).mono ?_; rintro e w2 ⟨rfl, rfl⟩) | (go_at_call 82; refine (HV.out _).mono ?_; rintro e w2 ⟨rfl, rfl⟩) | (go_at_call 83; refine (HN.out _).mono ?_; rintro e W1 ⟨rfl, hb1⟩; have hB1 := hB0.below hb1; obtain ⟨r0, r1, r2, r3, fr⟩ := hfin.out _ hB1))
    exact hB1.none hRn.out rfl rfl
  | true =>
  rw [if_pos (by rw [hw, hv]; rfl)] at hRe
  have h12 : 1 ≤ n ∧ n ≤ 32 := by
    unfold isW at hw
    rw [Bool.and_eq_true, decide_eq_true_eq, decide_eq_true_eq] at hw
    exact hw
  rw [hw] at HW
  rw [hv] at HV
  clear hw hv
  obtain ⟨wd, rfl⟩ : ∃ wd : Nat, n = (wd : Int) := ⟨n.toNat, by omega⟩
  rw [Int.toNat_natCast] at hRe ⊢
  have HR : Hid (∀ W, Calls Tryz.prog 84 #[.agg #[.int .i64 (wd : Int), .string lo, .string hi, .string s], .int .i64 0, .string ⟨#[]⟩, .agg #[.string ⟨#[]⟩, .string ⟨#[]⟩], .int .i64 0] W (RdAt wd (rdP s lo hi wd 501 0 ⟨#[]⟩ ⟨#[]⟩ ⟨#[]⟩ 0) W)) := fun W => by
    have := lrd_all wd (by omega) (by omega) lo hi s hs hlo hhi 501 ⟨#[]⟩ ⟨#[]⟩ ⟨#[]⟩ 0 0 W (by omega) (by omega) (by omega) (by decide) (by decide) (by decide)
    rw [if_neg (by omega)] at this
    exact this
  obtain ⟨RR, hRR⟩ : ∃ RR, rdP s lo hi wd 501 0 ⟨#[]⟩ ⟨#[]⟩ ⟨#[]⟩ 0 = RR := ⟨_, rfl⟩
  rw [hRR] at HR hRe
  cases RR with
  | none =>
    have hRn : Hid (R = none) := hRe.symm
    have HR2 : Hid (∀ W, Calls Tryz.prog 84 #[.agg #[.int .i64 (wd : Int), .string lo, .string hi, .string s], .int .i64 0, .string ⟨#[]⟩, .agg #[.string ⟨#[]⟩, .string ⟨#[]⟩], .int .i64 0] W fun e W' => e = .returned (.agg #[.string ⟨#[]⟩, .slice none 0 0, .string ⟨#[]⟩, .int .i64 (-1)]) ∧ Below W.heap.size W W') := fun W => (HR.out W).mono fun e W' h => ⟨h.2.1 rfl, h.2.2⟩
    have z1' : ((-1 : Int) == (s.size : Int)) = false := beq_eq_false_iff_ne.2 (by omega)
    have z1 : ((-1 : Int) != (s.size : Int)) = true := by rw [bne, z1']; rfl
    clear hRe hRR HR
    go_enter Tryz.func35, Tryz.ntmps35
    go_upto_region 4 with (first | (go_at_call 63; refine (HW.out _).mono ?_; rintro e w2 ⟨rfl, rfl⟩) | (go_at_call 82; refine (HV.out _).mono ?_; rintro e w2 ⟨rfl, rfl⟩) | (go_at_call 84; refine (HR2.out _).mono ?_; rintro e W1 ⟨rfl, hb1⟩; have hB1 := hB0.below hb1))
    have hB2 := hB1.below ((Below.refl W1.heap.size W1).alloc (Nat.le_refl _) (.cells #[.string ⟨#[]⟩, .slice none 0 0, .string ⟨#[]⟩, .int .i64 (-1)] 65))
    have nP := heap_alloc_new W1 (.cells #[.string ⟨#[]⟩, .slice none 0 0, .string ⟨#[]⟩, .int .i64 (-1)] 65)
    generalize W1.alloc (.cells #[.string ⟨#[]⟩, .slice none 0 0, .string ⟨#[]⟩, .int .i64 (-1)] 65) = W2 at hB2 nP ⊢
    generalize W1.heap.size = gp at nP ⊢
    have l0 := Lib.cell_of_heap nP 0
    have l1 := Lib.cell_of_heap nP 1
    have l3 := Lib.cell_of_heap nP 3
    go_wp2_with (first | (go_at_call 83; refine (HN.out _).mono ?_; rintro e W3 ⟨rfl, hb3⟩; have hB3 := hB2.below hb3; obtain ⟨r0, r1, r2, r3, fr⟩ := hfin.out _ hB3))
    exact hB3.none hRn.out rfl rfl
  | some Y =>
  obtain ⟨t, a', c'⟩ := Y
  have hcnt := rdP_cnt 501 _ _ _ _ _ _ _ _ hRR
  obtain ⟨_, o2, _, o4⟩ := rdP_ok 501 _ _ _ _ _ _ _ _ (by omega) hRR
  have hnl := nodesP_len wd t
  have hRe2 : Hid ((if a' = s.size ∧ hashP wd t = root then some t else none) = R) := hRe
  obtain ⟨ln, hln⟩ : ∃ ln, (nodesP wd t).length = ln := ⟨_, rfl⟩
  have HR2 : Hid (∀ W, Calls Tryz.prog 84 #[.agg #[.int .i64 (wd : Int), .string lo, .string hi, .string s], .int .i64 0, .string ⟨#[]⟩, .agg #[.string ⟨#[]⟩, .string ⟨#[]⟩], .int .i64 0] W fun e W' => ∃ (x y : ByteArray) (al : Option Addr) (cl : Nat), e = .returned (.agg #[.string x, .slice al ln cl, .string y, .int .i64 (a' : Int)]) ∧ Hid (x = hashP wd t) ∧ Hid (y.data.toList = shapeP t) ∧ W'.ownsRow W.heap.size 73 4 (.slice al ln cl) ln (flatN (nodesP wd t)) ∧ Below W.heap.size W W') := fun W => (HR.out W).mono fun e W' h => by
    obtain ⟨x, y, al, cl, he, hx, hy, hown⟩ := h.1 t a' c' rfl
    rw [hln] at he hown
    exact ⟨x, y, al, cl, he, hx, hy, hown, h.2.2⟩
  have hln5 : ln ≤ 500 := by omega
  have hlnH : Hid ((nodesP wd t).length = ln) := hln
  clear hRe hRR HR hln hnl hcnt
  go_enter Tryz.func35, Tryz.ntmps35
  go_upto_region 4 with (first | (go_at_call 63; refine (HW.out _).mono ?_; rintro e w2 ⟨rfl, rfl⟩) | (go_at_call 82; refine (HV.out _).mono ?_; rintro e w2 ⟨rfl, rfl⟩) | (go_at_call 84; refine (HR2.out _).mono ?_; rintro e W1 ⟨x, y, al, cl, rfl, hxe, hye, own1, hb1⟩; have hB1 := hB0.below hb1))
  have hB2 := hB1.below ((Below.refl W1.heap.size W1).alloc (Nat.le_refl _) (.cells #[.string x, .slice al ln cl, .string y, .int .i64 (a' : Int)] 65))
  have nP := heap_alloc_new W1 (.cells #[.string x, .slice al ln cl, .string y, .int .i64 (a' : Int)] 65)
  have own2 : (W1.alloc (.cells #[.string x, .slice al ln cl, .string y, .int .i64 (a' : Int)] 65)).ownsRow w.heap.size 73 4 (.slice al ln cl) ln (flatN (nodesP wd t)) := own4_mono (own1.alloc _) (by simp)
  generalize W1.alloc (.cells #[.string x, .slice al ln cl, .string y, .int .i64 (a' : Int)] 65) = W2 at hB2 nP own2 ⊢
  generalize W1.heap.size = gp at nP ⊢
  have l0 := Lib.cell_of_heap nP 0
  have l1 := Lib.cell_of_heap nP 1
  have l2 := Lib.cell_of_heap nP 2
  have l3 := Lib.cell_of_heap nP 3
  clear own1 hb1 hB1 hB0 HR2
  clear W1
  by_cases ha : a' = s.size
  case neg =>
    have z1 : ((a' : Int) != (s.size : Int)) = true := by simp; omega
    have z1' : ((a' : Int) == (s.size : Int)) = false := by simp; omega
    have z1'' : (a' == s.size) = false := by simp; omega
    have hRn : Hid (R = none) := by show _ = _; rw [← hRe2.out, if_neg (fun h => ha h.1)]
    clear ha
    go_wp2_with (first | (go_at_call 83; refine (HN.out _).mono ?_; rintro e W3 ⟨rfl, hb3⟩; have hB3 := hB2.below hb3; obtain ⟨r0, r1, r2, r3, fr⟩ := hfin.out _ hB3))
    exact hB3.none hRn.out rfl rfl
  subst ha
  by_cases hh : x = root
  case neg =>
    have z2 : (x.toList == root.toList) = false := strNe hh
    have hRn : Hid (R = none) := by show _ = _; rw [← hRe2.out, if_neg (fun h => hh (by rw [hxe.out]; exact h.2))]
    clear hh
    go_wp2_with (first | (go_at_call 83; refine (HN.out _).mono ?_; rintro e W3 ⟨rfl, hb3⟩; have hB3 := hB2.below hb3; obtain ⟨r0, r1, r2, r3, fr⟩ := hfin.out _ hB3))
    exact hB3.none hRn.out rfl rfl
  have z2 : (x.toList == root.toList) = true := by rw [hh]; simp
  have hRv : Hid (some t = R) := by show _ = _; rw [← hRe2.out, if_pos ⟨rfl, by rw [← hxe.out]; exact hh⟩]
  have z3 : decide ((500 : Int) < (ln : Int)) = false := decide_eq_false (by omega)
  have z3' : decide (500 < ln) = false := decide_eq_false (by omega)
  obtain ⟨r0, r1, r2, r3, fr⟩ := hfin.out _ hB2
  obtain ⟨f1, f2, f3⟩ := hB2.fin (.string x) (.slice al ln cl) (.string y) (.int .i64 (s.size : Int))
  have HF : Hid (WhAt wd s R w (.returned (.agg #[.string x, .slice al ln cl, .string y, .int .i64 (s.size : Int)])) ((((W2.setCell ⟨w.heap.size, 0, none⟩ (.string x)).setCell ⟨w.heap.size, 1, none⟩ (.slice al ln cl)).setCell ⟨w.heap.size, 2, none⟩ (.string y)).setCell ⟨w.heap.size, 3, none⟩ (.int .i64 (s.size : Int)))) := by
    refine ⟨fun t' h' => ?_, fun h' => ?_, f2⟩
    · rw [← hRv.out] at h'
      cases h'
      refine ⟨x, y, al, cl, by rw [hlnH.out], hxe, hye, ?_⟩
      rw [hlnH.out]
      refine own4_kept own2 (fun g hv hg => f3 g (fun e => ?_))
      obtain ⟨_, _, cur, h9⟩ := own4_cells own2 hv
      rw [e, hB2.nr] at h9
      simp only [Option.some.injEq, Obj.cells.injEq] at h9
      exact absurd h9.2.1 (by decide)
    · rw [← hRv.out] at h'; cases h'
  have f1' : Hid _ := f1
  clear hh f1 f2 f3 own2 hRv hRe2 hxe hye hlnH
  go_wp2_with fail
  exact retW rfl rfl f1'.out HF.out
theorem accP_ord {n : Int} {root lo hi s : ByteArray} {t : PT} (h : accP n root lo hi s = some t) : ordP ⟨#[]⟩ ⟨#[]⟩ t := by
  unfold accP at h
  split at h
  · cases hr : rdP s lo hi n.toNat 501 0 ⟨#[]⟩ ⟨#[]⟩ ⟨#[]⟩ 0 with
    | none => rw [hr] at h; cases h
    | some Y =>
      obtain ⟨t', a', c'⟩ := Y
      rw [hr] at h
      unfold accQ at h
      simp only at h
      split at h
      · cases h; exact rdP_ord 501 _ _ _ _ _ _ _ _ hr
      · cases h
  · cases h
theorem ordP_small (wd : Nat) : ∀ (t : PT) (over under : ByteArray), ordP over under t → ∀ n ∈ nodesP wd t, n.1.size ≤ 1048576 ∧ n.2.1.size ≤ 1048576
  | .e, _, _, _, n, hn => by cases hn
  | .s _, _, _, _, n, hn => by cases hn
  | .f k v l r, over, under, ⟨_, _, hk, hv, h3, h4⟩, n, hn => by
    rw [nodesP] at hn
    rcases List.mem_cons.1 hn with hn | hn
    · rw [hn]; exact ⟨by show k.size ≤ _; omega, by show v.size ≤ _; omega⟩
    · rcases List.mem_append.1 hn with hn | hn
      · exact ordP_small wd l over k h3 n hn
      · exact ordP_small wd r k under h4 n hn
theorem shP_smallP (lo hi : ByteArray) {n : Int} {root s : ByteArray} {t : PT} (h : accP n root lo hi s = some t) : SmallP (shP lo hi t) ∧ (shP lo hi t).length ≤ 500 := by
  have h1 := accP_ord h
  have h2 := accP_cnt h
  have h3 := shP_len lo hi t
  have hs := ordP_small n.toNat t _ _ h1
  have e := shF_all (lo := lo) (hi := hi) (wd := n.toNat) h1
  obtain ⟨q1, q2⟩ := shF_small lo hi (fun p => p.1.size ≤ 1048576 ∧ p.2.size ≤ 1048576) (nodesP n.toNat t) [] hs (fun p hp => by cases hp)
  rw [e] at q1
  exact ⟨smallP_y (by omega) q1, by omega⟩
/-- What the model's Verify answers: its pairs are a row of its own. -/
def SVerAt (lo hi : ByteArray) (R : Option PT) (w : World) (e : Ending) (w' : World) : Prop :=
  (∀ t, R = some t → ∃ a c, e = .returned (.tuple #[.slice a (shP lo hi t).length c, .bool true]) ∧ w'.ownsRow w.heap.size 81 2 (.slice a (shP lo hi t).length c) (shP lo hi t).length (flatP (shP lo hi t))) ∧ (R = none → ∃ a, e = .returned (.tuple #[.slice a 0 0, .bool false]) ∧ w'.ownsRow w.heap.size 81 2 (.slice a 0 0) 0 []) ∧ Below w.heap.size w w'
theorem sverify_any (n : Int) (root lo hi s : ByteArray) (w : World) (hs : s.size ≤ 1048576) (hr : root.size ≤ 1048576) (hlo : lo.size ≤ 1048576) (hhi : hi.size ≤ 1048576) :
    Calls Tryz.prog 16 #[.int .i64 n, .string root, .string lo, .string hi, .string s] w (SVerAt lo hi (accP n root lo hi s) w) := by
  have HWh := whole_any n root lo hi s w hs hr hlo hhi
  have hord := fun t => accP_ord (n := n) (root := root) (lo := lo) (hi := hi) (s := s) (t := t)
  have hcn := fun t => accP_cnt (n := n) (root := root) (lo := lo) (hi := hi) (s := s) (t := t)
  generalize accP n root lo hi s = R at HWh hord hcn ⊢
  cases R with
  | none =>
    have HW2 : Calls Tryz.prog 35 #[.int .i64 n, .string root, .string lo, .string hi, .string s] w fun e w' => e = .returned (.agg #[.string ⟨#[]⟩, .slice none 0 0, .string ⟨#[]⟩, .int .i64 (-1)]) ∧ Below w.heap.size w w' := HWh.mono fun e w' h => ⟨h.2.1 rfl, h.2.2⟩
    have HP : Hid (∀ W, Below w.heap.size w W → SVerAt lo hi none w (.returned (.tuple #[.slice (some ⟨W.heap.size, 0, none⟩) 0 0, .bool false])) (W.alloc (.cells #[] 81))) := fun W hb => ⟨fun t h => (by cases h), fun _ => ⟨_, rfl, own2_nil hb.size (heap_alloc_new W _)⟩, hb.alloc hb.size _⟩
    clear HWh hord hcn
    go_enter Tryz.func16, Tryz.ntmps16
    go_upto_region 2 with (first | (go_at_call 35; refine HW2.mono ?_; rintro e W1 ⟨rfl, hb1⟩))
    have hb2 := hb1.alloc hb1.size (.cells #[.string ⟨#[]⟩, .slice none 0 0, .string ⟨#[]⟩, .int .i64 (-1)] 65)
    have nP := heap_alloc_new W1 (.cells #[.string ⟨#[]⟩, .slice none 0 0, .string ⟨#[]⟩, .int .i64 (-1)] 65)
    generalize W1.alloc (.cells #[.string ⟨#[]⟩, .slice none 0 0, .string ⟨#[]⟩, .int .i64 (-1)] 65) = W2 at hb2 nP ⊢
    generalize W1.heap.size = gp at nP ⊢
    have l3 := Lib.cell_of_heap nP 3
    go_wp2_with fail
    go_ret2
    exact HP.out _ hb2
  | some t =>
    have ho := hord t rfl
    have hc := hcn t rfl
    have hnl := nodesP_len n.toNat t
    have e9 := shF_all (lo := lo) (hi := hi) (wd := n.toNat) ho
    obtain ⟨ln, hln⟩ : ∃ ln, (nodesP n.toNat t).length = ln := ⟨_, rfl⟩
    have HW2 : Calls Tryz.prog 35 #[.int .i64 n, .string root, .string lo, .string hi, .string s] w fun e w' => ∃ (x y : ByteArray) (al : Option Addr) (cl : Nat), e = .returned (.agg #[.string x, .slice al ln cl, .string y, .int .i64 (s.size : Int)]) ∧ w'.ownsRow w.heap.size 73 4 (.slice al ln cl) ln (flatN (nodesP n.toNat t)) ∧ Below w.heap.size w w' := HWh.mono fun e w' h => by
      obtain ⟨x, y, al, cl, he, _, _, hown⟩ := h.1 t rfl
      rw [hln] at he hown
      exact ⟨x, y, al, cl, he, hown, h.2.2⟩
    have HSh : Hid (∀ W al cl, Below w.heap.size w W → W.ownsRow w.heap.size 73 4 (.slice al ln cl) ln (flatN (nodesP n.toNat t)) → Calls Tryz.prog 37 #[.slice al ln cl, .string lo, .string hi] W fun e W' => ∃ a2 c2, e = .returned (.slice a2 (shP lo hi t).length c2) ∧ SVerAt lo hi (some t) w (.returned (.tuple #[.slice a2 (shP lo hi t).length c2, .bool true])) W') := fun W al cl hb hown => by
      have hna : NArg al (nodesP n.toNat t) W := own4_narg (by rw [hln]; exact hown) (by omega)
      have := shown_any lo hi hlo hhi al (nodesP n.toNat t) cl W hna (fun b e hn => by obtain ⟨b', e', hl', _⟩ := hna.cells hn; rw [e] at e'; cases e'; exact hl') (ordP_small n.toNat t _ _ ho)
      rw [hln, e9] at this
      refine this.mono ?_
      rintro e W' ⟨a2, c2, he, hO⟩
      exact ⟨a2, c2, he, fun t' h' => (by cases h'; exact ⟨a2, c2, rfl, own2_mono hO.own hb.size⟩), fun h' => (by cases h'), hb.trans (hO.bel.mono hb.size)⟩
    generalize (shP lo hi t).length = m at HSh
    clear HWh hord hcn ho hc hnl e9 hln
    go_enter Tryz.func16, Tryz.ntmps16
    go_upto_region 2 with (first | (go_at_call 35; refine HW2.mono ?_; rintro e W1 ⟨x, y, al, cl, rfl, own1, hb1⟩))
    have hb2 := hb1.alloc hb1.size (.cells #[.string x, .slice al ln cl, .string y, .int .i64 (s.size : Int)] 65)
    have own2 := own1.alloc (.cells #[.string x, .slice al ln cl, .string y, .int .i64 (s.size : Int)] 65)
    have nP := heap_alloc_new W1 (.cells #[.string x, .slice al ln cl, .string y, .int .i64 (s.size : Int)] 65)
    generalize W1.alloc (.cells #[.string x, .slice al ln cl, .string y, .int .i64 (s.size : Int)] 65) = W2 at hb2 nP own2 ⊢
    generalize W1.heap.size = gp at nP ⊢
    have l1 := Lib.cell_of_heap nP 1
    have l3 := Lib.cell_of_heap nP 3
    have z1 : decide ((s.size : Int) < 0) = false := decide_eq_false (by omega)
    go_wp2_with (first | (go_at_call 37; refine (HSh.out _ _ _ hb2 own2).mono ?_; rintro e W3 ⟨a2, c2, rfl, hv3⟩))
    go_ret2
    exact hv3
/-- The two texts that a walk looks for, in captured variables. -/
structure AB (ca cb : Nat) (sa sb : ByteArray) (w : World) : Prop where
  ha : w.heap[ca]? = some (.cells #[.string sa] 9)
  hb : w.heap[cb]? = some (.cells #[.string sb] 9)
  ne : ca ≠ cb
theorem AB.below {ca cb : Nat} {sa sb : ByteArray} {w w' : World} (h : AB ca cb sa sb w) (hb : Below w.heap.size w w') : AB ca cb sa sb w' :=
  ⟨(hb.block ca (Array.getElem?_eq_some_iff.1 h.ha).1).trans h.ha, (hb.block cb (Array.getElem?_eq_some_iff.1 h.hb).1).trans h.hb, h.ne⟩
theorem txt_ne (e : ByteArray) : (txt e).toList.isEmpty = false := by
  rw [ByteArray.toList_eq]
  unfold txt
  rw [ByteArray.data_append]
  simp
def resT : Option (ByteArray × ByteArray) → ByteArray × ByteArray
  | none => (⟨#[]⟩, ⟨#[]⟩)
  | some q => (txt q.1, txt q.2)
end Go.Proofs.YtibjhkpgaaapaaaGreatDoor
