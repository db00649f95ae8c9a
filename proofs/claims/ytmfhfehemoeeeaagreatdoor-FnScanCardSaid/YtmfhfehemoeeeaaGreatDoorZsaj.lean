import Derived.RangeFuncNested
import Derived.RangeFuncBound
import Derived.RangeFuncCalls
import Derived.RangeFuncLeaves
import Derived.Shelf.Abstract
import Derived.Shelf.RegionOpen
import Derived.WalkKit
import Derived.OwnWalkIn
import Derived.TacticsInMore
import Derived.LoopNIn
import Derived.LoopIn
import Derived.Test.YtmfhfehemoeeeaaGreatDoorZsai
set_option maxRecDepth 100000
set_option maxHeartbeats 1000000
namespace Go.Proofs.YtmfhfehemoeeeaaGreatDoor
open Go.RowKit Go.Proofs.Sha Go.Shelf
attribute [local go_sem] Oper.semAt_some

/-- A record that is one, within its bounds. -/
abbrev RecB := { x : RecT // (x.k = 1 ∧ x.enc.size ≤ 4000 ∧ x.nx ≤ 16384) ∨ (x.k = 2 ∧ x.root.size ≤ 32 ∧ x.nx ≤ 16384) }
abbrev recT (x : RecT) : Value := recV x.k x.enc x.v x.root (x.nx : Int)
/-- Where the next record is read. -/
def secOf (pre : List RecB) : Nat := match pre.getLast? with
  | none => 0
  | some x => x.1.nx
theorem secOf_snoc (pre : List RecB) (x : RecB) : secOf (pre ++ [x]) = x.1.nx := by simp [secOf]
/-- Records one behind the other. -/
inductive Chain (R : Nat → RecT) : List RecB → Prop where
  | nil : Chain R []
  | snoc {pre : List RecB} {x : RecB} : Chain R pre → x.1 = R (secOf pre) → Chain R (pre ++ [x])
theorem Chain.len {R : Nat → RecT} {size : Nat} (hR : ∀ n, RecOk size n (R n)) {pre : List RecB} (h : Chain R pre) : pre.length ≤ secOf pre := by
  induction h with
  | nil => exact Nat.le_refl _
  | @snoc pre x _ hx ih =>
    rw [secOf_snoc, List.length_append]
    rcases hR (secOf pre) with h0 | ⟨_, _, h2, _⟩ | ⟨_, _, h2, _⟩
    · rw [← hx] at h0
      rcases x.2 with ⟨h1, _⟩ | ⟨h1, _⟩ <;> omega
    · rw [← hx] at h2; simp; omega
    · rw [← hx] at h2; simp; omega
/-- What ReadRecord's contract says, by itself. -/
def ReadSaid (f : FuncId) (s : ByteArray) (R : Nat → RecT) : Prop := ∀ (n : Nat) (w : World), Calls Tryz.prog f #[.string s, .int .i64 (n : Int)] w fun e w' => e = .returned (recT (R n)) ∧ Below w.heap.size w w'
/-- What a round keeps of the iterator's. -/
def KpR (n1 Bn : Nat) (W W' : World) : Prop := (∀ k cs, n1 ≤ k → W.heap[k]? = some (.cells cs 66 (0, 0)) → W'.heap[k]? = W.heap[k]?) ∧ W'.heap[Bn]? = W.heap[Bn]?
def AbidesR (n1 : Nat) (J : List RecB → World → Prop) : Prop := ∀ s W W' row, J s W → W.grownBy W' row → (∀ r, row = some r → n1 ≤ r ∧ ∃ cs, W.heap[r]? = some (.cells cs 66 (0, 0))) → J s W'
/-- How far it is to the end, off the record in memory. -/
def leftR (gr : Nat) (w : World) : Nat := match w.cell? ⟨gr, 0, none⟩, w.cell? ⟨gr, 4, none⟩ with
  | some (.int _ k), some (.int _ x) => if k = 0 then 0 else 20001 - x.toNat
  | _, _ => 0
theorem leftR_eq {gr : Nat} {w : World} {x : RecT} (h : w.heap[gr]? = some (.cells #[.int .i64 x.k, .string x.enc, .int .i64 x.v, .string x.root, .int .i64 (x.nx : Int)] 66)) : leftR gr w = if x.k = 0 then 0 else 20001 - x.nx := by
  unfold leftR
  rw [Lib.cell_of_heap h 0, Lib.cell_of_heap h 4]
  rfl

theorem rec1_in (s : ByteArray) (hs : s.size ≤ 1048576) (R : Nat → RecT) (hR : ∀ n, RecOk s.size n (R n)) (HRd : Hid (ReadSaid 60 s R)) (n : Nat) (l Bn n1 : Nat) (J Jx : List RecB → World → Prop) (hJ : Hid (AbidesR n1 J))
    (hY : Hid (∀ pre x W, J pre W → pre.length < 16384 → YieldAt Fence.wide (n - 1) Tryz.prog l #[recT x.1] W fun e W' => (e = .returned (.bool true) ∧ J (pre ++ [x]) W' ∧ KpR n1 Bn W W') ∨ (e = .returned (.bool false) ∧ Jx (pre ++ [x]) W')))
    (W : World) (hn1 : W.heap.size = n1) (hBn : W.heap[Bn]? = some (.cells #[.string s] 9)) (h0 : J [] W) :
    CallsIn Fence.wide n Tryz.prog 59 #[.func (.yield l) #[] #[], .pointer (some ⟨Bn, 0, none⟩)] W fun e W' => (∃ v, e = .returned v) ∧ ((∃ ys, (Chain R ys ∧ (R (secOf ys)).k = 0) ∧ J ys W') ∨ (∃ pre, Chain R pre ∧ Jx pre W')) := by
  have cB := Lib.cell_of_heap hBn 0
  have HR0 : Hid (∀ w : World, CallsIn Fence.wide (n - 1) Tryz.prog 60 #[.string s, .int .i64 0] w fun e w' => e = .returned (recT (R 0)) ∧ Below w.heap.size w w') := fun w => callsIn_wide.2 (HRd.out 0 w)
  refine callsIn_of_wp Tryz.func59 rfl trivial ?_ rfl
  simp only [Tryz.ntmps59, List.size_toArray, List.length_cons, List.length_nil, Nat.reduceAdd, Nat.reduceSub, Array.replicate_succ, Array.replicate_zero, List.push_toArray, List.append_toArray, List.nil_append, List.cons_append]
  gi_wp2
  refine ⟨trivial, (fun h => by cases h), ?_⟩
  refine (HR0.out _).mono ?_
  rintro e w1 ⟨rfl, hb1⟩
  have nR := heap_alloc_new w1 (.cells #[.int .i64 (R 0).k, .string (R 0).enc, .int .i64 (R 0).v, .string (R 0).root, .int .i64 ((R 0).nx : Int)] 66)
  have hbR : Below w1.heap.size w1 (w1.alloc (.cells #[.int .i64 (R 0).k, .string (R 0).enc, .int .i64 (R 0).v, .string (R 0).root, .int .i64 ((R 0).nx : Int)] 66)) := (Below.refl _ _).alloc (Nat.le_refl _) _
  have hs1 := hb1.size
  have hJ1 : J [] (w1.alloc (.cells #[.int .i64 (R 0).k, .string (R 0).enc, .int .i64 (R 0).v, .string (R 0).root, .int .i64 ((R 0).nx : Int)] 66)) := hJ.out _ _ _ none (hJ.out _ _ _ none h0 (grownBy_of_below hb1 none) (fun r e => by cases e)) (grownBy_of_below hbR none) (fun r e => by cases e)
  have hBl : Bn < W.heap.size := (Array.getElem?_eq_some_iff.1 hBn).1
  have hB2 := (hbR.block Bn (by omega)).trans ((hb1.block Bn hBl).trans hBn)
  obtain ⟨gr, hgr⟩ : ∃ gr, w1.heap.size = gr := ⟨_, rfl⟩
  rw [hgr] at nR
  have hgn : n1 ≤ gr := by omega
  have hne : Bn ≠ gr := by omega
  clear hb1 hbR hs1 h0 hBn cB hBl
  gi_wp2
  generalize w1.alloc (.cells #[.int .i64 (R 0).k, .string (R 0).enc, .int .i64 (R 0).v, .string (R 0).root, .int .i64 ((R 0).nx : Int)] 66) = w2 at nR hJ1 hB2 ⊢
  gi_loopw [13] (fun _ wr => ∃ pre, Chain R pre ∧ J pre wr ∧ wr.heap[Bn]? = some (.cells #[.string s] 9) ∧ wr.heap[gr]? = some (.cells #[.int .i64 (R (secOf pre)).k, .string (R (secOf pre)).enc, .int .i64 (R (secOf pre)).v, .string (R (secOf pre)).root, .int .i64 ((R (secOf pre)).nx : Int)] 66)) (fun _ wr => leftR gr wr)
  case atStart => exact ⟨[], Chain.nil, hJ1, hB2, nR⟩
  case round =>
    clear hJ1 hB2 nR
    obtain ⟨pre, hC, hJs, hB, hG⟩ := hrel
    have hlen := hC.len hR
    have hok := hR (secOf pre)
    have hLw := leftR_eq hG
    obtain ⟨x, hx⟩ : ∃ x, R (secOf pre) = x := ⟨_, rfl⟩
    rw [hx] at hG hok hLw
    have cB := Lib.cell_of_heap hB 0
    have g0 := Lib.cell_of_heap hG 0
    have g1 := Lib.cell_of_heap hG 1
    have g2 := Lib.cell_of_heap hG 2
    have g3 := Lib.cell_of_heap hG 3
    have g4 := Lib.cell_of_heap hG 4
    by_cases hk : x.k = 0
    · have z1 : (x.k != 0) = false := by rw [hk]; rfl
      have hend : Hid ((∃ v : Value, Ending.returned (.tuple #[]) = .returned v) ∧ ((∃ ys, (Chain R ys ∧ (R (secOf ys)).k = 0) ∧ J ys wr) ∨ (∃ pre, Chain R pre ∧ Jx pre wr))) := ⟨⟨_, rfl⟩, .inl ⟨pre, ⟨hC, by rw [hx]; exact hk⟩, hJs⟩⟩
      clear hC hok hLw hlen hx hk hY hJ HRd HR0
      gi_wp2
      refine ⟨fun _ h => (by cases h), ?_⟩
      gi_wp2
      go_end0
      exact hend.out
    · have z1 : (x.k != 0) = true := by rw [bne_iff_ne]; exact hk
      have hxb : (x.k = 1 ∧ x.enc.size ≤ 4000 ∧ x.nx ≤ 16384) ∨ (x.k = 2 ∧ x.root.size ≤ 32 ∧ x.nx ≤ 16384) := by
        rcases hok with h | ⟨h, h1, h2, h3⟩ | ⟨h, h1, h2, h3⟩
        · exact absurd h hk
        · exact .inl ⟨h, h1, by omega⟩
        · exact .inr ⟨h, h1, by omega⟩
      have hlt : secOf pre < x.nx ∧ x.nx ≤ 16384 := by
        rcases hok with h | ⟨h, h1, h2, h3⟩ | ⟨h, h1, h2, h3⟩
        · exact absurd h hk
        · exact ⟨h2, by omega⟩
        · exact ⟨h2, by omega⟩
      have hC' : Hid (Chain R (pre ++ [⟨x, hxb⟩])) := Chain.snoc hC hx.symm
      have hso : Hid (secOf (pre ++ [⟨x, hxb⟩]) = x.nx) := secOf_snoc pre ⟨x, hxb⟩
      obtain ⟨fn, tmps, assign, body, hy, hRo⟩ := hY.out pre ⟨x, hxb⟩ wr hJs (by omega)
      dsimp only at hy
      have hleft : Hid (leftR gr wr = 20001 - x.nx) := by
        show _ = _
        rw [hLw, if_neg hk]
      have HRn : Hid (∀ w : World, CallsIn Fence.wide (n - 1) Tryz.prog 60 #[.string s, .int .i64 (x.nx : Int)] w fun e w' => e = .returned (recT (R x.nx)) ∧ Below w.heap.size w w') := fun w => callsIn_wide.2 (HRd.out x.nx w)
      clear hC hok hLw hlen hk HR0
      replace hx : Hid _ := hx
      gi_wp2
      refine ⟨(fun h => by cases h), ?_⟩
      refine hRo.mono ?_
      rintro e W3 (⟨rfl, hJ3, hk3⟩ | ⟨rfl, hJx3⟩)
      · have hG3 := (hk3.1 gr _ hgn hG).trans hG
        have hB3 := hk3.2.trans hB
        clear cB g0 g1 g2 g3 g4 hB hG hJs hRo hy hk3
        have cB := Lib.cell_of_heap hB3 0
        have g4 := Lib.cell_of_heap hG3 4
        gi_wp2
        refine ⟨trivial, (fun h => by cases h), ?_⟩
        refine (HRn.out _).mono ?_
        rintro e w4 ⟨rfl, hb4⟩
        have hG4 := (hb4.block gr (Array.getElem?_eq_some_iff.1 hG3).1).trans hG3
        have hB4 := (hb4.block Bn (Array.getElem?_eq_some_iff.1 hB3).1).trans hB3
        have hJ4 := hJ.out _ _ _ none hJ3 (grownBy_of_below hb4 none) (fun r e => by cases e)
        clear hb4 hG3 hB3 cB g4 hJ3
        obtain ⟨y, hyy⟩ : ∃ y, R x.nx = y := ⟨_, rfl⟩
        rw [hyy]
        obtain ⟨w5, hw5⟩ : ∃ w5, ((((w4.setCell ⟨gr, 0, none⟩ (.int .i64 y.k)).setCell ⟨gr, 1, none⟩ (.string y.enc)).setCell ⟨gr, 2, none⟩ (.int .i64 y.v)).setCell ⟨gr, 3, none⟩ (.string y.root)).setCell ⟨gr, 4, none⟩ (.int .i64 (y.nx : Int)) = w5 := ⟨_, rfl⟩
        have hG5 : w5.heap[gr]? = some (.cells #[.int .i64 y.k, .string y.enc, .int .i64 y.v, .string y.root, .int .i64 (y.nx : Int)] 66) := by
          rw [← hw5]
          exact heap_setCell_same _ gr 4 _ 66 _ (heap_setCell_same _ gr 3 _ 66 _ (heap_setCell_same _ gr 2 _ 66 _ (heap_setCell_same _ gr 1 _ 66 _ (heap_setCell_same _ gr 0 _ 66 _ hG4))))
        have hg5 : w4.grownBy w5 (some gr) := by
          rw [← hw5]
          exact grownBy_trans (grownBy_trans (grownBy_trans (grownBy_trans (grownBy_setCell _ gr 0 _) (grownBy_setCell _ gr 1 _)) (grownBy_setCell _ gr 2 _)) (grownBy_setCell _ gr 3 _)) (grownBy_setCell _ gr 4 _)
        have hB5 := (hg5.block Bn (Array.getElem?_eq_some_iff.1 hB4).1 (fun e => hne (Option.some.inj e))).trans hB4
        have hJ5 := hJ.out _ _ _ (some gr) hJ4 hg5 (fun r e => by cases e; exact ⟨hgn, _, hG4⟩)
        have q0 := Lib.cell_of_heap hG4 0
        have q1 := Lib.cell_of_heap hG4 1
        have q2 := Lib.cell_of_heap hG4 2
        have q3 := Lib.cell_of_heap hG4 3
        have q4 := Lib.cell_of_heap hG4 4
        have fr : ∀ j, w4.frozen? ⟨gr, j, none⟩ = false := fun j => by rw [World.frozen?, hG4]; rfl
        have f0 := fr 0
        have f1 := fr 1
        have f2 := fr 2
        have f3 := fr 3
        have f4 := fr 4
        have hfin : Hid (∃ pre, Chain R pre ∧ J pre w5 ∧ w5.heap[Bn]? = some (.cells #[.string s] 9) ∧ w5.heap[gr]? = some (.cells #[.int .i64 (R (secOf pre)).k, .string (R (secOf pre)).enc, .int .i64 (R (secOf pre)).v, .string (R (secOf pre)).root, .int .i64 ((R (secOf pre)).nx : Int)] 66)) := ⟨_, hC'.out, hJ5, hB5, by rw [hso.out, hyy]; exact hG5⟩
        have hmea : Hid (leftR gr w5 < leftR gr wr) := by
          show _ < _
          rw [hleft.out, leftR_eq hG5]
          rcases hR x.nx with h | ⟨_, _, h2, h3⟩ | ⟨_, _, h2, h3⟩
          · rw [hyy] at h; rw [if_pos h]; omega
          · rw [hyy] at h2 h3; split <;> omega
          · rw [hyy] at h2 h3; split <;> omega
        clear hG4 hB4 hJ4 hG5 hg5 hB5 hJ5 fr hyy
        gi_wp2
        exact ⟨hfin.out, hmea.out⟩
      · have hend : Hid ((∃ v : Value, Ending.returned (.tuple #[]) = .returned v) ∧ ((∃ ys, (Chain R ys ∧ (R (secOf ys)).k = 0) ∧ J ys W3) ∨ (∃ pre, Chain R pre ∧ Jx pre W3))) := ⟨⟨_, rfl⟩, .inr ⟨_, hC'.out, hJx3⟩⟩
        gi_wp2
        go_end0
        exact hend.out
end Go.Proofs.YtmfhfehemoeeeaaGreatDoor
namespace Go.Proofs.YtmfhfehemoeeeaaGreatDoor
open Go.RowKit Go.Proofs.Sha Go.Shelf
attribute [local go_sem] Oper.semAt_some

/-- What is no row of texts and lies from B on lies as it lay. -/
structure Sm (B : Nat) (W W' : World) : Prop where
  size : W.heap.size ≤ W'.heap.size
  same : ∀ k o, B ≤ k → W.heap[k]? = some o → (∀ cur, o ≠ .cells cur 9 (0, 0)) → W'.heap[k]? = some o
/-- An invariant that abides new blocks and turns, from B on, of what is no row of texts. -/
def AbidesI {β : Type} (B : Nat) (I : β → World → Prop) : Prop := ∀ s W W' row, I s W → W.grownBy W' row → (∀ g, row = some g → B ≤ g ∧ ∀ o, W.heap[g]? = some o → ∀ cur, o ≠ .cells cur 9 (0, 0)) → I s W'
/-- How the body of a round may be left. -/
def roundLeft (B Bn : Nat) (I : List RecB → World → Prop) (Ix : Code → List RecB → World → Prop) (xs : List RecB) (W : World) : Exit → Act → World → Prop
  | .normal, _, W' => Sm B W W' ∧ W'.heap[Bn]? = W.heap[Bn]? ∧ I xs W'
  | .exit id, _, W' => Sm B W W' ∧ Ix (.exit id) xs W'
  | _, _, _ => False
theorem no_row_loop (r : Loop) : ∀ cur, (Obj.loop r) ≠ .cells cur 9 (0, 0) := fun _ h => by cases h
theorem no_row_def (ds : Option (List Deferred)) : ∀ cur, (Obj.deferred ds) ≠ .cells cur 9 (0, 0) := fun _ h => by cases h
theorem no_row_rec (cs : Array Value) : ∀ cur, (Obj.cells cs 66 (0, 0)) ≠ .cells cur 9 (0, 0) := fun _ h => by cases h
theorem AbidesI.put {β : Type} {B : Nat} {I : β → World → Prop} (h : AbidesI B I) {s : β} {W : World} {l : Nat} {o : Obj} (o' : Obj) (hs : I s W) (hB : B ≤ l) (hl : W.heap[l]? = some o) (ho : ∀ cur, o ≠ .cells cur 9 (0, 0)) : I s (W.putObj l o') :=
  h s W _ (some l) hs (grownBy_putObj' W l o') (fun g e => by cases e; exact ⟨hB, fun o2 h2 => by rw [hl] at h2; cases h2; exact ho⟩)
theorem AbidesI.new {β : Type} {B : Nat} {I : β → World → Prop} (h : AbidesI B I) {s : β} {W : World} (o : Obj) (hs : I s W) : I s (W.alloc o) :=
  h s W _ none hs (grownBy_of_below ((Below.refl _ W).alloc (Nat.le_refl _) o) none) (fun g e => by cases e)

/-- The loop over the records of an image. -/
theorem loop_records {assign body : Code} {Q : Exit → Act → World → Prop} {a : Act} {w : World} {n : Nat} (s : ByteArray) (hs : s.size ≤ 1048576) (R : Nat → RecT) (hR : ∀ n, RecOk s.size n (R n)) (HRd : Hid (ReadSaid 60 s R)) (Bn : Nat)
    (hg : a.eval (.tmp 20) = .func (.func 59) #[] #[.pointer (some ⟨Bn, 0, none⟩)]) (hBn : w.heap[Bn]? = some (.cells #[.string s] 9))
    (I : List RecB → World → Prop) (Ix : Code → List RecB → World → Prop) (hI : AbidesI w.heap.size I) (hIx : ∀ c, AbidesI w.heap.size (Ix c)) (h0 : I [] w) (Ax : RecB → Act → World → Prop) (hAx : ∀ x a' W l q o', Ax x a' W → W.heap[l]? = some (.loop q) → Ax x a' (W.putObj l o'))
    (hassign : ∀ (l : Nat) (x : RecB) (W : World) (K : Act → World → Prop), (∀ a' o, Ax x a' (W.alloc o) → K a' (W.alloc o)) →
      assign.wpIn (Fence.wide.inRound l) (n - 1 - 1) Tryz.prog (Exit.then K (fun _ _ _ => False)) { tmps := a.tmps.setIfInBounds 21 (recT x.1), defers := [] } W)
    (hbody : ∀ (l : Nat) (pre : List RecB) (x : RecB) (a' : Act) (W : World), I pre W → Ax x a' W → pre.length < 16384 → body.wpIn (Fence.wide.inRound l) (n - 1 - 1) Tryz.prog (roundLeft w.heap.size Bn I Ix (pre ++ [x]) W) a' W)
    (hdone : ∀ (D : Nat) (xs : List RecB) (W : World), w.heap.size ≤ D → Chain R xs → (R (secOf xs)).k = 0 → I xs W → W.heap[D]? = some (.deferred (some [])) → Q .normal { a with defers := { target := .collected D, args := #[] } :: a.defers } W)
    (hstop : ∀ (D : Nat) (c : Code) (pre : List RecB) (W : World), w.heap.size ≤ D → Chain R pre → Ix c pre W → W.heap[D]? = some (.deferred (some [])) → c.wpIn Fence.wide n Tryz.prog Q { a with defers := { target := .collected D, args := #[] } :: a.defers } W) :
    (Code.rangeFunc (.tmp 20) #[21] assign body).wpIn Fence.wide n Tryz.prog Q a w := by
  refine wpIn_rangeFunc fun fn hfn => ?_
  obtain ⟨D, hD⟩ : ∃ D, w.heap.size = D := ⟨_, rfl⟩
  obtain ⟨mk, hmk⟩ : ∃ mk : LoopState → Option Code → Loop, mk = fun st pe => { state := st, pending := pe, fn, tmps := a.tmps, params := #[21], assign, body, defers := D } := ⟨_, rfl⟩
  obtain ⟨W1, hW1⟩ : ∃ W1, (w.alloc (.deferred (some []))).alloc (.loop (mk .ready none)) = W1 := ⟨_, rfl⟩
  rw [hD] at hI hIx hbody hdone hstop
  have hz1 : W1.heap.size = D + 2 := by rw [← hW1]; simp; omega
  have hL1 : W1.heap[D + 1]? = some (.loop (mk .ready none)) := by
    rw [← hW1, ← hD]; have := World.alloc_heap_new (w.alloc (.deferred (some []))) (.loop (mk .ready none)); rwa [World.size_alloc] at this
  have hK1 : W1.heap[D]? = some (.deferred (some [])) := by
    rw [← hW1, ← hD]; exact (Below.heap_alloc _ _ _ (by simp)).trans (World.alloc_heap_new w _)
  have hI1 : I [] W1 := by rw [← hW1]; exact hI.new _ (hI.new _ h0)
  have hB1 : W1.heap[Bn]? = some (.cells #[.string s] 9) := by
    have hlt := (Array.getElem?_eq_some_iff.1 hBn).1
    rw [← hW1]; exact (Below.heap_alloc _ _ Bn (by simp; omega)).trans ((Below.heap_alloc _ _ Bn hlt).trans hBn)
  refine ⟨D + 1, [{ target := .collected D, args := #[] }], W1, { target := .fn (.func 59) #[.pointer (some ⟨Bn, 0, none⟩)], args := #[.func (.yield (D + 1)) #[] #[]] }, W1, 59,
    #[.func (.yield (D + 1)) #[] #[]] ++ #[.pointer (some ⟨Bn, 0, none⟩)], W1, ?_, ?_, (fun _ _ => trivial), ?_, (fun h => by cases h), ?_⟩
  · rw [← hW1, hmk, ← hD]; exact run_enterLoop_outer _ _ _ _ _
  · simp only [resolve, hg]
    simp [go_sem]
  · simp [invoke, go_sem]
  · have hJ : AbidesR (D + 2) (fun pre W => I pre W ∧ W.heap[D + 1]? = some (.loop (mk .ready none)) ∧ W.heap[D]? = some (.deferred (some []))) := fun t A B row hA hg' hr => by
      obtain ⟨q1, q2, q3⟩ := hA
      refine ⟨hI t A B row q1 hg' (fun g e => ⟨by have := (hr g e).1; omega, fun o ho => ?_⟩), (hg'.block _ (Array.getElem?_eq_some_iff.1 q2).1 (fun e => by have := (hr _ e.symm).1; omega)).trans q2, (hg'.block _ (Array.getElem?_eq_some_iff.1 q3).1 (fun e => by have := (hr _ e.symm).1; omega)).trans q3⟩
      obtain ⟨_, cs, hc⟩ := hr g e
      rw [hc] at ho; cases ho; exact no_row_rec cs
    refine (rec1_in s hs R hR HRd (n - 1) (D + 1) Bn (D + 2) (fun pre W => I pre W ∧ W.heap[D + 1]? = some (.loop (mk .ready none)) ∧ W.heap[D]? = some (.deferred (some [])))
      (fun pre W => ∃ c, Ix c pre W ∧ W.heap[D + 1]? = some (.loop (mk .done (some c))) ∧ W.heap[D]? = some (.deferred (some []))) hJ ?_ W1 hz1 hB1 ⟨hI1, hL1, hK1⟩).mono ?_
    · rintro pre x W ⟨hi, hl, hk⟩ hlen
      have hlt : D + 1 < W.heap.size := (Array.getElem?_eq_some_iff.1 hl).1
      have hy := run_yield (P := Tryz.prog) (args := #[recT x.1]) hl (by rw [hmk]; rfl)
      rw [hmk] at hy
      refine ⟨fn, a.tmps.setIfInBounds 21 (recT x.1), assign, body, (by rw [hy]; simp), roundIn_of_wpIn hfn (hassign _ x W _ fun a' o hax => ?_)⟩
      have hlo : (W.alloc o).heap[D + 1]? = some (.loop (mk .ready none)) := (Below.heap_alloc W o _ hlt).trans hl
      have hko : (W.alloc o).heap[D]? = some (.deferred (some [])) := (Below.heap_alloc W o _ (by omega)).trans hk
      have hio := hI.new o hi
      refine ⟨_, run_beginRound hlo (by rw [hmk]), ?_⟩
      obtain ⟨W2, hW2⟩ : ∃ W2, (W.alloc o).putObj (D + 1) (.loop { mk .ready none with state := .busy }) = W2 := ⟨_, rfl⟩
      have hl2 : W2.heap[D + 1]? = some (.loop { mk .ready none with state := .busy }) := by rw [← hW2]; exact World.putObj_heap_same (by simp; omega)
      have hk2 : W2.heap[D]? = some (.deferred (some [])) := by rw [← hW2]; exact (World.putObj_heap_other (by omega)).trans hko
      have hi2 : I pre W2 := by rw [← hW2]; exact hI.put _ hio (by omega) hlo (no_row_loop _)
      have ha2 : Ax x a' W2 := by rw [← hW2]; exact hAx x a' _ _ _ _ hax hlo
      have hoth : ∀ k, k < W.heap.size → k ≠ D + 1 → W2.heap[k]? = W.heap[k]? := fun k hk1 hk2 => by rw [← hW2]; exact (World.putObj_heap_other (fun e => hk2 e)).trans (Below.heap_alloc W o k hk1)
      have hBl : Bn < D := by rw [← hD]; exact (Array.getElem?_eq_some_iff.1 hBn).1
      rw [hW2]
      refine wpIn_mono (hbody _ pre x a' W2 hi2 ha2 hlen) ?_
      have fin : ∀ (jump : Option Code) (W3 : World), Sm D W2 W3 →
          (Instr.endRound (D + 1) jump).run Tryz.prog W3 = .ok (.bool jump.isNone) (W3.putObj (D + 1) (.loop (mk (if jump.isNone then .ready else .done) jump))) ∧
          W3.heap[D + 1]? = some (.loop { mk .ready none with state := .busy }) ∧
          (W3.putObj (D + 1) (.loop (mk (if jump.isNone then .ready else .done) jump))).heap[D + 1]? = some (.loop (mk (if jump.isNone then .ready else .done) jump)) ∧
          (W3.putObj (D + 1) (.loop (mk (if jump.isNone then .ready else .done) jump))).heap[D]? = some (.deferred (some [])) := fun jump W3 hk3 => by
        have hl3 := hk3.same _ _ (by omega) hl2 (no_row_loop _)
        have hrun := run_endRound (P := Tryz.prog) jump hl3
        have hk4 := hk3.same _ _ (Nat.le_refl _) hk2 (no_row_def _)
        rw [hmk] at hrun hl3 ⊢
        exact ⟨hrun, hl3, World.putObj_heap_same (Array.getElem?_eq_some_iff.1 hl3).1, (World.putObj_heap_other (by omega)).trans hk4⟩
      rintro e a3 W3 hp
      cases e with
      | normal =>
        obtain ⟨hk3, hb3, hi3⟩ := hp
        obtain ⟨hr, hl3, hl4, hk4⟩ := fin none W3 hk3
        refine ⟨_, _, hr, .inl ⟨rfl, ⟨hI.put _ hi3 (by omega) hl3 (no_row_loop _), hl4, hk4⟩, fun k cs hk hc => ?_, ?_⟩⟩
        · have hkl := (Array.getElem?_eq_some_iff.1 hc).1
          have e2 := hoth k hkl (by omega)
          have e3 := hk3.same k _ (by omega) (e2.trans hc) (no_row_rec cs)
          rw [hc]
          exact (World.putObj_heap_other (by omega)).trans e3
        · have e2 := hoth Bn (by omega) (by omega)
          exact (World.putObj_heap_other (by omega)).trans (hb3.trans e2)
      | exit id =>
        obtain ⟨hk3, hi3⟩ := hp
        obtain ⟨hr, hl3, hl4, hk4⟩ := fin (some (.exit id)) W3 hk3
        exact ⟨_, _, hr, .inr ⟨rfl, .exit id, (hIx _).put _ hi3 (by omega) hl3 (no_row_loop _), hl4, hk4⟩⟩
      | ret => exact hp.elim
      | goto t => exact hp.elim
      | panic ch => exact hp.elim
      | outgrown => exact hp.elim
    · rintro e W2 ⟨⟨v, rfl⟩, (⟨xs, ⟨hC, hz⟩, hi, hl, hk⟩ | ⟨pre, hC, c, hi, hl, hk⟩)⟩
      · exact ⟨none, _, by have := run_endLoop (P := Tryz.prog) hl (by rw [hmk]; simp); rw [hmk] at this; exact this, hdone _ xs _ (Nat.le_refl _) hC hz (hI.put _ hi (by omega) hl (no_row_loop _)) ((World.putObj_heap_other (by omega)).trans hk)⟩
      · exact ⟨some c, _, by have := run_endLoop (P := Tryz.prog) hl (by rw [hmk]; simp); rw [hmk] at this; exact this, hstop _ c pre _ (Nat.le_refl _) hC ((hIx c).put _ hi (by omega) hl (no_row_loop _)) ((World.putObj_heap_other (by omega)).trans hk)⟩
end Go.Proofs.YtmfhfehemoeeeaaGreatDoor
namespace Go.Proofs.YtmfhfehemoeeeaaGreatDoor
open Go.RowKit Go.Proofs.Sha Go.Shelf
attribute [local go_sem] Oper.semAt_some

def stepRc (wd : Nat) (st : SS) (x : RecT) : Option SS :=
  if x.k = 1 then some ⟨st.nodes, st.aside ++ [x.enc], st.roots, st.fin, x.nx⟩
  else if x.k = 2 ∧ goodC wd st x = true then some ⟨st.nodes ++ st.aside, [], st.roots ++ [x.root], x.nx * 64, x.nx⟩
  else none
inductive Runs (wd : Nat) : List RecB → SS → Prop where
  | nil : Runs wd [] st0
  | snoc {pre : List RecB} {x : RecB} {st st' : SS} : Runs wd pre st → stepRc wd st x.1 = some st' → Runs wd (pre ++ [x]) st'
theorem stepRc_sec {wd : Nat} {st st' : SS} {x : RecT} (h : stepRc wd st x = some st') : st'.sec = x.nx := by
  unfold stepRc at h
  split at h
  · obtain rfl := Option.some.inj h; rfl
  · split at h
    · obtain rfl := Option.some.inj h; rfl
    · cases h
theorem Runs.sec {wd : Nat} {pre : List RecB} {st : SS} (h : Runs wd pre st) : st.sec = secOf pre := by
  cases h with
  | nil => rfl
  | snoc _ hs => rw [secOf_snoc]; exact stepRc_sec hs
theorem Runs.len {wd : Nat} {pre : List RecB} {st : SS} (h : Runs wd pre st) : st.nodes.length + st.aside.length + st.roots.length ≤ pre.length := by
  induction h with
  | nil => exact Nat.zero_le _
  | snoc _ hs ih =>
    unfold stepRc at hs
    split at hs
    · obtain rfl := Option.some.inj hs
      simp; omega
    · split at hs
      · obtain rfl := Option.some.inj hs
        simp; omega
      · cases hs
theorem Chain.back {R : Nat → RecT} {pre : List RecB} {x : RecB} (h : Chain R (pre ++ [x])) : Chain R pre ∧ x.1 = R (secOf pre) := by
  generalize hl : pre ++ [x] = l at h
  cases h with
  | nil => simp at hl
  | snoc h1 h2 =>
    have := List.append_inj' hl rfl
    obtain ⟨rfl, e⟩ := this
    obtain rfl := List.cons.inj e |>.1
    exact ⟨h1, h2⟩
theorem Runs.reach {R : Nat → RecT} {wd : Nat} {pre : List RecB} {st : SS} (h : Runs wd pre st) (hC : Chain R pre) : Reach R wd st := by
  induction h with
  | nil => exact Reach.zero
  | @snoc pre x st st' hr hs ih =>
    obtain ⟨h1, h2⟩ := hC.back
    refine Reach.step (ih h1) ?_
    rw [← hr.sec] at h2
    rw [h2] at hs
    exact hs
/-- Where the log's block, its map and what lies below stand still. -/
structure Keep (lb r base : Nat) (w w' : World) : Prop where
  os : w'.os = w.os
  tape : w'.tape = w.tape
  output : w'.output = w.output
  size : w.heap.size ≤ w'.heap.size
  oth : ∀ k, k < base → k ≠ lb → k ≠ r → w'.heap[k]? = w.heap[k]?
theorem Keep.refl (lb r base : Nat) (w : World) : Keep lb r base w w := ⟨rfl, rfl, rfl, Nat.le_refl _, fun _ _ _ _ => rfl⟩
theorem Keep.turn {lb r base : Nat} {a b c : World} (h : Keep lb r base a b) (k : Turn lb r base b c) : Keep lb r base a c :=
  ⟨k.os.trans h.os, k.tape.trans h.tape, k.output.trans h.output, Nat.le_trans h.size k.size, fun i h1 h2 h3 => (k.oth i h1 h2 h3).trans (h.oth i h1 h2 h3)⟩
theorem Keep.grown {lb r base : Nat} {a b c : World} {row : Option Nat} (h : Keep lb r base a b) (hg : b.grownBy c row) (hr : ∀ g, row = some g → base ≤ g) (hb : base ≤ b.heap.size) : Keep lb r base a c :=
  ⟨hg.os.trans h.os, hg.tape.trans h.tape, hg.output.trans h.output, Nat.le_trans h.size hg.size, fun i h1 h2 h3 => (hg.block i (by omega) (fun e => by have := hr i e.symm; omega)).trans (h.oth i h1 h2 h3)⟩
theorem Keep.below {lb r base n : Nat} {w w' : World} (h : Keep lb r base w w') (h1 : n ≤ lb) (h2 : n ≤ r) (h3 : lb < base) : Below n w w' :=
  ⟨h.os, h.tape, h.output, h.size, fun k hk => h.oth k (by omega) (by omega) (by omega)⟩
/-- What stands between two rounds. -/
def Betw (lb r base wd : Nat) (wL : World) (st : SS) (W : World) : Prop := (∃ aN cN aR cR aA cA, LogAt lb r base wd st aN cN aR cR aA cA W) ∧ Keep lb r base wL W
theorem Betw.abides {lb r base wd : Nat} {wL : World} {st : SS} {W W' : World} {row : Option Nat} (h : Betw lb r base wd wL st W) (hg : W.grownBy W' row) (hr : ∀ g, row = some g → base ≤ g ∧ ∀ o, W.heap[g]? = some o → ∀ cur, o ≠ .cells cur 9 (0, 0)) : Betw lb r base wd wL st W' := by
  obtain ⟨⟨aN, cN, aR, cR, aA, cA, hL⟩, hK⟩ := h
  have h1 := hL.hl
  have h2 := hL.hr
  exact ⟨⟨aN, cN, aR, cR, aA, cA, hL.kept hg (fun g e => by have := (hr g e).1; omega) (fun g o e _ ho => (hr g e).2 o ho)⟩, hK.grown hg (fun g e => (hr g e).1) hL.hb⟩
def II (lb r base wd : Nat) (wL : World) (pre : List RecB) (W : World) : Prop := ∃ st, Runs wd pre st ∧ Betw lb r base wd wL st W
def IIx (lb r base wd : Nat) (wL : World) (c : Code) (pre : List RecB) (W : World) : Prop := c = .exit 0 ∧ ∃ pre' x st, pre = pre' ++ [x] ∧ Runs wd pre' st ∧ stepRc wd st x.1 = none ∧ Betw lb r base wd wL st W
end Go.Proofs.YtmfhfehemoeeeaaGreatDoor
