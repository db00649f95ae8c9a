import Derived.Test.YtibjhkpgaaapaaaGreatDoorZvaa
import Derived.Test.YtibjhkpgaaapaaaGreatDoorProg
import Derived.Deep.MidRow
import Derived.Test.YtibjhkpgaaapaaaGreatDoorZvaj
import Derived.Test.YtibjhkpgaaapaaaGreatDoorZvas
import Derived.Deep.RegionHeld3
import Derived.Deep.Cut
import Derived.Lib.Builder
namespace Go.Proofs.Sha

/-- A tree of whatever, by itself. -/
inductive Tr (α : Type) where
  | nil : Tr α
  | node (l : Tr α) (x : α) (r : Tr α) : Tr α
section
variable {α : Type} (ab : α → α → Bool)
def Tr.inord : Tr α → List α
  | .nil => []
  | .node l x r => l.inord ++ x :: r.inord
def Tr.size : Tr α → Nat
  | .nil => 0
  | .node l _ r => l.size + r.size + 1
/-- Each is above all below it. -/
def Tr.heap : Tr α → Prop
  | .nil => True
  | .node l x r => (∀ y ∈ l.inord, ab x y = true) ∧ (∀ y ∈ r.inord, ab x y = true) ∧ l.heap ∧ r.heap
/-- Two trees joined, the first ahead of the second. -/
def Tr.merge : Tr α → Tr α → Tr α
  | .nil, b => b
  | .node l x r, .nil => .node l x r
  | .node l x r, .node l2 y r2 => if ab x y then .node l x (Tr.merge r (.node l2 y r2)) else .node (Tr.merge (.node l x r) l2) y r2
termination_by a b => a.size + b.size
decreasing_by
  all_goals simp only [Tr.size]; omega
theorem Tr.merge_nil (a : Tr α) : Tr.merge ab a .nil = a := by
  cases a <;> simp [Tr.merge]
theorem Tr.merge_inord (a b : Tr α) : (Tr.merge ab a b).inord = a.inord ++ b.inord := by
  fun_induction Tr.merge ab a b with
  | case1 b => rfl
  | case2 l x r => simp [Tr.inord]
  | case3 l x r l2 y r2 h ih => simp only [Tr.inord] at ih ⊢; rw [ih]; simp
  | case4 l x r l2 y r2 h ih => simp only [Tr.inord] at ih ⊢; rw [ih]; simp
/-- What is asked of the order, among the elements of a list: of two one is above the other, and not the other way; it goes on from one to the next. -/
structure Ranked (l : List α) : Prop where
  tot : ∀ x ∈ l, ∀ y ∈ l, x ≠ y → ab x y = true ∨ ab y x = true
  asy : ∀ x ∈ l, ∀ y ∈ l, ab x y = true → ab y x = false
  tra : ∀ x ∈ l, ∀ y ∈ l, ∀ z ∈ l, ab x y = true → ab y z = true → ab x z = true
theorem Ranked.sub {l m : List α} (h : Ranked ab l) (hs : ∀ x ∈ m, x ∈ l) : Ranked ab m :=
  ⟨fun x hx y hy => h.tot x (hs x hx) y (hs y hy), fun x hx y hy => h.asy x (hs x hx) y (hs y hy), fun x hx y hy z hz => h.tra x (hs x hx) y (hs y hy) z (hs z hz)⟩
theorem Tr.merge_heap (a b : Tr α) (ha : a.heap ab) (hb : b.heap ab) (hr : Ranked ab (a.inord ++ b.inord)) (hd : ∀ x ∈ a.inord, ∀ y ∈ b.inord, x ≠ y) : (Tr.merge ab a b).heap ab := by
  fun_induction Tr.merge ab a b with
  | case1 b => exact hb
  | case2 l x r => exact ha
  | case3 l x r l2 y r2 h ih =>
    obtain ⟨p1, p2, p3, p4⟩ := ha
    have hxm : x ∈ (Tr.node l x r).inord ++ (Tr.node l2 y r2).inord := by simp [Tr.inord]
    have hym : y ∈ (Tr.node l x r).inord ++ (Tr.node l2 y r2).inord := by simp [Tr.inord]
    refine ⟨p1, fun z hz => ?_, p3, ih p4 hb (hr.sub ab (fun z hz => ?_)) (fun u hu v hv => hd u (by simp [Tr.inord, hu]) v hv)⟩
    · rw [Tr.merge_inord, List.mem_append] at hz
      rcases hz with hz | hz
      · exact p2 z hz
      · obtain ⟨q1, q2, _, _⟩ := hb
        have hzm : z ∈ (Tr.node l x r).inord ++ (Tr.node l2 y r2).inord := List.mem_append_right _ hz
        simp only [Tr.inord, List.mem_append, List.mem_cons] at hz
        rcases hz with hz | rfl | hz
        · exact hr.tra x hxm y hym z hzm h (q1 z hz)
        · exact h
        · exact hr.tra x hxm y hym z hzm h (q2 z hz)
    · rw [List.mem_append] at hz ⊢
      rcases hz with hz | hz
      · left; simp [Tr.inord, hz]
      · exact .inr hz
  | case4 l x r l2 y r2 h ih =>
    obtain ⟨p1, p2, p3, p4⟩ := hb
    have hxm : x ∈ (Tr.node l x r).inord ++ (Tr.node l2 y r2).inord := by simp [Tr.inord]
    have hym : y ∈ (Tr.node l x r).inord ++ (Tr.node l2 y r2).inord := by simp [Tr.inord]
    have hyx : ab y x = true := by
      rcases hr.tot x hxm y hym (hd x (by simp [Tr.inord]) y (by simp [Tr.inord])) with q | q
      · exact absurd q h
      · exact q
    refine ⟨fun z hz => ?_, p2, ih ha p3 (hr.sub ab (fun z hz => ?_)) (fun u hu v hv => hd u hu v (by simp [Tr.inord, hv])), p4⟩
    · rw [Tr.merge_inord, List.mem_append] at hz
      rcases hz with hz | hz
      · obtain ⟨q1, q2, _, _⟩ := ha
        have hzm : z ∈ (Tr.node l x r).inord ++ (Tr.node l2 y r2).inord := List.mem_append_left _ hz
        simp only [Tr.inord, List.mem_append, List.mem_cons] at hz
        rcases hz with hz | rfl | hz
        · exact hr.tra y hym x hxm z hzm hyx (q1 z hz)
        · exact hyx
        · exact hr.tra y hym x hxm z hzm hyx (q2 z hz)
      · exact p1 z hz
    · rw [List.mem_append] at hz ⊢
      rcases hz with hz | hz
      · exact .inl hz
      · right; simp [Tr.inord, hz]
/-- In a list without doubles an element stands at one place. -/
theorem split_one {x : α} : ∀ {l r l2 r2 : List α}, (l ++ x :: r).Nodup → l ++ x :: r = l2 ++ x :: r2 → l = l2 ∧ r = r2
  | [], _, [], _, _, h => by simp at h; exact ⟨rfl, h⟩
  | [], r, y :: l2, r2, hn, h => by
    simp at h
    obtain ⟨rfl, h2⟩ := h
    rw [h2] at hn
    simp at hn
  | y :: l, r, [], r2, hn, h => by
    simp at h
    obtain ⟨rfl, _⟩ := h
    simp at hn
  | y :: l, r, z :: l2, r2, hn, h => by
    simp only [List.cons_append, List.cons.injEq] at h
    obtain ⟨rfl, h2⟩ := h
    have hn2 : (l ++ x :: r).Nodup := by
      rw [List.cons_append, List.nodup_cons] at hn
      exact hn.2
    obtain ⟨q1, q2⟩ := split_one hn2 h2
    exact ⟨by rw [q1], q2⟩
/-- One tree at most. -/
theorem Tr.unique (a b : Tr α) (ha : a.heap ab) (hb : b.heap ab) (h : a.inord = b.inord) (hn : a.inord.Nodup) (hr : Ranked ab a.inord) : a = b := by
  induction a generalizing b with
  | nil =>
    cases b with
    | nil => rfl
    | node l x r => simp [Tr.inord] at h
  | node l x r ihl ihr =>
    cases b with
    | nil => simp [Tr.inord] at h
    | node l2 y r2 =>
      obtain ⟨p1, p2, p3, p4⟩ := ha
      obtain ⟨q1, q2, q3, q4⟩ := hb
      simp only [Tr.inord] at h hn hr
      have hxm : x ∈ l.inord ++ x :: r.inord := by simp
      have hym : y ∈ l.inord ++ x :: r.inord := by rw [h]; simp
      have hxy : x = y := by
        apply Classical.byContradiction
        intro hne
        have h1 : ab x y = true := by
          have := hym
          simp only [List.mem_append, List.mem_cons] at this
          rcases this with m | m | m
          · exact p1 y m
          · exact absurd m.symm hne
          · exact p2 y m
        have h2 : ab y x = true := by
          have := hxm
          rw [h] at this
          simp only [List.mem_append, List.mem_cons] at this
          rcases this with m | m | m
          · exact q1 x m
          · exact absurd m hne
          · exact q2 x m
        have := hr.asy x hxm y hym h1
        rw [h2] at this
        cases this
      subst hxy
      obtain ⟨e1, e2⟩ := split_one hn h
      have hnl : l.inord.Nodup := (List.nodup_append.1 hn).1
      have hnr : r.inord.Nodup := (List.nodup_cons.1 (List.nodup_append.1 hn).2.1).2
      rw [ihl l2 p3 q3 e1 hnl (hr.sub ab (fun z hz => by simp [hz])), ihr r2 p4 q4 e2 hnr (hr.sub ab (fun z hz => by simp [hz]))]
end
end Go.Proofs.Sha
namespace Go.Proofs.YtibjhkpgaaapaaaGreatDoor
open Go.RowKit Go.Proofs.Sha

/-- A key's rank, as cells. -/
def rankL (X : List UInt8) (k : ByteArray) : List Value := X.map B ++ [Value.string k]
/-- A tree's node, as cells. -/
def treeL (X : List UInt8) (k v : ByteArray) (l r : Option Addr) (enc h : ByteArray) : List Value := [.string k, .string v] ++ rankL X k ++ [.pointer l, .pointer r, .string enc, .string h]
theorem built2_e (x0 x1 x2 x3 x4 x5 x6 x7 x8 x9 x10 x11 x12 x13 x14 x15 x16 x17 x18 x19 x20 x21 x22 x23 x24 x25 x26 x27 x28 x29 x30 x31 : UInt8) (k v : ByteArray) : Tryz.prog.built 251 [(0, .agg #[.string k, .string v]), (1, .agg ([x0, x1, x2, x3, x4, x5, x6, x7, x8, x9, x10, x11, x12, x13, x14, x15, x16, x17, x18, x19, x20, x21, x22, x23, x24, x25, x26, x27, x28, x29, x30, x31].map B ++ [Value.string k]).toArray)] = some (treeL [x0, x1, x2, x3, x4, x5, x6, x7, x8, x9, x10, x11, x12, x13, x14, x15, x16, x17, x18, x19, x20, x21, x22, x23, x24, x25, x26, x27, x28, x29, x30, x31] k v none none ⟨#[]⟩ ⟨#[]⟩).toArray := by kernel_rfl
theorem built4_e (x0 x1 x2 x3 x4 x5 x6 x7 x8 x9 x10 x11 x12 x13 x14 x15 x16 x17 x18 x19 x20 x21 x22 x23 x24 x25 x26 x27 x28 x29 x30 x31 : UInt8) (k v : ByteArray) (l r : Option Addr) : Tryz.prog.built 251 [(0, .agg #[.string k, .string v]), (1, .agg ([x0, x1, x2, x3, x4, x5, x6, x7, x8, x9, x10, x11, x12, x13, x14, x15, x16, x17, x18, x19, x20, x21, x22, x23, x24, x25, x26, x27, x28, x29, x30, x31].map B ++ [Value.string k]).toArray), (2, .pointer l), (3, .pointer r)] = some (treeL [x0, x1, x2, x3, x4, x5, x6, x7, x8, x9, x10, x11, x12, x13, x14, x15, x16, x17, x18, x19, x20, x21, x22, x23, x24, x25, x26, x27, x28, x29, x30, x31] k v l r ⟨#[]⟩ ⟨#[]⟩).toArray := by kernel_rfl
theorem list32 (X : List UInt8) (h : X.length = 32) : ∃ x0 x1 x2 x3 x4 x5 x6 x7 x8 x9 x10 x11 x12 x13 x14 x15 x16 x17 x18 x19 x20 x21 x22 x23 x24 x25 x26 x27 x28 x29 x30 x31 : UInt8, X = [x0, x1, x2, x3, x4, x5, x6, x7, x8, x9, x10, x11, x12, x13, x14, x15, x16, x17, x18, x19, x20, x21, x22, x23, x24, x25, x26, x27, x28, x29, x30, x31] := by
  match X, h with
  | [x0, x1, x2, x3, x4, x5, x6, x7, x8, x9, x10, x11, x12, x13, x14, x15, x16, x17, x18, x19, x20, x21, x22, x23, x24, x25, x26, x27, x28, x29, x30, x31], _ => exact ⟨_, _, _, _, _, _, _, _, _, _, _, _, _, _, _, _, _, _, _, _, _, _, _, _, _, _, _, _, _, _, _, _, rfl⟩
theorem built2 (X : List UInt8) (h : X.length = 32) (k v : ByteArray) : Tryz.prog.built 251 [(0, .agg #[.string k, .string v]), (1, .agg (rankL X k).toArray)] = some (treeL X k v none none ⟨#[]⟩ ⟨#[]⟩).toArray := by
  obtain ⟨x0, x1, x2, x3, x4, x5, x6, x7, x8, x9, x10, x11, x12, x13, x14, x15, x16, x17, x18, x19, x20, x21, x22, x23, x24, x25, x26, x27, x28, x29, x30, x31, rfl⟩ := list32 X h
  exact built2_e x0 x1 x2 x3 x4 x5 x6 x7 x8 x9 x10 x11 x12 x13 x14 x15 x16 x17 x18 x19 x20 x21 x22 x23 x24 x25 x26 x27 x28 x29 x30 x31 k v
theorem built4 (X : List UInt8) (h : X.length = 32) (k v : ByteArray) (l r : Option Addr) : Tryz.prog.built 251 [(0, .agg #[.string k, .string v]), (1, .agg (rankL X k).toArray), (2, .pointer l), (3, .pointer r)] = some (treeL X k v l r ⟨#[]⟩ ⟨#[]⟩).toArray := by
  obtain ⟨x0, x1, x2, x3, x4, x5, x6, x7, x8, x9, x10, x11, x12, x13, x14, x15, x16, x17, x18, x19, x20, x21, x22, x23, x24, x25, x26, x27, x28, x29, x30, x31, rfl⟩ := list32 X h
  exact built4_e x0 x1 x2 x3 x4 x5 x6 x7 x8 x9 x10 x11 x12 x13 x14 x15 x16 x17 x18 x19 x20 x21 x22 x23 x24 x25 x26 x27 x28 x29 x30 x31 k v l r
end Go.Proofs.YtibjhkpgaaapaaaGreatDoor
namespace Go.Proofs.YtibjhkpgaaapaaaGreatDoor
open Go.RowKit Go.Proofs.Sha

/-- A pointer that may be compared: none, or the beginning of a block. -/
def PtrT (p : Option Addr) (w : World) : Prop := p = none ∨ ∃ (x : Nat) (cs : Array Value) (u : TypeId), p = some ⟨x, 0, none⟩ ∧ w.heap[x]? = some (.cells cs u (0, 0))
theorem size52 : (Tryz.prog.info? 249).map (·.size) = some 33 := by kernel_rfl
theorem size37 : (Tryz.prog.info? 81).map (·.size) = some 2 := by kernel_rfl
theorem size54 : (Tryz.prog.info? 251).map (·.size) = some 39 := by kernel_rfl
theorem info54 : ∃ j, Tryz.prog.info? 251 = some j ∧ j.size ≠ 0 := by
  obtain ⟨j, h1, h2⟩ := Option.map_eq_some_iff.1 size54
  exact ⟨j, h1, by rw [h2]; decide⟩
theorem yieldsIf_build {P : Program} {ops : Array Oper} {S : World → Prop} {o : Oper} {a : Act} (hw : Region.wanted o (yielded ops a.tmps) = true) (t : TypeId) (parts : Array (Nat × Operand)) (ho : o.op = .build t parts) (cells : Array Value)
    (hb : P.built t (parts.toList.map fun (i, x) => (i, a.eval x)) = some cells) : YieldsIf P ops S o (.agg cells) a := by
  refine .inl ⟨hw, fun w _ => ?_⟩
  rw [← Array.toList_map] at hb
  unfold execOp
  simp only [ho, Sem.run_bind, run_build w t _ cells hb, Result.andThen_ok, Sem.run_pure]
theorem wp_box_row {P : Program} {o : Oper} {a : Act} {w : World} {K : Act → World → Prop} {Q : Exit → Act → World → Prop} (ty : TypeId) (x : Operand) (ho : o.op = .box ty x) (cs : Array Value) (hx : a.eval x = .agg cs)
    (h : K (a.put o.dst (.pointer (some ⟨w.heap.size, 0, none⟩))) (w.alloc (.cells cs ty))) : o.wp P a w K Q := by
  unfold Oper.wp execOp
  simp only [ho, hx]
  exact h
theorem rank_size (X : List UInt8) (h : X.length = 32) (k : ByteArray) : (Tryz.prog.info? 249).map (·.size) = some (rankL X k).length := by
  have e : (rankL X k).length = 33 := by unfold rankL; rw [List.length_append, List.length_map, h]; rfl
  rw [e]; exact size52
theorem ptr_eql (a b : Option Addr) (w : World) (ha : PtrT a w) (hb : PtrT b w) : (binOp .eql 115 (.pointer a) (.pointer b)).run Tryz.prog w = .ok (.bool (decide (a = b))) w := by
  obtain ⟨j, h1, h2⟩ := info54
  exact run_eql_ptr 115 251 j Tryz.underlying115 h1 h2 a b w ha hb
theorem tree_get (X : List UInt8) (hX : X.length = 32) (k v : ByteArray) (pl pr : Option Addr) (enc h : ByteArray) :
    (treeL X k v pl pr enc h)[35]? = some (.pointer pl) ∧ (treeL X k v pl pr enc h)[36]? = some (.pointer pr) ∧ (treeL X k v pl pr enc h)[37]? = some (.string enc) ∧ (treeL X k v pl pr enc h)[38]? = some (.string h) ∧ (treeL X k v pl pr enc h)[0]? = some (.string k) ∧ (treeL X k v pl pr enc h)[1]? = some (.string v) := by
  have hl : (X.map B).length = 32 := by rw [List.length_map, hX]
  have e : treeL X k v pl pr enc h = ([.string k, .string v] ++ (X.map B ++ [Value.string k])) ++ [.pointer pl, .pointer pr, .string enc, .string h] := by unfold treeL rankL; simp
  have hl2 : ([Value.string k, .string v] ++ (X.map B ++ [Value.string k])).length = 35 := by simp [hX]
  refine ⟨?_, ?_, ?_, ?_, rfl, rfl⟩ <;> (rw [e, List.getElem?_append_right (by omega), hl2]; rfl)
theorem tree_rank (X : List UInt8) (_hX : X.length = 32) (k v : ByteArray) (pl pr : Option Addr) (enc h : ByteArray) (j : Nat) (u : Value) (hj : (rankL X k)[j]? = some u) : (treeL X k v pl pr enc h)[2 + j]? = some u := by
  have hlt : j < (rankL X k).length := (List.getElem?_eq_some_iff.1 hj).1
  have e : treeL X k v pl pr enc h = [.string k, .string v] ++ (rankL X k ++ [.pointer pl, .pointer pr, .string enc, .string h]) := by unfold treeL; simp
  rw [e, List.getElem?_append_right (by simp), List.getElem?_append_left (by simpa using hlt)]
  simpa using hj

set_option maxRecDepth 100000 in
set_option maxHeartbeats 1000000 in
theorem withT_any (b : Nat) (X : List UInt8) (hX : X.length = 32) (k v : ByteArray) (pl pr l r : Option Addr) (enc h : ByteArray) (w : World) (hb : w.heap[b]? = some (.cells (treeL X k v pl pr enc h).toArray 251))
    (p1 : PtrT pl w) (p2 : PtrT pr w) (p3 : PtrT l w) (p4 : PtrT r w) (hne : ¬ (l = pl ∧ r = pr)) :
    Calls Tryz.prog 165 #[.pointer (some ⟨b, 0, none⟩), .pointer l, .pointer r] w fun e w' => ∃ g, e = .returned (.pointer (some ⟨g, 0, none⟩)) ∧ w.heap.size ≤ g ∧ w'.heap[g]? = some (.cells (treeL X k v l r ⟨#[]⟩ ⟨#[]⟩).toArray 251) ∧ Below w.heap.size w w' := by
  have q1 := ptr_eql l pl w p3 p1
  have q2 := ptr_eql r pr w p4 p2
  have hlen : (X.map B).length = 32 := by rw [List.length_map, hX]
  obtain ⟨g35, g36, g37, g38, g0, g1⟩ := tree_get X hX k v pl pr enc h
  have c35 : w.cell? ⟨b, 35, none⟩ = some (.pointer pl) := (Lib.cell_of_heap hb 35).trans (by simpa using g35)
  have c36 : w.cell? ⟨b, 36, none⟩ = some (.pointer pr) := (Lib.cell_of_heap hb 36).trans (by simpa using g36)
  have hr2 : w.rangeAt b 2 (rankL X k) := fun j u hj => (Lib.cell_of_heap hb (2 + j)).trans (by simpa using tree_rank X hX k v pl pr enc h j u hj)
  have hr0 : w.rangeAt b 0 [.string k, .string v] := fun j u hj => (Lib.cell_of_heap hb (0 + j)).trans (by
    match j, hj with
    | 0, hj => simpa using g0.trans hj
    | 1, hj => simpa using g1.trans hj)
  clear g35 g36 g37 g38 g0 g1 hlen
  clear p1 p2 p3 p4
  have hd : decide (l = pl) = false ∨ (decide (l = pl) = true ∧ decide (r = pr) = false) := by
    by_cases e1 : l = pl
    · exact .inr ⟨decide_eq_true e1, decide_eq_false fun e2 => hne ⟨e1, e2⟩⟩
    · exact .inl (decide_eq_false e1)
  have nT := heap_alloc_new w.drew (.cells (treeL X k v l r ⟨#[]⟩ ⟨#[]⟩).toArray 251)
  have hT : Below w.heap.size w (w.drew.alloc (.cells (treeL X k v l r ⟨#[]⟩ ⟨#[]⟩).toArray 251)) := ((Below.refl _ _).drew).alloc (Nat.le_refl _) _
  clear hne
  rcases hd with d1 | ⟨d1, d2⟩
  · rw [d1] at q1
    clear d1 q2
    go_enter Tryz.func165, Tryz.ntmps165
    go_upto_region 3 with fail
    refine wp_region_held_drew (S := fun W => W.rangeAt b 0 [.string k, .string v] ∧ W.rangeAt b 2 (rankL X k)) (by kernel_rfl) ⟨hr0, hr2⟩ (fun hHeld => ?_)
    refine tkI 0 ?_
    simp only [Act.put, zq]
    refine tkI 1 ?_
    simp only [Act.put, zq]
    refine tkI 2 ?_
    simp only [Act.put, zq]
    refine tkH (i := 3) (v := _) rfl (yieldsIf_load_mid (by rfl) _ _ rfl _ _ rfl _ _ (fun w h => h.1) Tryz.underlying81 rfl size37) ?_
    simp only [Act.put, zq]
    refine tkI 4 ?_
    simp only [Act.put, zq]
    refine tkI 5 ?_
    simp only [Act.put, zq]
    refine tkI 6 ?_
    simp only [Act.put, zq]
    refine tkH (i := 7) (v := _) rfl (yieldsIf_load_mid (by rfl) _ _ rfl _ _ rfl _ _ (fun w h => h.2) Tryz.underlying249 rfl (rank_size X hX k)) ?_
    simp only [Act.put, zq]
    refine tkI 8 ?_
    simp only [Act.put, zq]
    refine tkI 9 ?_
    simp only [Act.put, zq]
    refine tkH (i := 10) (v := _) rfl (yieldsIf_build (by rfl) 251 #[(0, .tmp 25), (1, .tmp 29), (2, .tmp 30), (3, .tmp 31)] rfl (treeL X k v l r ⟨#[]⟩ ⟨#[]⟩).toArray (by exact built4 X hX k v l r)) ?_
    simp only [Act.put, zq]
    refine rdH 11 (fun K hK => ?_)
    rw [if_pos (by rfl)]
    refine wp_box_row 251 _ rfl _ rfl ?_
    refine hK.out _ _ ⟨(World.rangeAt_alloc hHeld.1 _), (World.rangeAt_alloc hHeld.2 _)⟩ (fun hHeld => ?_)
    clear hK K
    simp only [Act.put, zq]
    refine tkI 12 ?_
    simp only [Act.put, zq]
    refine wpAnyH_done (by kernel_rfl) ?_ _
    go_wp2_with fail
    go_ret
    exact ⟨w.heap.size, rfl, Nat.le_refl _, nT, hT⟩
  · rw [d1] at q1
    rw [d2] at q2
    clear d1 d2
    go_enter Tryz.func165, Tryz.ntmps165
    go_upto_region 3 with fail
    refine wp_region_held_drew (S := fun W => W.rangeAt b 0 [.string k, .string v] ∧ W.rangeAt b 2 (rankL X k)) (by kernel_rfl) ⟨hr0, hr2⟩ (fun hHeld => ?_)
    refine tkI 0 ?_
    simp only [Act.put, zq]
    refine tkI 1 ?_
    simp only [Act.put, zq]
    refine tkI 2 ?_
    simp only [Act.put, zq]
    refine tkH (i := 3) (v := _) rfl (yieldsIf_load_mid (by rfl) _ _ rfl _ _ rfl _ _ (fun w h => h.1) Tryz.underlying81 rfl size37) ?_
    simp only [Act.put, zq]
    refine tkI 4 ?_
    simp only [Act.put, zq]
    refine tkI 5 ?_
    simp only [Act.put, zq]
    refine tkI 6 ?_
    simp only [Act.put, zq]
    refine tkH (i := 7) (v := _) rfl (yieldsIf_load_mid (by rfl) _ _ rfl _ _ rfl _ _ (fun w h => h.2) Tryz.underlying249 rfl (rank_size X hX k)) ?_
    simp only [Act.put, zq]
    refine tkI 8 ?_
    simp only [Act.put, zq]
    refine tkI 9 ?_
    simp only [Act.put, zq]
    refine tkH (i := 10) (v := _) rfl (yieldsIf_build (by rfl) 251 #[(0, .tmp 25), (1, .tmp 29), (2, .tmp 30), (3, .tmp 31)] rfl (treeL X k v l r ⟨#[]⟩ ⟨#[]⟩).toArray (by exact built4 X hX k v l r)) ?_
    simp only [Act.put, zq]
    refine rdH 11 (fun K hK => ?_)
    rw [if_pos (by rfl)]
    refine wp_box_row 251 _ rfl _ rfl ?_
    refine hK.out _ _ ⟨(World.rangeAt_alloc hHeld.1 _), (World.rangeAt_alloc hHeld.2 _)⟩ (fun hHeld => ?_)
    clear hK K
    simp only [Act.put, zq]
    refine tkI 12 ?_
    simp only [Act.put, zq]
    refine wpAnyH_done (by kernel_rfl) ?_ _
    go_wp2_with fail
    go_ret
    exact ⟨w.heap.size, rfl, Nat.le_refl _, nT, hT⟩
theorem with_same (b : Nat) (X : List UInt8) (hX : X.length = 32) (k v : ByteArray) (pl pr : Option Addr) (enc h : ByteArray) (w : World) (hb : w.heap[b]? = some (.cells (treeL X k v pl pr enc h).toArray 251))
    (p1 : PtrT pl w) (p2 : PtrT pr w) :
    Calls Tryz.prog 165 #[.pointer (some ⟨b, 0, none⟩), .pointer pl, .pointer pr] w fun e w' => e = .returned (.pointer (some ⟨b, 0, none⟩)) ∧ w' = w := by
  have q1 := ptr_eql pl pl w p1 p1
  have q2 := ptr_eql pr pr w p2 p2
  rw [decide_eq_true rfl] at q1 q2
  obtain ⟨g35, g36, g37, g38, g0, g1⟩ := tree_get X hX k v pl pr enc h
  have c35 : w.cell? ⟨b, 35, none⟩ = some (.pointer pl) := (Lib.cell_of_heap hb 35).trans (by simpa using g35)
  have c36 : w.cell? ⟨b, 36, none⟩ = some (.pointer pr) := (Lib.cell_of_heap hb 36).trans (by simpa using g36)
  clear g35 g36 g37 g38 g0 g1 hb p1 p2
  go_enter Tryz.func165, Tryz.ntmps165
  go_wp2_with fail
  go_ret
  exact ⟨rfl, rfl⟩
end Go.Proofs.YtibjhkpgaaapaaaGreatDoor
