import Derived.Test.YtofglikppppjoacDoorYa
import Derived.Test.YtofglikppppjoacDoorProg
import Derived.Deep.MidRow
import Derived.LaidEql
import Derived.Deep.RegionHeld3
import Derived.Deep.Cut
import Derived.Lib.Builder
import Derived.WalkSpells
import Derived.WalkLawsBesides
import Derived.StillTactics
import Derived.Laws.Pointers
namespace Go.Proofs.Sha

/-- A tree of whatever, by itself. -/
inductive Tr (α : Type) where
  | nil : Tr α
  | node (l : Tr α) (x : α) (r : Tr α) : Tr α
section
variable {α : Type} (ab : α → α → Bool)
def Tr.inord : Tr α → List α
  | .nil => []
  | .node l x r => l.inord ++ x :: r.inord
def Tr.size : Tr α → Nat
  | .nil => 0
  | .node l _ r => l.size + r.size + 1
/-- Each is above all below it. -/
def Tr.heap : Tr α → Prop
  | .nil => True
  | .node l x r => (∀ y ∈ l.inord, ab x y = true) ∧ (∀ y ∈ r.inord, ab x y = true) ∧ l.heap ∧ r.heap
/-- Two trees joined, the first ahead of the second. -/
def Tr.merge : Tr α → Tr α → Tr α
  | .nil, b => b
  | .node l x r, .nil => .node l x r
  | .node l x r, .node l2 y r2 => if ab x y then .node l x (Tr.merge r (.node l2 y r2)) else .node (Tr.merge (.node l x r) l2) y r2
termination_by a b => a.size + b.size
decreasing_by
  all_goals simp only [Tr.size]; omega
theorem Tr.merge_nil (a : Tr α) : Tr.merge ab a .nil = a := by
  cases a <;> simp [Tr.merge]
theorem Tr.merge_inord (a b : Tr α) : (Tr.merge ab a b).inord = a.inord ++ b.inord := by
  fun_induction Tr.merge ab a b with
  | case1 b => rfl
  | case2 l x r => simp [Tr.inord]
  | case3 l x r l2 y r2 h ih => simp only [Tr.inord] at ih ⊢; rw [ih]; simp
  | case4 l x r l2 y r2 h ih => simp only [Tr.inord] at ih ⊢; rw [ih]; simp
/-- What is asked of the order, among the elements of a list: of two one is above the other, and not the other way; it goes on from one to the next. -/
structure Ranked (l : List α) : Prop where
  tot : ∀ x ∈ l, ∀ y ∈ l, x ≠ y → ab x y = true ∨ ab y x = true
  asy : ∀ x ∈ l, ∀ y ∈ l, ab x y = true → ab y x = false
  tra : ∀ x ∈ l, ∀ y ∈ l, ∀ z ∈ l, ab x y = true → ab y z = true → ab x z = true
theorem Ranked.sub {l m : List α} (h : Ranked ab l) (hs : ∀ x ∈ m, x ∈ l) : Ranked ab m :=
  ⟨fun x hx y hy => h.tot x (hs x hx) y (hs y hy), fun x hx y hy => h.asy x (hs x hx) y (hs y hy), fun x hx y hy z hz => h.tra x (hs x hx) y (hs y hy) z (hs z hz)⟩
theorem Tr.merge_heap (a b : Tr α) (ha : a.heap ab) (hb : b.heap ab) (hr : Ranked ab (a.inord ++ b.inord)) (hd : ∀ x ∈ a.inord, ∀ y ∈ b.inord, x ≠ y) : (Tr.merge ab a b).heap ab := by
  fun_induction Tr.merge ab a b with
  | case1 b => exact hb
  | case2 l x r => exact ha
  | case3 l x r l2 y r2 h ih =>
    obtain ⟨p1, p2, p3, p4⟩ := ha
    have hxm : x ∈ (Tr.node l x r).inord ++ (Tr.node l2 y r2).inord := by simp [Tr.inord]
    have hym : y ∈ (Tr.node l x r).inord ++ (Tr.node l2 y r2).inord := by simp [Tr.inord]
    refine ⟨p1, fun z hz => ?_, p3, ih p4 hb (hr.sub ab (fun z hz => ?_)) (fun u hu v hv => hd u (by simp [Tr.inord, hu]) v hv)⟩
    · rw [Tr.merge_inord, List.mem_append] at hz
      rcases hz with hz | hz
      · exact p2 z hz
      · obtain ⟨q1, q2, _, _⟩ := hb
        have hzm : z ∈ (Tr.node l x r).inord ++ (Tr.node l2 y r2).inord := List.mem_append_right _ hz
        simp only [Tr.inord, List.mem_append, List.mem_cons] at hz
        rcases hz with hz | rfl | hz
        · exact hr.tra x hxm y hym z hzm h (q1 z hz)
        · exact h
        · exact hr.tra x hxm y hym z hzm h (q2 z hz)
    · rw [List.mem_append] at hz ⊢
      rcases hz with hz | hz
      · left; simp [Tr.inord, hz]
      · exact .inr hz
  | case4 l x r l2 y r2 h ih =>
    obtain ⟨p1, p2, p3, p4⟩ := hb
    have hxm : x ∈ (Tr.node l x r).inord ++ (Tr.node l2 y r2).inord := by simp [Tr.inord]
    have hym : y ∈ (Tr.node l x r).inord ++ (Tr.node l2 y r2).inord := by simp [Tr.inord]
    have hyx : ab y x = true := by
      rcases hr.tot x hxm y hym (hd x (by simp [Tr.inord]) y (by simp [Tr.inord])) with q | q
      · exact absurd q h
      · exact q
    refine ⟨fun z hz => ?_, p2, ih ha p3 (hr.sub ab (fun z hz => ?_)) (fun u hu v hv => hd u hu v (by simp [Tr.inord, hv])), p4⟩
    · rw [Tr.merge_inord, List.mem_append] at hz
      rcases hz with hz | hz
      · obtain ⟨q1, q2, _, _⟩ := ha
        have hzm : z ∈ (Tr.node l x r).inord ++ (Tr.node l2 y r2).inord := List.mem_append_left _ hz
        simp only [Tr.inord, List.mem_append, List.mem_cons] at hz
        rcases hz with hz | rfl | hz
        · exact hr.tra y hym x hxm z hzm hyx (q1 z hz)
        · exact hyx
        · exact hr.tra y hym x hxm z hzm hyx (q2 z hz)
      · exact p1 z hz
    · rw [List.mem_append] at hz ⊢
      rcases hz with hz | hz
      · exact .inl hz
      · right; simp [Tr.inord, hz]
/-- In a list without doubles an element stands at one place. -/
theorem split_one {x : α} : ∀ {l r l2 r2 : List α}, (l ++ x :: r).Nodup → l ++ x :: r = l2 ++ x :: r2 → l = l2 ∧ r = r2
  | [], _, [], _, _, h => by simp at h; exact ⟨rfl, h⟩
  | [], r, y :: l2, r2, hn, h => by
    simp at h
    obtain ⟨rfl, h2⟩ := h
    rw [h2] at hn
    simp at hn
  | y :: l, r, [], r2, hn, h => by
    simp at h
    obtain ⟨rfl, _⟩ := h
    simp at hn
  | y :: l, r, z :: l2, r2, hn, h => by
    simp only [List.cons_append, List.cons.injEq] at h
    obtain ⟨rfl, h2⟩ := h
    have hn2 : (l ++ x :: r).Nodup := by
      rw [List.cons_append, List.nodup_cons] at hn
      exact hn.2
    obtain ⟨q1, q2⟩ := split_one hn2 h2
    exact ⟨by rw [q1], q2⟩
/-- One tree at most. -/
theorem Tr.unique (a b : Tr α) (ha : a.heap ab) (hb : b.heap ab) (h : a.inord = b.inord) (hn : a.inord.Nodup) (hr : Ranked ab a.inord) : a = b := by
  induction a generalizing b with
  | nil =>
    cases b with
    | nil => rfl
    | node l x r => simp [Tr.inord] at h
  | node l x r ihl ihr =>
    cases b with
    | nil => simp [Tr.inord] at h
    | node l2 y r2 =>
      obtain ⟨p1, p2, p3, p4⟩ := ha
      obtain ⟨q1, q2, q3, q4⟩ := hb
      simp only [Tr.inord] at h hn hr
      have hxm : x ∈ l.inord ++ x :: r.inord := by simp
      have hym : y ∈ l.inord ++ x :: r.inord := by rw [h]; simp
      have hxy : x = y := by
        apply Classical.byContradiction
        intro hne
        have h1 : ab x y = true := by
          have := hym
          simp only [List.mem_append, List.mem_cons] at this
          rcases this with m | m | m
          · exact p1 y m
          · exact absurd m.symm hne
          · exact p2 y m
        have h2 : ab y x = true := by
          have := hxm
          rw [h] at this
          simp only [List.mem_append, List.mem_cons] at this
          rcases this with m | m | m
          · exact q1 x m
          · exact absurd m hne
          · exact q2 x m
        have := hr.asy x hxm y hym h1
        rw [h2] at this
        cases this
      subst hxy
      obtain ⟨e1, e2⟩ := split_one hn h
      have hnl : l.inord.Nodup := (List.nodup_append.1 hn).1
      have hnr : r.inord.Nodup := (List.nodup_cons.1 (List.nodup_append.1 hn).2.1).2
      rw [ihl l2 p3 q3 e1 hnl (hr.sub ab (fun z hz => by simp [hz])), ihr r2 p4 q4 e2 hnr (hr.sub ab (fun z hz => by simp [hz]))]
end
end Go.Proofs.Sha
namespace Go.Proofs.YtofglikppppjoacDoor
open Go.RowKit Go.Proofs.Sha

/-- A key's rank, as cells. -/
def rankL (X : List UInt8) (k : ByteArray) : List Value := X.map B ++ [Value.string k]
/-- A tree's node, as cells. -/
def treeL (X : List UInt8) (k v : ByteArray) (l r : Option Addr) (enc h : ByteArray) : List Value := [.string k, .string v] ++ rankL X k ++ [.pointer l, .pointer r, .string enc, .string h]
theorem built2_e (x0 x1 x2 x3 x4 x5 x6 x7 x8 x9 x10 x11 x12 x13 x14 x15 x16 x17 x18 x19 x20 x21 x22 x23 x24 x25 x26 x27 x28 x29 x30 x31 : UInt8) (k v : ByteArray) : Tryd.prog.built 104 [(0, .agg #[.string k, .string v]), (1, .agg ([x0, x1, x2, x3, x4, x5, x6, x7, x8, x9, x10, x11, x12, x13, x14, x15, x16, x17, x18, x19, x20, x21, x22, x23, x24, x25, x26, x27, x28, x29, x30, x31].map B ++ [Value.string k]).toArray)] = some (treeL [x0, x1, x2, x3, x4, x5, x6, x7, x8, x9, x10, x11, x12, x13, x14, x15, x16, x17, x18, x19, x20, x21, x22, x23, x24, x25, x26, x27, x28, x29, x30, x31] k v none none ⟨#[]⟩ ⟨#[]⟩).toArray := by kernel_rfl
theorem built4_e (x0 x1 x2 x3 x4 x5 x6 x7 x8 x9 x10 x11 x12 x13 x14 x15 x16 x17 x18 x19 x20 x21 x22 x23 x24 x25 x26 x27 x28 x29 x30 x31 : UInt8) (k v : ByteArray) (l r : Option Addr) : Tryd.prog.built 104 [(0, .agg #[.string k, .string v]), (1, .agg ([x0, x1, x2, x3, x4, x5, x6, x7, x8, x9, x10, x11, x12, x13, x14, x15, x16, x17, x18, x19, x20, x21, x22, x23, x24, x25, x26, x27, x28, x29, x30, x31].map B ++ [Value.string k]).toArray), (2, .pointer l), (3, .pointer r)] = some (treeL [x0, x1, x2, x3, x4, x5, x6, x7, x8, x9, x10, x11, x12, x13, x14, x15, x16, x17, x18, x19, x20, x21, x22, x23, x24, x25, x26, x27, x28, x29, x30, x31] k v l r ⟨#[]⟩ ⟨#[]⟩).toArray := by kernel_rfl
theorem list32 (X : List UInt8) (h : X.length = 32) : ∃ x0 x1 x2 x3 x4 x5 x6 x7 x8 x9 x10 x11 x12 x13 x14 x15 x16 x17 x18 x19 x20 x21 x22 x23 x24 x25 x26 x27 x28 x29 x30 x31 : UInt8, X = [x0, x1, x2, x3, x4, x5, x6, x7, x8, x9, x10, x11, x12, x13, x14, x15, x16, x17, x18, x19, x20, x21, x22, x23, x24, x25, x26, x27, x28, x29, x30, x31] := by
  match X, h with
  | [x0, x1, x2, x3, x4, x5, x6, x7, x8, x9, x10, x11, x12, x13, x14, x15, x16, x17, x18, x19, x20, x21, x22, x23, x24, x25, x26, x27, x28, x29, x30, x31], _ => exact ⟨_, _, _, _, _, _, _, _, _, _, _, _, _, _, _, _, _, _, _, _, _, _, _, _, _, _, _, _, _, _, _, _, rfl⟩
theorem built2 (X : List UInt8) (h : X.length = 32) (k v : ByteArray) : Tryd.prog.built 104 [(0, .agg #[.string k, .string v]), (1, .agg (rankL X k).toArray)] = some (treeL X k v none none ⟨#[]⟩ ⟨#[]⟩).toArray := by
  obtain ⟨x0, x1, x2, x3, x4, x5, x6, x7, x8, x9, x10, x11, x12, x13, x14, x15, x16, x17, x18, x19, x20, x21, x22, x23, x24, x25, x26, x27, x28, x29, x30, x31, rfl⟩ := list32 X h
  exact built2_e x0 x1 x2 x3 x4 x5 x6 x7 x8 x9 x10 x11 x12 x13 x14 x15 x16 x17 x18 x19 x20 x21 x22 x23 x24 x25 x26 x27 x28 x29 x30 x31 k v
theorem built4 (X : List UInt8) (h : X.length = 32) (k v : ByteArray) (l r : Option Addr) : Tryd.prog.built 104 [(0, .agg #[.string k, .string v]), (1, .agg (rankL X k).toArray), (2, .pointer l), (3, .pointer r)] = some (treeL X k v l r ⟨#[]⟩ ⟨#[]⟩).toArray := by
  obtain ⟨x0, x1, x2, x3, x4, x5, x6, x7, x8, x9, x10, x11, x12, x13, x14, x15, x16, x17, x18, x19, x20, x21, x22, x23, x24, x25, x26, x27, x28, x29, x30, x31, rfl⟩ := list32 X h
  exact built4_e x0 x1 x2 x3 x4 x5 x6 x7 x8 x9 x10 x11 x12 x13 x14 x15 x16 x17 x18 x19 x20 x21 x22 x23 x24 x25 x26 x27 x28 x29 x30 x31 k v l r
end Go.Proofs.YtofglikppppjoacDoor
namespace Go.Proofs.Sha
open Go Go.RowKit

/-- Pointers to blocks of cells, or none, are equal just where they are the same. -/
theorem run_equalIn_ptr {P : Program} (d : Nat) (t te : TypeId) (j : TypeInfo) (hu : P.underlying t = some (.pointer te)) (hj : P.info? te = some j) (hz : j.size ≠ 0) (a b : Option Addr) (w : World)
    (ha : a = none ∨ ∃ (x : Nat) (cs : Array Value) (u : TypeId), a = some ⟨x, 0, none⟩ ∧ w.heap[x]? = some (.cells cs u (0, 0))) (hb : b = none ∨ ∃ (x : Nat) (cs : Array Value) (u : TypeId), b = some ⟨x, 0, none⟩ ∧ w.heap[x]? = some (.cells cs u (0, 0))) :
    (Op.equalIn (d + 1) t (.pointer a) (.pointer b)).run P w = .ok (decide (a = b)) w := by
  rcases ha with rfl | ⟨x, cs, u, rfl, hx⟩ <;> rcases hb with rfl | ⟨y, ds, v, rfl, hy⟩
  · simp [Op.equalIn, run_underlying hu]
  · simp [Op.equalIn, run_underlying hu]
  · simp [Op.equalIn, run_underlying hu]
  · by_cases e : x = y
    · subst e
      simp [Op.equalIn, run_underlying hu, sizeOf, typeInfo, hj, run_sameAddr_same]
    · have hne : (⟨x, 0, none⟩ : Addr) ≠ ⟨y, 0, none⟩ := fun q => e (congrArg Addr.block q)
      simp [Op.equalIn, run_underlying hu, sizeOf, typeInfo, hj, hz, run_sameAddr_other w hne hx hy]
theorem run_eql_ptr {P : Program} (t te : TypeId) (j : TypeInfo) (hu : P.underlying t = some (.pointer te)) (hj : P.info? te = some j) (hz : j.size ≠ 0) (a b : Option Addr) (w : World)
    (ha : a = none ∨ ∃ (x : Nat) (cs : Array Value) (u : TypeId), a = some ⟨x, 0, none⟩ ∧ w.heap[x]? = some (.cells cs u (0, 0))) (hb : b = none ∨ ∃ (x : Nat) (cs : Array Value) (u : TypeId), b = some ⟨x, 0, none⟩ ∧ w.heap[x]? = some (.cells cs u (0, 0))) :
    (binOp .eql t (.pointer a) (.pointer b)).run P w = .ok (.bool (decide (a = b))) w := by
  have key : (Op.equal t (.pointer a) (.pointer b)).run P w = .ok (decide (a = b)) w := run_equalIn_ptr 9999 t te j hu hj hz a b w ha hb
  simp only [binOp]
  simp [key]
end Go.Proofs.Sha
namespace Go.Proofs.YtofglikppppjoacDoor
open Go.RowKit Go.Proofs.Sha

/-- A pointer that may be compared: none, or the beginning of a block. -/
def Ptr (p : Option Addr) (w : World) : Prop := p = none ∨ ∃ (x : Nat) (cs : Array Value) (u : TypeId), p = some ⟨x, 0, none⟩ ∧ w.heap[x]? = some (.cells cs u (0, 0))
theorem size52 : (Tryd.prog.info? 102).map (·.size) = some 33 := by kernel_rfl
theorem size37 : (Tryd.prog.info? 68).map (·.size) = some 2 := by kernel_rfl
theorem size54 : (Tryd.prog.info? 104).map (·.size) = some 39 := by kernel_rfl
theorem info54 : ∃ j, Tryd.prog.info? 104 = some j ∧ j.size ≠ 0 := by
  obtain ⟨j, h1, h2⟩ := Option.map_eq_some_iff.1 size54
  exact ⟨j, h1, by rw [h2]; decide⟩
theorem yieldsIf_build {P : Program} {ops : Array Oper} {S : World → Prop} {o : Oper} {a : Act} (hw : Region.wanted o (yielded ops a.tmps) = true) (t : TypeId) (parts : Array (Nat × Operand)) (ho : o.op = .build t parts) (cells : Array Value)
    (hb : P.built t (parts.toList.map fun (i, x) => (i, a.eval x)) = some cells) : YieldsIf P ops S o (.agg cells) a := by
  refine .inl ⟨hw, fun w _ => ?_⟩
  rw [← Array.toList_map] at hb
  unfold execOp
  simp only [ho, Sem.run_bind, run_build w t _ cells hb, Result.andThen_ok, Sem.run_pure]
theorem wp_box_row {P : Program} {o : Oper} {a : Act} {w : World} {K : Act → World → Prop} {Q : Exit → Act → World → Prop} (ty : TypeId) (x : Operand) (ho : o.op = .box ty x) (cs : Array Value) (hx : a.eval x = .agg cs)
    (h : K (a.put o.dst (.pointer (some ⟨w.heap.size, 0, none⟩))) (w.alloc (.cells cs ty))) : o.wp P a w K Q := by
  unfold Oper.wp execOp
  simp only [ho, hx]
  exact h
theorem rank_size (X : List UInt8) (h : X.length = 32) (k : ByteArray) : (Tryd.prog.info? 102).map (·.size) = some (rankL X k).length := by
  have e : (rankL X k).length = 33 := by unfold rankL; rw [List.length_append, List.length_map, h]; rfl
  rw [e]; exact size52
theorem ptr_eql (a b : Option Addr) (w : World) (ha : Ptr a w) (hb : Ptr b w) : (binOp .eql 71 (.pointer a) (.pointer b)).run Tryd.prog w = .ok (.bool (decide (a = b))) w := by
  obtain ⟨j, h1, h2⟩ := info54
  exact run_eql_ptr 71 104 j Tryd.underlying71 h1 h2 a b w ha hb
theorem tree_get (X : List UInt8) (hX : X.length = 32) (k v : ByteArray) (pl pr : Option Addr) (enc h : ByteArray) :
    (treeL X k v pl pr enc h)[35]? = some (.pointer pl) ∧ (treeL X k v pl pr enc h)[36]? = some (.pointer pr) ∧ (treeL X k v pl pr enc h)[37]? = some (.string enc) ∧ (treeL X k v pl pr enc h)[38]? = some (.string h) ∧ (treeL X k v pl pr enc h)[0]? = some (.string k) ∧ (treeL X k v pl pr enc h)[1]? = some (.string v) := by
  have hl : (X.map B).length = 32 := by rw [List.length_map, hX]
  have e : treeL X k v pl pr enc h = ([.string k, .string v] ++ (X.map B ++ [Value.string k])) ++ [.pointer pl, .pointer pr, .string enc, .string h] := by unfold treeL rankL; simp
  have hl2 : ([Value.string k, .string v] ++ (X.map B ++ [Value.string k])).length = 35 := by simp [hX]
  refine ⟨?_, ?_, ?_, ?_, rfl, rfl⟩ <;> (rw [e, List.getElem?_append_right (by omega), hl2]; rfl)
theorem tree_rank (X : List UInt8) (_hX : X.length = 32) (k v : ByteArray) (pl pr : Option Addr) (enc h : ByteArray) (j : Nat) (u : Value) (hj : (rankL X k)[j]? = some u) : (treeL X k v pl pr enc h)[2 + j]? = some u := by
  have hlt : j < (rankL X k).length := (List.getElem?_eq_some_iff.1 hj).1
  have e : treeL X k v pl pr enc h = [.string k, .string v] ++ (rankL X k ++ [.pointer pl, .pointer pr, .string enc, .string h]) := by unfold treeL; simp
  rw [e, List.getElem?_append_right (by simp), List.getElem?_append_left (by simpa using hlt)]
  simpa using hj

set_option maxRecDepth 100000 in
set_option maxHeartbeats 1000000 in
theorem with_any (b : Nat) (X : List UInt8) (hX : X.length = 32) (k v : ByteArray) (pl pr l r : Option Addr) (enc h : ByteArray) (w : World) (hb : w.heap[b]? = some (.cells (treeL X k v pl pr enc h).toArray 104))
    (p1 : Ptr pl w) (p2 : Ptr pr w) (p3 : Ptr l w) (p4 : Ptr r w) (hne : ¬ (l = pl ∧ r = pr)) :
    Calls Tryd.prog 106 #[.pointer (some ⟨b, 0, none⟩), .pointer l, .pointer r] w fun e w' => ∃ g, e = .returned (.pointer (some ⟨g, 0, none⟩)) ∧ w.heap.size ≤ g ∧ w'.heap[g]? = some (.cells (treeL X k v l r ⟨#[]⟩ ⟨#[]⟩).toArray 104) ∧ Below w.heap.size w w' := by
  have q1 := ptr_eql l pl w p3 p1
  have q2 := ptr_eql r pr w p4 p2
  have hlen : (X.map B).length = 32 := by rw [List.length_map, hX]
  obtain ⟨g35, g36, g37, g38, g0, g1⟩ := tree_get X hX k v pl pr enc h
  have c35 : w.cell? ⟨b, 35, none⟩ = some (.pointer pl) := (Lib.cell_of_heap hb 35).trans (by simpa using g35)
  have c36 : w.cell? ⟨b, 36, none⟩ = some (.pointer pr) := (Lib.cell_of_heap hb 36).trans (by simpa using g36)
  have hr2 : w.rangeAt b 2 (rankL X k) := fun j u hj => (Lib.cell_of_heap hb (2 + j)).trans (by simpa using tree_rank X hX k v pl pr enc h j u hj)
  have hr0 : w.rangeAt b 0 [.string k, .string v] := fun j u hj => (Lib.cell_of_heap hb (0 + j)).trans (by
    match j, hj with
    | 0, hj => simpa using g0.trans hj
    | 1, hj => simpa using g1.trans hj)
  clear g35 g36 g37 g38 g0 g1 hlen
  clear p1 p2 p3 p4
  have hd : decide (l = pl) = false ∨ (decide (l = pl) = true ∧ decide (r = pr) = false) := by
    by_cases e1 : l = pl
    · exact .inr ⟨decide_eq_true e1, decide_eq_false fun e2 => hne ⟨e1, e2⟩⟩
    · exact .inl (decide_eq_false e1)
  have nT := heap_alloc_new w.drew (.cells (treeL X k v l r ⟨#[]⟩ ⟨#[]⟩).toArray 104)
  have hT : Below w.heap.size w (w.drew.alloc (.cells (treeL X k v l r ⟨#[]⟩ ⟨#[]⟩).toArray 104)) := ((Below.refl _ _).drew).alloc (Nat.le_refl _) _
  clear hne
  rcases hd with d1 | ⟨d1, d2⟩
  · rw [d1] at q1
    clear d1 q2
    go_enter Tryd.func106, Tryd.ntmps106
    go_upto_region 3 with fail
    refine wp_region_held_drew (S := fun W => W.rangeAt b 0 [.string k, .string v] ∧ W.rangeAt b 2 (rankL X k)) (by kernel_rfl) ⟨hr0, hr2⟩ (fun hHeld => ?_)
    refine wpAnyH_take (i := 0) (v := ?_) rfl (by kernel_rfl) (by kernel_rfl) (by kernel_rfl) (fun _ _ _ h => h) (Or.inl ⟨by rfl, ?_⟩) (by assumption) ?_
    rotate_left
    · intro w hSw; go_simp; rfl
    simp only [Act.put, List.setIfInBounds_toArray, List.set_cons_zero, List.set_cons_succ, List.getElem_toArray, List.getElem_cons_zero]
    refine wpAnyH_take (i := 1) (v := ?_) rfl (by kernel_rfl) (by kernel_rfl) (by kernel_rfl) (fun _ _ _ h => h) (Or.inl ⟨by rfl, ?_⟩) (by assumption) ?_
    rotate_left
    · intro w hSw; go_simp; rfl
    simp only [Act.put, List.setIfInBounds_toArray, List.set_cons_zero, List.set_cons_succ, List.getElem_toArray, List.getElem_cons_zero, List.getElem_cons_succ]
    refine wpAnyH_take (i := 2) (v := ?_) rfl (by kernel_rfl) (by kernel_rfl) (by kernel_rfl) (fun _ _ _ h => h) (Or.inl ⟨by rfl, ?_⟩) (by assumption) ?_
    rotate_left
    · intro w hSw; go_simp; rfl
    simp only [Act.put, List.setIfInBounds_toArray, List.set_cons_zero, List.set_cons_succ, List.getElem_toArray, List.getElem_cons_zero, List.getElem_cons_succ]
    refine wpAnyH_take (i := 3) (v := _) rfl (by kernel_rfl) (by kernel_rfl) (by kernel_rfl) (fun _ _ _ h => h) (yieldsIf_load_mid (by rfl) _ _ rfl _ _ rfl _ _ (fun w h => h.1) Tryd.underlying68 rfl size37) (by assumption) ?_
    simp only [Act.put, List.setIfInBounds_toArray, List.set_cons_zero, List.set_cons_succ, List.getElem_toArray, List.getElem_cons_zero, List.getElem_cons_succ]
    refine wpAnyH_take (i := 4) (v := ?_) rfl (by kernel_rfl) (by kernel_rfl) (by kernel_rfl) (fun _ _ _ h => h) (Or.inl ⟨by rfl, ?_⟩) (by assumption) ?_
    rotate_left
    · intro w hSw; go_simp; rfl
    simp only [Act.put, List.setIfInBounds_toArray, List.set_cons_zero, List.set_cons_succ, List.getElem_toArray, List.getElem_cons_zero, List.getElem_cons_succ]
    refine wpAnyH_take (i := 5) (v := ?_) rfl (by kernel_rfl) (by kernel_rfl) (by kernel_rfl) (fun _ _ _ h => h) (Or.inl ⟨by rfl, ?_⟩) (by assumption) ?_
    rotate_left
    · intro w hSw; go_simp; rfl
    simp only [Act.put, List.setIfInBounds_toArray, List.set_cons_zero, List.set_cons_succ, List.getElem_toArray, List.getElem_cons_zero, List.getElem_cons_succ]
    refine wpAnyH_take (i := 6) (v := ?_) rfl (by kernel_rfl) (by kernel_rfl) (by kernel_rfl) (fun _ _ _ h => h) (Or.inl ⟨by rfl, ?_⟩) (by assumption) ?_
    rotate_left
    · intro w hSw; go_simp; rfl
    simp only [Act.put, List.setIfInBounds_toArray, List.set_cons_zero, List.set_cons_succ, List.getElem_toArray, List.getElem_cons_zero, List.getElem_cons_succ]
    refine wpAnyH_take (i := 7) (v := _) rfl (by kernel_rfl) (by kernel_rfl) (by kernel_rfl) (fun _ _ _ h => h) (yieldsIf_load_mid (by rfl) _ _ rfl _ _ rfl _ _ (fun w h => h.2) Tryd.underlying102 rfl (rank_size X hX k)) (by assumption) ?_
    simp only [Act.put, List.setIfInBounds_toArray, List.set_cons_zero, List.set_cons_succ, List.getElem_toArray, List.getElem_cons_zero, List.getElem_cons_succ]
    refine wpAnyH_take (i := 8) (v := ?_) rfl (by kernel_rfl) (by kernel_rfl) (by kernel_rfl) (fun _ _ _ h => h) (Or.inl ⟨by rfl, ?_⟩) (by assumption) ?_
    rotate_left
    · intro w hSw; go_simp; rfl
    simp only [Act.put, List.setIfInBounds_toArray, List.set_cons_zero, List.set_cons_succ, List.getElem_toArray, List.getElem_cons_zero, List.getElem_cons_succ]
    refine wpAnyH_take (i := 9) (v := ?_) rfl (by kernel_rfl) (by kernel_rfl) (by kernel_rfl) (fun _ _ _ h => h) (Or.inl ⟨by rfl, ?_⟩) (by assumption) ?_
    rotate_left
    · intro w hSw; go_simp; rfl
    simp only [Act.put, List.setIfInBounds_toArray, List.set_cons_zero, List.set_cons_succ, List.getElem_toArray, List.getElem_cons_zero, List.getElem_cons_succ]
    refine wpAnyH_take (i := 10) (v := _) rfl (by kernel_rfl) (by kernel_rfl) (by kernel_rfl) (fun _ _ _ h => h) (yieldsIf_build (by rfl) 104 #[(0, .tmp 25), (1, .tmp 29), (2, .tmp 30), (3, .tmp 31)] rfl (treeL X k v l r ⟨#[]⟩ ⟨#[]⟩).toArray (by exact built4 X hX k v l r)) (by assumption) ?_
    simp only [Act.put, List.setIfInBounds_toArray, List.set_cons_zero, List.set_cons_succ, List.getElem_toArray, List.getElem_cons_zero, List.getElem_cons_succ]
    refine wpAnyH_ready (rs := [11]) (by kernel_rfl) (by simp) ?_
    refine AllReadyH.cons rfl (fun K hK => ?_) AllReadyH.nil
    rw [if_pos (by rfl)]
    refine wp_box_row 104 _ rfl _ rfl ?_
    refine hK.out _ _ ⟨(World.rangeAt_alloc hHeld.1 _), (World.rangeAt_alloc hHeld.2 _)⟩ (fun hHeld => ?_)
    clear hK K
    simp only [Act.put, List.setIfInBounds_toArray, List.set_cons_zero, List.set_cons_succ, List.getElem_toArray, List.getElem_cons_zero, List.getElem_cons_succ]
    refine wpAnyH_take (i := 12) (v := ?_) rfl (by kernel_rfl) (by kernel_rfl) (by kernel_rfl) (fun _ _ _ h => h) (Or.inl ⟨by rfl, ?_⟩) (by assumption) ?_
    rotate_left
    · intro w hSw; go_simp; rfl
    simp only [Act.put, List.setIfInBounds_toArray, List.set_cons_zero, List.set_cons_succ, List.getElem_toArray, List.getElem_cons_zero, List.getElem_cons_succ]
    refine wpAnyH_done (by kernel_rfl) ?_ _
    go_wp2_with fail
    go_ret
    exact ⟨w.heap.size, rfl, Nat.le_refl _, nT, hT⟩
  · rw [d1] at q1
    rw [d2] at q2
    clear d1 d2
    go_enter Tryd.func106, Tryd.ntmps106
    go_upto_region 3 with fail
    refine wp_region_held_drew (S := fun W => W.rangeAt b 0 [.string k, .string v] ∧ W.rangeAt b 2 (rankL X k)) (by kernel_rfl) ⟨hr0, hr2⟩ (fun hHeld => ?_)
    refine wpAnyH_take (i := 0) (v := ?_) rfl (by kernel_rfl) (by kernel_rfl) (by kernel_rfl) (fun _ _ _ h => h) (Or.inl ⟨by rfl, ?_⟩) (by assumption) ?_
    rotate_left
    · intro w hSw; go_simp; rfl
    simp only [Act.put, List.setIfInBounds_toArray, List.set_cons_zero, List.set_cons_succ, List.getElem_toArray, List.getElem_cons_zero]
    refine wpAnyH_take (i := 1) (v := ?_) rfl (by kernel_rfl) (by kernel_rfl) (by kernel_rfl) (fun _ _ _ h => h) (Or.inl ⟨by rfl, ?_⟩) (by assumption) ?_
    rotate_left
    · intro w hSw; go_simp; rfl
    simp only [Act.put, List.setIfInBounds_toArray, List.set_cons_zero, List.set_cons_succ, List.getElem_toArray, List.getElem_cons_zero, List.getElem_cons_succ]
    refine wpAnyH_take (i := 2) (v := ?_) rfl (by kernel_rfl) (by kernel_rfl) (by kernel_rfl) (fun _ _ _ h => h) (Or.inl ⟨by rfl, ?_⟩) (by assumption) ?_
    rotate_left
    · intro w hSw; go_simp; rfl
    simp only [Act.put, List.setIfInBounds_toArray, List.set_cons_zero, List.set_cons_succ, List.getElem_toArray, List.getElem_cons_zero, List.getElem_cons_succ]
    refine wpAnyH_take (i := 3) (v := _) rfl (by kernel_rfl) (by kernel_rfl) (by kernel_rfl) (fun _ _ _ h => h) (yieldsIf_load_mid (by rfl) _ _ rfl _ _ rfl _ _ (fun w h => h.1) Tryd.underlying68 rfl size37) (by assumption) ?_
    simp only [Act.put, List.setIfInBounds_toArray, List.set_cons_zero, List.set_cons_succ, List.getElem_toArray, List.getElem_cons_zero, List.getElem_cons_succ]
    refine wpAnyH_take (i := 4) (v := ?_) rfl (by kernel_rfl) (by kernel_rfl) (by kernel_rfl) (fun _ _ _ h => h) (Or.inl ⟨by rfl, ?_⟩) (by assumption) ?_
    rotate_left
    · intro w hSw; go_simp; rfl
    simp only [Act.put, List.setIfInBounds_toArray, List.set_cons_zero, List.set_cons_succ, List.getElem_toArray, List.getElem_cons_zero, List.getElem_cons_succ]
    refine wpAnyH_take (i := 5) (v := ?_) rfl (by kernel_rfl) (by kernel_rfl) (by kernel_rfl) (fun _ _ _ h => h) (Or.inl ⟨by rfl, ?_⟩) (by assumption) ?_
    rotate_left
    · intro w hSw; go_simp; rfl
    simp only [Act.put, List.setIfInBounds_toArray, List.set_cons_zero, List.set_cons_succ, List.getElem_toArray, List.getElem_cons_zero, List.getElem_cons_succ]
    refine wpAnyH_take (i := 6) (v := ?_) rfl (by kernel_rfl) (by kernel_rfl) (by kernel_rfl) (fun _ _ _ h => h) (Or.inl ⟨by rfl, ?_⟩) (by assumption) ?_
    rotate_left
    · intro w hSw; go_simp; rfl
    simp only [Act.put, List.setIfInBounds_toArray, List.set_cons_zero, List.set_cons_succ, List.getElem_toArray, List.getElem_cons_zero, List.getElem_cons_succ]
    refine wpAnyH_take (i := 7) (v := _) rfl (by kernel_rfl) (by kernel_rfl) (by kernel_rfl) (fun _ _ _ h => h) (yieldsIf_load_mid (by rfl) _ _ rfl _ _ rfl _ _ (fun w h => h.2) Tryd.underlying102 rfl (rank_size X hX k)) (by assumption) ?_
    simp only [Act.put, List.setIfInBounds_toArray, List.set_cons_zero, List.set_cons_succ, List.getElem_toArray, List.getElem_cons_zero, List.getElem_cons_succ]
    refine wpAnyH_take (i := 8) (v := ?_) rfl (by kernel_rfl) (by kernel_rfl) (by kernel_rfl) (fun _ _ _ h => h) (Or.inl ⟨by rfl, ?_⟩) (by assumption) ?_
    rotate_left
    · intro w hSw; go_simp; rfl
    simp only [Act.put, List.setIfInBounds_toArray, List.set_cons_zero, List.set_cons_succ, List.getElem_toArray, List.getElem_cons_zero, List.getElem_cons_succ]
    refine wpAnyH_take (i := 9) (v := ?_) rfl (by kernel_rfl) (by kernel_rfl) (by kernel_rfl) (fun _ _ _ h => h) (Or.inl ⟨by rfl, ?_⟩) (by assumption) ?_
    rotate_left
    · intro w hSw; go_simp; rfl
    simp only [Act.put, List.setIfInBounds_toArray, List.set_cons_zero, List.set_cons_succ, List.getElem_toArray, List.getElem_cons_zero, List.getElem_cons_succ]
    refine wpAnyH_take (i := 10) (v := _) rfl (by kernel_rfl) (by kernel_rfl) (by kernel_rfl) (fun _ _ _ h => h) (yieldsIf_build (by rfl) 104 #[(0, .tmp 25), (1, .tmp 29), (2, .tmp 30), (3, .tmp 31)] rfl (treeL X k v l r ⟨#[]⟩ ⟨#[]⟩).toArray (by exact built4 X hX k v l r)) (by assumption) ?_
    simp only [Act.put, List.setIfInBounds_toArray, List.set_cons_zero, List.set_cons_succ, List.getElem_toArray, List.getElem_cons_zero, List.getElem_cons_succ]
    refine wpAnyH_ready (rs := [11]) (by kernel_rfl) (by simp) ?_
    refine AllReadyH.cons rfl (fun K hK => ?_) AllReadyH.nil
    rw [if_pos (by rfl)]
    refine wp_box_row 104 _ rfl _ rfl ?_
    refine hK.out _ _ ⟨(World.rangeAt_alloc hHeld.1 _), (World.rangeAt_alloc hHeld.2 _)⟩ (fun hHeld => ?_)
    clear hK K
    simp only [Act.put, List.setIfInBounds_toArray, List.set_cons_zero, List.set_cons_succ, List.getElem_toArray, List.getElem_cons_zero, List.getElem_cons_succ]
    refine wpAnyH_take (i := 12) (v := ?_) rfl (by kernel_rfl) (by kernel_rfl) (by kernel_rfl) (fun _ _ _ h => h) (Or.inl ⟨by rfl, ?_⟩) (by assumption) ?_
    rotate_left
    · intro w hSw; go_simp; rfl
    simp only [Act.put, List.setIfInBounds_toArray, List.set_cons_zero, List.set_cons_succ, List.getElem_toArray, List.getElem_cons_zero, List.getElem_cons_succ]
    refine wpAnyH_done (by kernel_rfl) ?_ _
    go_wp2_with fail
    go_ret
    exact ⟨w.heap.size, rfl, Nat.le_refl _, nT, hT⟩
theorem with_same (b : Nat) (X : List UInt8) (hX : X.length = 32) (k v : ByteArray) (pl pr : Option Addr) (enc h : ByteArray) (w : World) (hb : w.heap[b]? = some (.cells (treeL X k v pl pr enc h).toArray 104))
    (p1 : Ptr pl w) (p2 : Ptr pr w) :
    Calls Tryd.prog 106 #[.pointer (some ⟨b, 0, none⟩), .pointer pl, .pointer pr] w fun e w' => e = .returned (.pointer (some ⟨b, 0, none⟩)) ∧ w' = w := by
  have q1 := ptr_eql pl pl w p1 p1
  have q2 := ptr_eql pr pr w p2 p2
  rw [decide_eq_true rfl] at q1 q2
  obtain ⟨g35, g36, g37, g38, g0, g1⟩ := tree_get X hX k v pl pr enc h
  have c35 : w.cell? ⟨b, 35, none⟩ = some (.pointer pl) := (Lib.cell_of_heap hb 35).trans (by simpa using g35)
  have c36 : w.cell? ⟨b, 36, none⟩ = some (.pointer pr) := (Lib.cell_of_heap hb 36).trans (by simpa using g36)
  clear g35 g36 g37 g38 g0 g1 hb p1 p2
  go_enter Tryd.func106, Tryd.ntmps106
  go_wp2_with fail
  go_ret
  exact ⟨rfl, rfl⟩
end Go.Proofs.YtofglikppppjoacDoor
namespace Go.Proofs.YtofglikppppjoacDoor
open Go.RowKit Go.Proofs.Sha

theorem sha_len32 (l : List UInt8) : (sha l).length = 32 := by unfold sha; rw [outTo_length]
/-- A node of a tree in its block. -/
def TB (b : Nat) (x : ByteArray × ByteArray) (l r : Option Addr) (e : ByteArray × ByteArray) (w : World) : Prop := w.heap[b]? = some (.cells (treeL (sha x.1.data.toList) x.1 x.2 l r e.1 e.2).toArray 104)
/-- A tree in memory; what its nodes have of encodings and hashes is told by 'f'. -/
def TA (n0 : Nat) (f : Tr (ByteArray × ByteArray) → ByteArray × ByteArray) : Tr (ByteArray × ByteArray) → Option Addr → World → Prop
  | .nil, p, _ => p = none
  | .node l x r, p, w => ∃ (b : Nat) (pl pr : Option Addr), p = some ⟨b, 0, none⟩ ∧ n0 ≤ b ∧ TB b x pl pr (f (.node l x r)) w ∧ TA n0 f l pl w ∧ TA n0 f r pr w
/-- With no hashes yet. -/
def bare : Tr (ByteArray × ByteArray) → ByteArray × ByteArray := fun _ => (⟨#[]⟩, ⟨#[]⟩)
section
variable {n0 : Nat} {f : Tr (ByteArray × ByteArray) → ByteArray × ByteArray}
theorem TB.lt {b : Nat} {x : ByteArray × ByteArray} {l r : Option Addr} {e : ByteArray × ByteArray} {w : World} (h : TB b x l r e w) : b < w.heap.size := (Array.getElem?_eq_some_iff.1 h).1
theorem TB.below {b n : Nat} {x : ByteArray × ByteArray} {l r : Option Addr} {e : ByteArray × ByteArray} {w w' : World} (h : TB b x l r e w) (hb : Below n w w') (hn : w.heap.size ≤ n) : TB b x l r e w' :=
  (hb.block b (Nat.lt_of_lt_of_le h.lt hn)).trans h
theorem TA.below {n : Nat} {w w' : World} (hb : Below n w w') (hn : w.heap.size ≤ n) : ∀ {t : Tr (ByteArray × ByteArray)} {p : Option Addr}, TA n0 f t p w → TA n0 f t p w'
  | .nil, _, h => h
  | .node _ _ _, _, ⟨b, pl, pr, h1, h0, h2, h3, h4⟩ => ⟨b, pl, pr, h1, h0, h2.below hb hn, h3.below hb hn, h4.below hb hn⟩
theorem TA.ptr {t : Tr (ByteArray × ByteArray)} {p : Option Addr} {w : World} (h : TA n0 f t p w) : Ptr p w := by
  cases t with
  | nil => exact .inl h
  | node l x r =>
    obtain ⟨b, pl, pr, h1, _, h2, _, _⟩ := h
    exact .inr ⟨b, _, _, h1, h2⟩
end
/-- What 'above' says, by itself. -/
def AboveSaid (ab : ByteArray × ByteArray → ByteArray × ByteArray → Bool) : Prop := ∀ (p q : ByteArray × ByteArray) (w : World), Calls Tryd.prog 105 #[.agg (rankL (sha p.1.data.toList) p.1).toArray, .agg (rankL (sha q.1.data.toList) q.1).toArray] w fun e w' => e = .returned (.bool (ab p q)) ∧ Below w.heap.size w w'
theorem with_bare (b : Nat) (x : ByteArray × ByteArray) (pl pr l r : Option Addr) (w : World) (hb : TB b x pl pr (⟨#[]⟩, ⟨#[]⟩) w) (p1 : Ptr pl w) (p2 : Ptr pr w) (p3 : Ptr l w) (p4 : Ptr r w) :
    Calls Tryd.prog 106 #[.pointer (some ⟨b, 0, none⟩), .pointer l, .pointer r] w fun e w' => ∃ g, e = .returned (.pointer (some ⟨g, 0, none⟩)) ∧ (g = b ∨ w.heap.size ≤ g) ∧ TB g x l r (⟨#[]⟩, ⟨#[]⟩) w' ∧ Below w.heap.size w w' := by
  by_cases hne : l = pl ∧ r = pr
  · obtain ⟨rfl, rfl⟩ := hne
    refine (with_same b _ (sha_len32 _) x.1 x.2 l r _ _ w hb p1 p2).mono ?_
    rintro e w' ⟨he, rfl⟩
    exact ⟨b, he, .inl rfl, hb, Below.refl _ _⟩
  · refine (with_any b _ (sha_len32 _) x.1 x.2 pl pr l r _ _ w hb p1 p2 p3 p4 hne).mono ?_
    rintro e w' ⟨g, he, hge, hg, hbl⟩
    exact ⟨g, he, .inr hge, hg, hbl⟩
theorem Ptr.below {p : Option Addr} {w w' : World} {n : Nat} (h : Ptr p w) (hb : Below n w w') (hn : w.heap.size ≤ n) : Ptr p w' := by
  rcases h with h | ⟨x, cs, u, h1, h2⟩
  · exact .inl h
  · exact .inr ⟨x, cs, u, h1, (hb.block x (Nat.lt_of_lt_of_le (Array.getElem?_eq_some_iff.1 h2).1 hn)).trans h2⟩
theorem TB.c35 {b : Nat} {x : ByteArray × ByteArray} {l r : Option Addr} {e : ByteArray × ByteArray} {w : World} (h : TB b x l r e w) : w.cell? ⟨b, 35, none⟩ = some (.pointer l) := (Lib.cell_of_heap h 35).trans (by simpa using (tree_get _ (sha_len32 _) x.1 x.2 l r e.1 e.2).1)
theorem TB.c36 {b : Nat} {x : ByteArray × ByteArray} {l r : Option Addr} {e : ByteArray × ByteArray} {w : World} (h : TB b x l r e w) : w.cell? ⟨b, 36, none⟩ = some (.pointer r) := (Lib.cell_of_heap h 36).trans (by simpa using (tree_get _ (sha_len32 _) x.1 x.2 l r e.1 e.2).2.1)
theorem TB.c37 {b : Nat} {x : ByteArray × ByteArray} {l r : Option Addr} {e : ByteArray × ByteArray} {w : World} (h : TB b x l r e w) : w.cell? ⟨b, 37, none⟩ = some (.string e.1) := (Lib.cell_of_heap h 37).trans (by simpa using (tree_get _ (sha_len32 _) x.1 x.2 l r e.1 e.2).2.2.1)
theorem TB.c38 {b : Nat} {x : ByteArray × ByteArray} {l r : Option Addr} {e : ByteArray × ByteArray} {w : World} (h : TB b x l r e w) : w.cell? ⟨b, 38, none⟩ = some (.string e.2) := (Lib.cell_of_heap h 38).trans (by simpa using (tree_get _ (sha_len32 _) x.1 x.2 l r e.1 e.2).2.2.2.1)
theorem TB.c0 {b : Nat} {x : ByteArray × ByteArray} {l r : Option Addr} {e : ByteArray × ByteArray} {w : World} (h : TB b x l r e w) : w.cell? ⟨b, 0, none⟩ = some (.string x.1) := (Lib.cell_of_heap h 0).trans (by simpa using (tree_get _ (sha_len32 _) x.1 x.2 l r e.1 e.2).2.2.2.2.1)
theorem TB.c1 {b : Nat} {x : ByteArray × ByteArray} {l r : Option Addr} {e : ByteArray × ByteArray} {w : World} (h : TB b x l r e w) : w.cell? ⟨b, 1, none⟩ = some (.string x.2) := (Lib.cell_of_heap h 1).trans (by simpa using (tree_get _ (sha_len32 _) x.1 x.2 l r e.1 e.2).2.2.2.2.2)
theorem TB.rank {b : Nat} {x : ByteArray × ByteArray} {l r : Option Addr} {e : ByteArray × ByteArray} {w : World} (h : TB b x l r e w) : w.rangeAt b 2 (rankL (sha x.1.data.toList) x.1) := fun j u hj => (Lib.cell_of_heap h (2 + j)).trans (by simpa using tree_rank _ (sha_len32 _) x.1 x.2 l r e.1 e.2 j u hj)
theorem ptr_nil (w : World) : (binOp .eql 71 (.pointer none) (.pointer none)).run Tryd.prog w = .ok (.bool true) w := by
  rw [ptr_eql none none w (.inl rfl) (.inl rfl)]; rfl
theorem ptr_some (b : Addr) (w : World) (h : Ptr (some b) w) : (binOp .eql 71 (.pointer (some b)) (.pointer none)).run Tryd.prog w = .ok (.bool false) w := by
  rw [ptr_eql (some b) none w h (.inl rfl)]; rfl

set_option maxRecDepth 100000 in
set_option maxHeartbeats 2000000 in
theorem merge_any {ab : ByteArray × ByteArray → ByteArray × ByteArray → Bool} (HA : Hid (AboveSaid ab)) (n0 n : Nat) : ∀ (s t : Tr (ByteArray × ByteArray)) (ps pt : Option Addr) (w : World), s.size + t.size ≤ n → n0 ≤ w.heap.size → TA n0 bare s ps w → TA n0 bare t pt w →
    Calls Tryd.prog 91 #[.pointer ps, .pointer pt] w fun e w' => ∃ p, e = .returned (.pointer p) ∧ TA n0 bare (Tr.merge ab s t) p w' ∧ Below w.heap.size w w' := by
  induction n with
  | zero =>
    intro s t ps pt w hn h0 hs ht
    cases s with
    | node l x r => simp [Tr.size] at hn
    | nil =>
      obtain rfl : ps = none := hs
      have q := ptr_nil w
      rw [Tr.merge]
      have HT : Hid (TA n0 bare t pt w) := ht
      clear ht hn
      go_enter Tryd.func91, Tryd.ntmps91
      go_wp2_with fail
      go_ret
      exact ⟨pt, rfl, HT.out, Below.refl _ _⟩
  | succ n ih =>
    intro s t ps pt w hn h0 hs ht
    cases s with
    | nil =>
      obtain rfl : ps = none := hs
      have q := ptr_nil w
      rw [Tr.merge]
      have HT : Hid (TA n0 bare t pt w) := ht
      clear ht hn ih
      go_enter Tryd.func91, Tryd.ntmps91
      go_wp2_with fail
      go_ret
      exact ⟨pt, rfl, HT.out, Below.refl _ _⟩
    | node l x r =>
      have hps := hs.ptr
      obtain ⟨b, pl, pr, rfl, hge, hb, hl, hr⟩ := id hs
      have q1 := ptr_some _ w hps
      cases t with
      | nil =>
        obtain rfl : pt = none := ht
        have q := ptr_nil w
        rw [Tr.merge]
        have HT : Hid (TA n0 bare (.node l x r) (some ⟨b, 0, none⟩) w) := hs
        clear hs hn ih hb hl hr hps
        go_enter Tryd.func91, Tryd.ntmps91
        go_wp2_with fail
        go_ret
        exact ⟨_, rfl, HT.out, Below.refl _ _⟩
      | node l2 y r2 =>
        have hpt := ht.ptr
        obtain ⟨b2, pl2, pr2, rfl, hge2, hb2, hl2, hr2⟩ := id ht
        have q2 := ptr_some _ w hpt
        have hk1 := hb.rank
        have hk2 := hb2.rank
        have HAB : Hid (∀ w', Calls Tryd.prog 105 #[.agg (rankL (sha x.1.data.toList) x.1).toArray, .agg (rankL (sha y.1.data.toList) y.1).toArray] w' fun e w'' => e = .returned (.bool (ab x y)) ∧ Below w'.heap.size w' w'') := fun w' => HA.out x y w'
        obtain ⟨T, hT⟩ : ∃ T, Tr.merge ab (.node l x r) (.node l2 y r2) = T := ⟨_, rfl⟩
        rw [hT]
        rw [Tr.merge] at hT
        have HT : Hid ((if ab x y = true then Tr.node l x (Tr.merge ab r (.node l2 y r2)) else Tr.node (Tr.merge ab (.node l x r) l2) y r2) = T) := hT
        clear hT
        have hn' : r.size + (Tr.node l2 y r2).size ≤ n := by simp only [Tr.size] at hn ⊢; omega
        have hn2 : (Tr.node l x r).size + l2.size ≤ n := by simp only [Tr.size] at hn ⊢; omega
        clear hn
        go_enter Tryd.func91, Tryd.ntmps91
        go_upto_region 5 with fail
        refine wp_region_held_drew (S := fun W => W.rangeAt b 2 (rankL (sha x.1.data.toList) x.1) ∧ W.rangeAt b2 2 (rankL (sha y.1.data.toList) y.1)) (by kernel_rfl) ⟨hk1, hk2⟩ (fun hHeld => ?_)
        refine wpAnyH_take (i := 0) (v := ?_) rfl (by kernel_rfl) (by kernel_rfl) (by kernel_rfl) (fun _ _ _ h => h) (Or.inl ⟨by rfl, ?_⟩) (by assumption) ?_
        rotate_left
        · intro w hSw; go_simp; rfl
        simp only [Act.put, List.setIfInBounds_toArray, List.set_cons_zero, List.set_cons_succ, List.getElem_toArray, List.getElem_cons_zero]
        refine wpAnyH_take (i := 1) (v := ?_) rfl (by kernel_rfl) (by kernel_rfl) (by kernel_rfl) (fun _ _ _ h => h) (Or.inl ⟨by rfl, ?_⟩) (by assumption) ?_
        rotate_left
        · intro w hSw; go_simp; rfl
        simp only [Act.put, List.setIfInBounds_toArray, List.set_cons_zero, List.set_cons_succ, List.getElem_toArray, List.getElem_cons_zero, List.getElem_cons_succ]
        refine wpAnyH_take (i := 2) (v := ?_) rfl (by kernel_rfl) (by kernel_rfl) (by kernel_rfl) (fun _ _ _ h => h) (Or.inl ⟨by rfl, ?_⟩) (by assumption) ?_
        rotate_left
        · intro w hSw; go_simp; rfl
        simp only [Act.put, List.setIfInBounds_toArray, List.set_cons_zero, List.set_cons_succ, List.getElem_toArray, List.getElem_cons_zero, List.getElem_cons_succ]
        refine wpAnyH_take (i := 3) (v := _) rfl (by kernel_rfl) (by kernel_rfl) (by kernel_rfl) (fun _ _ _ h => h) (yieldsIf_load_mid (by rfl) _ _ rfl _ _ rfl _ _ (fun w h => h.1) Tryd.underlying102 rfl (rank_size _ (sha_len32 _) _)) (by assumption) ?_
        simp only [Act.put, List.setIfInBounds_toArray, List.set_cons_zero, List.set_cons_succ, List.getElem_toArray, List.getElem_cons_zero, List.getElem_cons_succ]
        refine wpAnyH_take (i := 4) (v := ?_) rfl (by kernel_rfl) (by kernel_rfl) (by kernel_rfl) (fun _ _ _ h => h) (Or.inl ⟨by rfl, ?_⟩) (by assumption) ?_
        rotate_left
        · intro w hSw; go_simp; rfl
        simp only [Act.put, List.setIfInBounds_toArray, List.set_cons_zero, List.set_cons_succ, List.getElem_toArray, List.getElem_cons_zero, List.getElem_cons_succ]
        refine wpAnyH_take (i := 5) (v := ?_) rfl (by kernel_rfl) (by kernel_rfl) (by kernel_rfl) (fun _ _ _ h => h) (Or.inl ⟨by rfl, ?_⟩) (by assumption) ?_
        rotate_left
        · intro w hSw; go_simp; rfl
        simp only [Act.put, List.setIfInBounds_toArray, List.set_cons_zero, List.set_cons_succ, List.getElem_toArray, List.getElem_cons_zero, List.getElem_cons_succ]
        refine wpAnyH_take (i := 6) (v := ?_) rfl (by kernel_rfl) (by kernel_rfl) (by kernel_rfl) (fun _ _ _ h => h) (Or.inl ⟨by rfl, ?_⟩) (by assumption) ?_
        rotate_left
        · intro w hSw; go_simp; rfl
        simp only [Act.put, List.setIfInBounds_toArray, List.set_cons_zero, List.set_cons_succ, List.getElem_toArray, List.getElem_cons_zero, List.getElem_cons_succ]
        refine wpAnyH_take (i := 7) (v := _) rfl (by kernel_rfl) (by kernel_rfl) (by kernel_rfl) (fun _ _ _ h => h) (yieldsIf_load_mid (by rfl) _ _ rfl _ _ rfl _ _ (fun w h => h.2) Tryd.underlying102 rfl (rank_size _ (sha_len32 _) _)) (by assumption) ?_
        simp only [Act.put, List.setIfInBounds_toArray, List.set_cons_zero, List.set_cons_succ, List.getElem_toArray, List.getElem_cons_zero, List.getElem_cons_succ]
        refine wpAnyH_ready (rs := [8]) (by kernel_rfl) (by simp) ?_
        refine AllReadyH.cons rfl (fun K hK => ?_) AllReadyH.nil
        go_simp
        refine (HAB.out _).mono ?_
        rintro e w1 ⟨rfl, hb1'⟩
        have hbw1 : Below w.heap.size w w1 := ((Below.refl w.heap.size w).drew).trans hb1'
        clear hb1'
        refine hK.out _ _ ⟨(hb.below hbw1 (Nat.le_refl _)).rank, (hb2.below hbw1 (Nat.le_refl _)).rank⟩ (fun hHeld => ?_)
        clear hK K
        refine wpAnyH_done (by kernel_rfl) ?_ _
        have hs1 := hbw1.size
        cases hv : ab x y with
        | true =>
          have hif : Hid (T = Tr.node l x (Tr.merge ab r (.node l2 y r2))) := by show _ = _; rw [← HT.out, if_pos hv]
          clear HT
          have HI : Hid (∀ w', Below w.heap.size w w' → Calls Tryd.prog 91 #[.pointer pr, .pointer (some ⟨b2, 0, none⟩)] w' fun e w'' => ∃ p, e = .returned (.pointer p) ∧ TA n0 bare (Tr.merge ab r (.node l2 y r2)) p w'' ∧ Below w'.heap.size w' w'') := fun w' h => ih r (.node l2 y r2) pr (some ⟨b2, 0, none⟩) w' hn' (Nat.le_trans h0 h.size) (hr.below h (Nat.le_refl _)) (ht.below h (Nat.le_refl _))
          have HW : Hid (∀ w' r', Below w.heap.size w w' → Ptr r' w' → Calls Tryd.prog 106 #[.pointer (some ⟨b, 0, none⟩), .pointer pl, .pointer r'] w' fun e w'' => ∃ g, e = .returned (.pointer (some ⟨g, 0, none⟩)) ∧ (g = b ∨ w'.heap.size ≤ g) ∧ TB g x pl r' (⟨#[]⟩, ⟨#[]⟩) w'' ∧ Below w'.heap.size w' w'') := fun w' r' h hp => with_bare b x pl pr pl r' w' (hb.below h (Nat.le_refl _)) (hl.below h (Nat.le_refl _)).ptr (hr.below h (Nat.le_refl _)).ptr (hl.below h (Nat.le_refl _)).ptr hp
          have HC : Hid (∀ w', Below w.heap.size w w' → w'.cell? ⟨b, 35, none⟩ = some (.pointer pl) ∧ w'.cell? ⟨b, 36, none⟩ = some (.pointer pr)) := fun w' h => ⟨(hb.below h (Nat.le_refl _)).c35, (hb.below h (Nat.le_refl _)).c36⟩
          have HL : Hid (TA n0 bare l pl w) := hl
          clear ih hn' hn2 hHeld hb hb2 hl hr hl2 hr2 hs ht hps hpt hk1 hk2 HAB hv q1 q2 HA
          go_upto_region 6 with fail
          go_region_held3 (fun W => W.cell? ⟨b, 35, none⟩ = some (.pointer pl) ∧ W.cell? ⟨b, 36, none⟩ = some (.pointer pr)) (first | exact HC.out _ hbw1.drew | exact HC.out _ hbw2 | exact HC.out _ hbw3) (first | (go_at_call 91; refine (HI.out _ hbw1.drew).mono ?_; rintro e w2 ⟨p, rfl, hp, hb2'⟩; have hbw2 : Below w.heap.size w w2 := hbw1.drew.trans (hb2'.mono hs1); have hs2 := hbw2.size; clear hb2') | (go_at_call 106; refine (HW.out _ _ hbw2 hp.ptr).mono ?_; rintro e w3 ⟨g, rfl, hgo, hg, hb3'⟩; have hbw3 : Below w.heap.size w w3 := hbw2.trans (hb3'.mono hs2)))
          go_wp2_with fail
          go_ret
          rw [hif.out]
          exact ⟨_, rfl, ⟨g, pl, p, rfl, (by rcases hgo with q | q <;> omega), hg, HL.out.below hbw3 (Nat.le_refl _), hp.below hb3' (Nat.le_refl _)⟩, hbw3⟩
        | false =>
          have hif : Hid (T = Tr.node (Tr.merge ab (.node l x r) l2) y r2) := by show _ = _; rw [← HT.out, if_neg (by rw [hv]; decide)]
          clear HT
          have HI : Hid (∀ w', Below w.heap.size w w' → Calls Tryd.prog 91 #[.pointer (some ⟨b, 0, none⟩), .pointer pl2] w' fun e w'' => ∃ p, e = .returned (.pointer p) ∧ TA n0 bare (Tr.merge ab (.node l x r) l2) p w'' ∧ Below w'.heap.size w' w'') := fun w' h => ih (.node l x r) l2 (some ⟨b, 0, none⟩) pl2 w' hn2 (Nat.le_trans h0 h.size) (hs.below h (Nat.le_refl _)) (hl2.below h (Nat.le_refl _))
          have HW : Hid (∀ w' l', Below w.heap.size w w' → Ptr l' w' → Calls Tryd.prog 106 #[.pointer (some ⟨b2, 0, none⟩), .pointer l', .pointer pr2] w' fun e w'' => ∃ g, e = .returned (.pointer (some ⟨g, 0, none⟩)) ∧ (g = b2 ∨ w'.heap.size ≤ g) ∧ TB g y l' pr2 (⟨#[]⟩, ⟨#[]⟩) w'' ∧ Below w'.heap.size w' w'') := fun w' l' h hp => with_bare b2 y pl2 pr2 l' pr2 w' (hb2.below h (Nat.le_refl _)) (hl2.below h (Nat.le_refl _)).ptr (hr2.below h (Nat.le_refl _)).ptr hp (hr2.below h (Nat.le_refl _)).ptr
          have HC : Hid (∀ w', Below w.heap.size w w' → w'.cell? ⟨b2, 35, none⟩ = some (.pointer pl2) ∧ w'.cell? ⟨b2, 36, none⟩ = some (.pointer pr2)) := fun w' h => ⟨(hb2.below h (Nat.le_refl _)).c35, (hb2.below h (Nat.le_refl _)).c36⟩
          have HL : Hid (TA n0 bare r2 pr2 w) := hr2
          clear ih hn' hn2 hHeld hb hb2 hl hr hl2 hr2 hs ht hps hpt hk1 hk2 HAB hv q1 q2 HA
          go_upto_region 7 with fail
          go_region_held3 (fun W => W.cell? ⟨b2, 35, none⟩ = some (.pointer pl2) ∧ W.cell? ⟨b2, 36, none⟩ = some (.pointer pr2)) (first | exact HC.out _ hbw1.drew | exact HC.out _ hbw2 | exact HC.out _ hbw3) (first | (go_at_call 91; refine (HI.out _ hbw1.drew).mono ?_; rintro e w2 ⟨p, rfl, hp, hb2'⟩; have hbw2 : Below w.heap.size w w2 := hbw1.drew.trans (hb2'.mono hs1); have hs2 := hbw2.size; clear hb2') | (go_at_call 106; refine (HW.out _ _ hbw2 hp.ptr).mono ?_; rintro e w3 ⟨g, rfl, hgo, hg, hb3'⟩; have hbw3 : Below w.heap.size w w3 := hbw2.trans (hb3'.mono hs2)))
          go_wp2_with fail
          go_ret
          rw [hif.out]
          exact ⟨_, rfl, ⟨g, p, pr2, rfl, (by rcases hgo with q | q <;> omega), hg, hp.below hb3' (Nat.le_refl _), HL.out.below hbw3 (Nat.le_refl _)⟩, hbw3⟩
end Go.Proofs.YtofglikppppjoacDoor
namespace Go.Proofs.YtofglikppppjoacDoor
open Go.RowKit Go.Proofs.Sha

theorem info5 : (Tryd.prog.info? 5).map (fun i => (i.zero, i.size, i.bytes)) = some (some (.int .u8 0), 1, 1) := by kernel_rfl

set_option maxRecDepth 100000 in
set_option maxHeartbeats 400000 in
theorem padded_any (s : ByteArray) (w : World) (hs : s.size ≤ 1048576) :
    Calls Tryd.prog 78 #[.string s] w fun e w' => ∃ g cap, e = .returned (.slice (some ⟨g, 0, none⟩) (pad s.data.toList).length cap) ∧ Row w' w.heap.size g (pad s.data.toList).length cap ((pad s.data.toList).map B) ∧ Below w.heap.size w w' := by
  obtain ⟨i0, hi0, hz0, hz1, hz2⟩ := info_parts info5
  have hl : s.data.toList.length = s.size := rfl
  go_enter Tryd.func78, Tryd.ntmps78
  go_wp2_with (first | (refine wpList_bytes_row _ rfl (.tmp 6) 9 87 5 rfl s rfl Tryd.underlying9 Tryd.underlying87 Tryd.underlying5 ?_; intro g0 cap0 w0 hrow0 hbel0) | (at_builtin; refine wpList_append_row _ rfl (.tmp 8) (.tmp 9) 87 rfl 5 i0 (.int .u8 0) 1 Tryd.underlying87 hi0 hz0 hz1 hz2 rfl w.heap.size g0 s.size cap0 _ rfl (hrow0.alloc _) ⟨w0.heap.size, 0, none⟩ 1 1 [.int .u8 128] rfl rfl (World.news_of_block (heap_alloc_new w0 _)) (by simp [Value.oneCell']) (by unfold maxLen; omega) (by omega) (by have := hbel0.size; simp; omega) (w0.heap.size + 1) (by simp) ?_; intro g1 cap1 w1 hrow1 hgrow1 _ _))
  have hbel1 : Below w.heap.size w w1 := (hbel0.alloc hbel0.size _).grown hgrow1 (by have := hbel0.size; simp; omega) (fun q hq => by cases hq; exact hrow0.ge)
  have hrow1' : Row w1 w.heap.size g1 (s.size + 1 + 0) cap1 ((s.data.toList ++ [128] ++ List.replicate 0 0).map B) := by simpa [B] using hrow1
  clear hgrow1 hrow1 hrow0 hbel0
  go_loopw [3] (fun v wr => ∃ j g cap : Nat, j ≤ zpad s.size ∧ v = .slice (some ⟨g, 0, none⟩) (s.size + 1 + j) cap ∧ Row wr w.heap.size g (s.size + 1 + j) cap ((s.data.toList ++ [128] ++ List.replicate j 0).map B) ∧ Below w.heap.size w wr) (fun v _ => zpad s.size + s.size + 1 - lenOf v)
  case atStart => exact ⟨0, g1, cap1, Nat.zero_le _, rfl, hrow1', hbel1⟩
  case round =>
    clear hrow1' hbel1
    obtain ⟨j, g, cap, hj, rfl, hrow, hbel⟩ := hrel
    have hsz := hbel.size
    have hge := hrow.ge
    have hz := zpad_lt s.size
    by_cases hlt : j < zpad s.size
    · have hm := zpad_ne s.size j hlt
      go_wp2_with (at_builtin; refine wpList_append_row _ rfl (.tmp 15) (.tmp 16) 87 rfl 5 i0 (.int .u8 0) 1 Tryd.underlying87 hi0 hz0 hz1 hz2 rfl w.heap.size g (s.size + 1 + j) cap _ rfl (hrow.alloc _) ⟨wr.heap.size, 0, none⟩ 1 1 [.int .u8 0] rfl rfl (World.news_of_block (heap_alloc_new wr _)) (by simp [Value.oneCell']) (by unfold maxLen; omega) (by omega) (by simp; omega) (wr.heap.size + 1) (by simp) ?_; intro g2 cap2 w2 hrow2 hgrow2 _ _)
      go_roundw
      case rel =>
        have e : (s.data.toList ++ [128] ++ List.replicate j 0).map B ++ [.int .u8 0] = (s.data.toList ++ [128] ++ List.replicate (j + 1) 0).map B := by
          rw [List.replicate_succ', ← List.append_assoc, List.map_append (l₂ := [0])]; rfl
        rw [e] at hrow2
        exact ⟨j + 1, g2, cap2, by omega, rfl, hrow2, (hbel.alloc hsz _).grown hgrow2 (by simp; omega) (fun q hq => by cases hq; exact hge)⟩
      case measure => simp [lenOf]; omega
    · obtain rfl : j = zpad s.size := by omega
      have hm := zpad_eq s.size
      have hm' : ((((s.size : Int) + 1 + ((zpad s.size : Nat) : Int)) % 64) != 56) = false := by
        rw [bne_eq_false_iff_eq]; omega
      go_wp2_with fail
      try rw [hm']
      go_loopw [3, 5] (fun v i wr => ∃ k g cap : Nat, k ≤ 8 ∧ i = .int .i64 (7 - (k : Int)) ∧ v = .slice (some ⟨g, 0, none⟩) (s.size + 1 + zpad s.size + k) cap ∧ Row wr w.heap.size g (s.size + 1 + zpad s.size + k) cap ((s.data.toList ++ [128] ++ List.replicate (zpad s.size) 0 ++ beTo (8 * s.size) k).map B) ∧ Below w.heap.size w wr) (fun v _ _ => zpad s.size + s.size + 9 - lenOf v)
      case atStart => exact ⟨0, g, cap, by omega, rfl, rfl, by simpa [beTo] using hrow, hbel⟩
      case round =>
        clear hrow hbel hge hsz
        obtain ⟨k, g, cap, hk, rfl, rfl, hrow, hbel⟩ := hrel
        have hsz := hbel.size
        have hge := hrow.ge
        by_cases hlt2 : k < 8
        · go_wp2_with (at_builtin; refine wpList_append_row _ rfl (.tmp 26) (.tmp 33) 87 rfl 5 i0 (.int .u8 0) 1 Tryd.underlying87 hi0 hz0 hz1 hz2 rfl w.heap.size g (s.size + 1 + zpad s.size + k) cap _ rfl (hrow.alloc _) ⟨wr.heap.size, 0, none⟩ 1 1 [_] rfl rfl (World.news_of_block (heap_alloc_new wr _)) (by simp [Value.oneCell']) (by unfold maxLen; omega) (by omega) (by simp; omega) (wr.heap.size + 1) (by simp) ?_; intro g2 cap2 w2 hrow2 hgrow2 _ _)
          go_roundw
          case rel =>
            rw [lenByte_form] at hrow2
            have e : (s.data.toList ++ [128] ++ List.replicate (zpad s.size) 0 ++ beTo (8 * s.size) k).map B ++ [.int .u8 ((lenByte (8 * s.size) (7 - k)).toNat : Int)] = (s.data.toList ++ [128] ++ List.replicate (zpad s.size) 0 ++ beTo (8 * s.size) (k + 1)).map B := by
              rw [beTo_succ, ← List.append_assoc, List.map_append (l₂ := [lenByte (8 * s.size) (7 - k)])]; rfl
            rw [e] at hrow2
            exact ⟨k + 1, g2, cap2, by omega, by go_num, rfl, hrow2, (hbel.alloc hsz _).grown hgrow2 (by simp; omega) (fun q hq => by cases hq; exact hge)⟩
          case measure => simp [lenOf]; omega
        · obtain rfl : k = 8 := by omega
          go_wp2
          go_ret
          have e : pad s.data.toList = s.data.toList ++ [128] ++ List.replicate (zpad s.size) 0 ++ beTo (8 * s.size) 8 := by rw [pad, hl]
          have e2 : (pad s.data.toList).length = s.size + 1 + zpad s.size + 8 := by rw [pad_length, hl]; omega
          rw [e2, e]
          exact ⟨g, cap, rfl, hrow, hbel⟩
end Go.Proofs.YtofglikppppjoacDoor
