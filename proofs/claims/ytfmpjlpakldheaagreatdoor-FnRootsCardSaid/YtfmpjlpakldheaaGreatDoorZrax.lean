import Derived.Test.YtfmpjlpakldheaaGreatDoorZram
import Derived.Test.YtfmpjlpakldheaaGreatDoorZral
import Derived.Test.YtfmpjlpakldheaaGreatDoorZran
import Derived.Test.YtfmpjlpakldheaaGreatDoorZraw
import Derived.Test.YtfmpjlpakldheaaGreatDoorZraa
import Derived.Test.YtfmpjlpakldheaaGreatDoorProg
import Derived.Deep.MidRow
import Derived.Test.YtfmpjlpakldheaaGreatDoorZrak
import Derived.Deep.RegionHeld3
import Derived.Deep.Cut
import Derived.Lib.Builder
set_option maxRecDepth 100000
set_option maxHeartbeats 1000000
namespace Go.Proofs.YtfmpjlpakldheaaGreatDoor
open Go.RowKit Go.Proofs.Sha Tryz
def Tr.cut (k : ByteArray) : Tr PairT -> Tr PairT × Tr PairT
 | .nil => (.nil, .nil)
 | .node l x r => if lessB x.1 k = true then (.node l x (Tr.cut k r).1, (Tr.cut k r).2) else ((Tr.cut k l).1, .node (Tr.cut k l).2 x r)
theorem Tr.cut_sub (k : ByteArray) : ∀ (t : Tr PairT), (∀ y ∈ (Tr.cut k t).1.inord, y ∈ t.inord) /\ ∀ y ∈ (Tr.cut k t).2.inord, y ∈ t.inord
 | .nil => ⟨fun y h => h, fun y h => h⟩
 | .node l x r => by
  have hl := Tr.cut_sub k l
  have hr := Tr.cut_sub k r
  rw [Tr.cut]
  split
  · refine ⟨fun y h => ?_, fun y h => ?_⟩
    · simp only [Tr.inord, List.mem_append, List.mem_cons] at h ⊢
      rcases h with h | h | h
      · exact .inl h
      · exact .inr (.inl h)
      · exact .inr (.inr (hr.1 y h))
    · simp only [Tr.inord, List.mem_append, List.mem_cons]
      exact .inr (.inr (hr.2 y h))
  · refine ⟨fun y h => ?_, fun y h => ?_⟩
    · simp only [Tr.inord, List.mem_append, List.mem_cons]
      exact .inl (hl.1 y h)
    · simp only [Tr.inord, List.mem_append, List.mem_cons] at h ⊢
      rcases h with h | h | h
      · exact .inl (hl.2 y h)
      · exact .inr (.inl h)
      · exact .inr (.inr h)
theorem Tr.cut_heap {ab : PairT -> PairT -> Bool} (k : ByteArray) : ∀ (t : Tr PairT), t.heap ab -> (Tr.cut k t).1.heap ab /\ (Tr.cut k t).2.heap ab
 | .nil, h => ⟨h, h⟩
 | .node l x r, h => by
  obtain ⟨h1, h2, h3, h4⟩ := h
  have hl := Tr.cut_heap k l h3
  have hr := Tr.cut_heap k r h4
  rw [Tr.cut]
  split
  · exact ⟨⟨h1, fun y hy => h2 y ((Tr.cut_sub k r).1 y hy), h3, hr.1⟩, hr.2⟩
  · exact ⟨hl.1, fun y hy => h1 y ((Tr.cut_sub k l).2 y hy), h2, hl.2, h4⟩
theorem ku_app {a b : List ByteArray} (h : KeysUp (a ++ b)) : KeysUp a /\ KeysUp b /\ ∀ x ∈ a, ∀ y ∈ b, lessB x y = true := by
 induction a with
 | nil => exact ⟨trivial, h, fun x hx => by cases hx⟩
 | cons k ks ih =>
  obtain ⟨h1, h2⟩ := h
  obtain ⟨q1, q2, q3⟩ := ih h2
  refine ⟨⟨fun x hx => h1 x (List.mem_append_left _ hx), q1⟩, q2, fun x hx y hy => ?_⟩
  rcases List.mem_cons.1 hx with rfl | hx
  · exact h1 y (List.mem_append_right _ hy)
  · exact q3 x hx y hy
theorem filter_all {p : PairT -> Bool} {l : List PairT} (h : ∀ x ∈ l, p x = true) : l.filter p = l := List.filter_eq_self.2 h
theorem filter_no {p : PairT -> Bool} {l : List PairT} (h : ∀ x ∈ l, p x = false) : l.filter p = [] := List.filter_eq_nil_iff.2 fun x hx => by rw [h x hx]; decide
theorem mem_keys {p : PairT} {l : List PairT} (h : p ∈ l) : p.1 ∈ keys l := List.mem_map.2 ⟨p, h, rfl⟩
theorem less_asyB {a b : ByteArray} (h : lessB a b = true) : lessB b a = false := by
 cases e : lessB b a with
 | false => rfl
 | true => rw [<- lessB_irr a, lessB_tr h e]
theorem Tr.cut_inord (k : ByteArray) : ∀ (t : Tr PairT), KeysUp (keys t.inord) -> (Tr.cut k t).1.inord = t.inord.filter (fun p => lessB p.1 k) /\ (Tr.cut k t).2.inord = t.inord.filter (fun p => !lessB p.1 k)
 | .nil, _ => ⟨rfl, rfl⟩
 | .node l x r, h => by
  have h' : KeysUp (keys l.inord ++ x.1 :: keys r.inord) := by
   have e : keys (Tr.node l x r).inord = keys l.inord ++ x.1 :: keys r.inord := by simp [Tr.inord, keys]
   rw [<- e]; exact h
  obtain ⟨q1, q2, q3⟩ := ku_app h'
  obtain ⟨q4, q5⟩ := q2
  have hl := Tr.cut_inord k l q1
  have hr := Tr.cut_inord k r q5
  have hlx : ∀ y ∈ l.inord, lessB y.1 x.1 = true := fun y hy => q3 _ (mem_keys hy) _ (List.mem_cons_self ..)
  have hxr : ∀ y ∈ r.inord, lessB x.1 y.1 = true := fun y hy => q4 _ (mem_keys hy)
  rw [Tr.cut]
  cases hx : lessB x.1 k with
  | true =>
   rw [if_pos rfl]
   have e1 : l.inord.filter (fun p => lessB p.1 k) = l.inord := filter_all fun y hy => lessB_tr (hlx y hy) hx
   have e2 : l.inord.filter (fun p => !lessB p.1 k) = [] := filter_no fun y hy => by rw [lessB_tr (hlx y hy) hx]; rfl
   refine ⟨?_, ?_⟩
   · simp only [Tr.inord, List.filter_append, List.filter_cons, hx, if_true, e1, hr.1]
   · simp only [Tr.inord, List.filter_append, List.filter_cons, hx, e2, hr.2]
     rfl
  | false =>
   rw [if_neg (by decide)]
   have hk : ∀ y ∈ r.inord, lessB y.1 k = false := fun y hy => by
    cases e : lessB y.1 k with
    | false => rfl
    | true => rw [lessB_tr (hxr y hy) e] at hx; cases hx
   have e1 : r.inord.filter (fun p => lessB p.1 k) = [] := filter_no hk
   have e2 : r.inord.filter (fun p => !lessB p.1 k) = r.inord := filter_all fun y hy => by rw [hk y hy]; rfl
   refine ⟨?_, ?_⟩
   · simp only [Tr.inord, List.filter_append, List.filter_cons, hx, e1, hl.1]
     simp
   · simp only [Tr.inord, List.filter_append, List.filter_cons, hx, e2, hl.2]
     simp
def zeroK (k : ByteArray) : ByteArray := k ++ ⟨#[0]⟩
theorem bl_zero : ∀ (x k : List UInt8), Op.bytesLess x (k ++ [0]) = !Op.bytesLess k x
 | [], [] => by simp [Op.bytesLess]
 | [], a :: k => by simp [Op.bytesLess]
 | b :: x, [] => by
  simp [Op.bytesLess]
 | b :: x, a :: k => by
  rw [List.cons_append, Op.bytesLess, Op.bytesLess, bl_zero x k]
  by_cases e : a = b
  · subst e; simp
  · have e' : ¬ b = a := fun q => e q.symm
    simp only [beq_eq_false_iff_ne.2 e, beq_eq_false_iff_ne.2 e', Bool.false_and, Bool.or_false]
    by_cases hl : b < a
    · have : ¬ a < b := by rw [UInt8.lt_iff_toNat_lt] at *; omega
      simp [hl, this]
    · have : a < b := by
       rw [UInt8.lt_iff_toNat_lt] at *
       have : a.toNat ≠ b.toNat := fun q => e (UInt8.toNat_inj.1 q)
       omega
      simp [hl, this]
theorem less_zero (x k : ByteArray) : lessB x (zeroK k) = !lessB k x := by
 unfold lessB zeroK
 rw [ByteArray.toList_eq x, ByteArray.toList_eq k, ByteArray.toList_eq (k ++ _), ByteArray.data_append, Array.toList_append]
 exact bl_zero _ _
def Tr.around (k : ByteArray) (t : Tr PairT) : Tr PairT × Tr PairT := ((Tr.cut k t).1, (Tr.cut (zeroK k) (Tr.cut k t).2).2)
theorem ku_filter {ps : List PairT} (p : PairT -> Bool) (h : KeysUp (keys ps)) : KeysUp (keys (ps.filter p)) := by
 induction ps with
 | nil => exact h
 | cons x xs ih =>
  obtain ⟨h1, h2⟩ := h
  rw [List.filter_cons]
  split
  · refine ⟨fun y hy => h1 y ?_, ih h2⟩
    obtain ⟨q, hq, rfl⟩ := List.mem_map.1 hy
    exact mem_keys (List.mem_filter.1 hq).1
  · exact ih h2
theorem Tr.around_inord (k : ByteArray) (t : Tr PairT) (h : KeysUp (keys t.inord)) : (Tr.around k t).1.inord = t.inord.filter (fun p => lessB p.1 k) /\ (Tr.around k t).2.inord = t.inord.filter (fun p => lessB k p.1) := by
 obtain ⟨q1, q2⟩ := Tr.cut_inord k t h
 refine ⟨q1, ?_⟩
 have q3 := (Tr.cut_inord (zeroK k) (Tr.cut k t).2 (by rw [q2]; exact ku_filter _ h)).2
 show (Tr.cut (zeroK k) (Tr.cut k t).2).2.inord = _
 rw [q3, q2, List.filter_filter]
 congr 1
 funext p
 rw [less_zero, Bool.not_not]
 cases e : lessB k p.1 with
 | true => rw [less_asyB e]; rfl
 | false => rfl
theorem Tr.around_heap {ab : PairT -> PairT -> Bool} (k : ByteArray) (t : Tr PairT) (h : t.heap ab) : (Tr.around k t).1.heap ab /\ (Tr.around k t).2.heap ab := ⟨(Tr.cut_heap k t h).1, (Tr.cut_heap _ _ (Tr.cut_heap k t h).2).2⟩
theorem wout_parts {ps : List PairT} (k : ByteArray) (h : KeysUp (keys ps)) : wout ps k = ps.filter (fun p => lessB p.1 k) ++ ps.filter (fun p => lessB k p.1) := by
 unfold wout
 induction ps with
 | nil => rfl
 | cons x xs ih =>
  obtain ⟨h1, h2⟩ := h
  simp only [List.filter_cons]
  by_cases e : x.1 = k
  · subst e
    have e0 : xs.filter (fun p => lessB p.1 x.1) = [] := filter_no fun y hy => less_asyB (h1 _ (mem_keys hy))
    rw [ih h2, lessB_irr, e0]
    simp
  · cases hl : lessB x.1 k with
    | true =>
     rw [less_asyB hl, ih h2]
     simp [e]
    | false =>
     have hk := lessB_or x.1 k hl e
     have e0 : xs.filter (fun p => lessB p.1 k) = [] := filter_no fun y hy => less_asyB (lessB_tr hk (h1 _ (mem_keys hy)))
     have e1 : xs.filter (fun p => lessB k p.1) = xs := filter_all fun y hy => lessB_tr hk (h1 _ (mem_keys hy))
     rw [ih h2, hk, e0, e1]
     simp [e]
theorem ins_parts2 (k v : ByteArray) : ∀ (a b : List PairT), (∀ x ∈ a, lessB k x.1 = false) -> (∀ x ∈ b, lessB k x.1 = true) -> ins k v (a ++ b) = a ++ (k, v) :: b
 | [], [], _, _ => rfl
 | [], y :: b, _, hb => by rw [List.nil_append, ins, if_pos (hb y (List.mem_cons_self ..))]; rfl
 | x :: a, b, ha, hb => by
  rw [List.cons_append, ins, if_neg (by rw [ha x (List.mem_cons_self ..)]; decide), ins_parts2 k v a b (fun y hy => ha y (List.mem_cons_of_mem _ hy)) hb]
  rfl
theorem wth_parts {ps : List PairT} (k v : ByteArray) (h : KeysUp (keys ps)) : wth ps k v = ps.filter (fun p => lessB p.1 k) ++ (k, v) :: ps.filter (fun p => lessB k p.1) := by
 unfold wth
 rw [wout_parts k h]
 refine ins_parts2 k v _ _ (fun x hx => ?_) (fun x hx => ?_)
 · exact less_asyB (by simpa using (List.mem_filter.1 hx).2)
 · simpa using (List.mem_filter.1 hx).2
theorem ku_apart : ∀ {ps : List PairT}, KeysUp (keys ps) -> Apart ps
 | [], _ => List.Pairwise.nil
 | x :: xs, h => List.Pairwise.cons (fun y hy e => by have := h.1 _ (mem_keys hy); rw [e, lessB_irr] at this; cases this) (ku_apart h.2)
theorem tree_one (t : Tr PairT) (ps : List PairT) (hh : t.heap abP) (hi : t.inord = ps) (ha : Apart ps) : t = cutTree ps := by
 refine Tr.unique abP _ _ hh (cutTree_heap ps ha) (by rw [hi, cutTree_inord]) ?_ ?_
 · rw [hi]; exact ha.imp fun h e => h (by rw [e])
 · rw [hi]; exact ranked_abP ps ha.ne
theorem del_tree {ps : List PairT} (k : ByteArray) (h : KeysUp (keys ps)) : Tr.merge abP (Tr.around k (cutTree ps)).1 (Tr.around k (cutTree ps)).2 = cutTree (wout ps k) := by
 have hin := cutTree_inord ps
 have hh := cutTree_heap ps (ku_apart h)
 obtain ⟨a1, a2⟩ := Tr.around_inord k (cutTree ps) (by rw [hin]; exact h)
 obtain ⟨b1, b2⟩ := Tr.around_heap k (cutTree ps) hh
 rw [hin] at a1 a2
 have hw : (Tr.merge abP (Tr.around k (cutTree ps)).1 (Tr.around k (cutTree ps)).2).inord = wout ps k := by rw [Tr.merge_inord, a1, a2, wout_parts k h]
 have hap : Apart (wout ps k) := ku_apart (ku_wout h k)
 refine tree_one _ _ (Tr.merge_heap abP _ _ b1 b2 (by rw [a1, a2, <- wout_parts k h]; exact ranked_abP _ hap.ne) (fun x hx y hy e => ?_)) hw hap
 subst e
 rw [a1] at hx
 rw [a2] at hy
 have h1 : lessB x.1 k = true := by simpa using (List.mem_filter.1 hx).2
 have h2 : lessB k x.1 = true := by simpa using (List.mem_filter.1 hy).2
 rw [less_asyB h1] at h2
 cases h2
theorem put_tree {ps : List PairT} (k v : ByteArray) (h : KeysUp (keys ps)) : Tr.merge abP (Tr.merge abP (Tr.around k (cutTree ps)).1 (.node .nil (k, v) .nil)) (Tr.around k (cutTree ps)).2 = cutTree (wth ps k v) := by
 have hin := cutTree_inord ps
 have hh := cutTree_heap ps (ku_apart h)
 obtain ⟨a1, a2⟩ := Tr.around_inord k (cutTree ps) (by rw [hin]; exact h)
 obtain ⟨b1, b2⟩ := Tr.around_heap k (cutTree ps) hh
 rw [hin] at a1 a2
 have hap : Apart (wth ps k v) := ku_apart (ku_wth h k v)
 have hrk := ranked_abP _ hap.ne
 have hs : (Tr.node .nil (k, v) .nil : Tr PairT).inord = [(k, v)] := rfl
 have hm : (Tr.merge abP (Tr.around k (cutTree ps)).1 (.node .nil (k, v) .nil)).inord = ps.filter (fun p => lessB p.1 k) ++ [(k, v)] := by rw [Tr.merge_inord, a1, hs]
 have hw : (Tr.merge abP (Tr.merge abP (Tr.around k (cutTree ps)).1 (.node .nil (k, v) .nil)) (Tr.around k (cutTree ps)).2).inord = wth ps k v := by
  rw [Tr.merge_inord, hm, a2, wth_parts k v h, List.append_assoc]
  rfl
 have hrk' := hrk
 rw [wth_parts k v h] at hrk'
 have hm1 : (Tr.merge abP (Tr.around k (cutTree ps)).1 (.node .nil (k, v) .nil)).heap abP := by
  refine Tr.merge_heap abP _ _ b1 ⟨(fun y hy => by cases hy), (fun y hy => by cases hy), trivial, trivial⟩ ?_ (fun x hx y hy e => ?_)
  · rw [a1, hs]
    exact hrk'.sub abP fun x hx => by
     rcases List.mem_append.1 hx with q | q
     · exact List.mem_append_left _ q
     · rw [List.mem_singleton] at q; subst q; exact List.mem_append_right _ (List.mem_cons_self ..)
  · rw [hs, List.mem_singleton] at hy
    subst hy
    rw [a1] at hx
    have h1 : lessB x.1 k = true := by simpa using (List.mem_filter.1 hx).2
    rw [e, lessB_irr] at h1
    cases h1
 refine tree_one _ _ (Tr.merge_heap abP _ _ hm1 b2 ?_ (fun x hx y hy e => ?_)) hw hap
 · rw [hm, a2, List.append_assoc]
   exact hrk'
 · subst e
   rw [hm] at hx
   rw [a2] at hy
   have h2 : lessB k x.1 = true := by simpa using (List.mem_filter.1 hy).2
   rcases List.mem_append.1 hx with q | q
   · have h1 : lessB x.1 k = true := by simpa using (List.mem_filter.1 q).2
     rw [less_asyB h1] at h2
     cases h2
   · rw [List.mem_singleton] at q
     subst q
     rw [lessB_irr] at h2
     cases h2
def rankL (X : List UInt8) (k : ByteArray) : List Value := X.map B ++ [Value.string k]
def treeL (X : List UInt8) (k v : ByteArray) (l r : Option Addr) (enc h : ByteArray) : List Value := [.string k, .string v] ++ rankL X k ++ [.pointer l, .pointer r, .string enc, .string h]
theorem built4_e (x0 x1 x2 x3 x4 x5 x6 x7 x8 x9 x10 x11 x12 x13 x14 x15 x16 x17 x18 x19 x20 x21 x22 x23 x24 x25 x26 x27 x28 x29 x30 x31 : UInt8) (k v : ByteArray) (l r : Option Addr) : prog.built 133 [(0, .agg #[.string k, .string v]), (1, .agg ([x0, x1, x2, x3, x4, x5, x6, x7, x8, x9, x10, x11, x12, x13, x14, x15, x16, x17, x18, x19, x20, x21, x22, x23, x24, x25, x26, x27, x28, x29, x30, x31].map B ++ [Value.string k]).toArray), (2, .pointer l), (3, .pointer r)] = some (treeL [x0, x1, x2, x3, x4, x5, x6, x7, x8, x9, x10, x11, x12, x13, x14, x15, x16, x17, x18, x19, x20, x21, x22, x23, x24, x25, x26, x27, x28, x29, x30, x31] k v l r ⟨#[]⟩ ⟨#[]⟩).toArray := by kernel_rfl
theorem list32 (X : List UInt8) (h : X.length = 32) : ∃ x0 x1 x2 x3 x4 x5 x6 x7 x8 x9 x10 x11 x12 x13 x14 x15 x16 x17 x18 x19 x20 x21 x22 x23 x24 x25 x26 x27 x28 x29 x30 x31 : UInt8, X = [x0, x1, x2, x3, x4, x5, x6, x7, x8, x9, x10, x11, x12, x13, x14, x15, x16, x17, x18, x19, x20, x21, x22, x23, x24, x25, x26, x27, x28, x29, x30, x31] := by
 match X, h with
 | [x0, x1, x2, x3, x4, x5, x6, x7, x8, x9, x10, x11, x12, x13, x14, x15, x16, x17, x18, x19, x20, x21, x22, x23, x24, x25, x26, x27, x28, x29, x30, x31], _ => exact ⟨_, _, _, _, _, _, _, _, _, _, _, _, _, _, _, _, _, _, _, _, _, _, _, _, _, _, _, _, _, _, _, _, rfl⟩
theorem built4 (X : List UInt8) (h : X.length = 32) (k v : ByteArray) (l r : Option Addr) : prog.built 133 [(0, .agg #[.string k, .string v]), (1, .agg (rankL X k).toArray), (2, .pointer l), (3, .pointer r)] = some (treeL X k v l r ⟨#[]⟩ ⟨#[]⟩).toArray := by
 obtain ⟨x0, x1, x2, x3, x4, x5, x6, x7, x8, x9, x10, x11, x12, x13, x14, x15, x16, x17, x18, x19, x20, x21, x22, x23, x24, x25, x26, x27, x28, x29, x30, x31, rfl⟩ := list32 X h
 exact built4_e x0 x1 x2 x3 x4 x5 x6 x7 x8 x9 x10 x11 x12 x13 x14 x15 x16 x17 x18 x19 x20 x21 x22 x23 x24 x25 x26 x27 x28 x29 x30 x31 k v l r
def PtrT (p : Option Addr) (w : World) : Prop := p = none \/ ∃ (x : Nat) (cs : Array Value) (u : TypeId), p = some ⟨x, 0, none⟩ /\ w.heap[x]? = some (.cells cs u (0, 0))
theorem size52 : (prog.info? 131).map (·.size) = some 33 := by kernel_rfl
theorem size37 : (prog.info? 34).map (·.size) = some 2 := by kernel_rfl
theorem size54 : (prog.info? 133).map (·.size) = some 39 := by kernel_rfl
theorem info54 : ∃ j, prog.info? 133 = some j /\ j.size ≠ 0 := by
 obtain ⟨j, h1, h2⟩ := Option.map_eq_some_iff.1 size54
 exact ⟨j, h1, by rw [h2]; decide⟩
theorem yieldsIf_build {P : Program} {ops : Array Oper} {S : World -> Prop} {o : Oper} {a : Act} (hw : Region.wanted o (yielded ops a.tmps) = true) (t : TypeId) (parts : Array (Nat × Operand)) (ho : o.op = .build t parts) (cells : Array Value)
 (hb : P.built t (parts.toList.map fun (i, x) => (i, a.eval x)) = some cells) : YieldsIf P ops S o (.agg cells) a := by
 refine .inl ⟨hw, fun w _ => ?_⟩
 rw [<- Array.toList_map] at hb
 unfold execOp
 simp only [ho, Sem.run_bind, run_build w t _ cells hb, Result.andThen_ok, Sem.run_pure]
theorem wp_box_row {P : Program} {o : Oper} {a : Act} {w : World} {K : Act -> World -> Prop} {Q : Exit -> Act -> World -> Prop} (ty : TypeId) (x : Operand) (ho : o.op = .box ty x) (cs : Array Value) (hx : a.eval x = .agg cs)
 (h : K (a.put o.dst (.pointer (some ⟨w.heap.size, 0, none⟩))) (w.alloc (.cells cs ty))) : o.wp P a w K Q := by
 unfold Oper.wp execOp
 simp only [ho, hx]
 exact h
theorem rank_size (X : List UInt8) (h : X.length = 32) (k : ByteArray) : (prog.info? 131).map (·.size) = some (rankL X k).length := by
 have e : (rankL X k).length = 33 := by unfold rankL; rw [List.length_append, List.length_map, h]; rfl
 rw [e]; exact size52
theorem ptr_eql (a b : Option Addr) (w : World) (ha : PtrT a w) (hb : PtrT b w) : (binOp .eql 79 (.pointer a) (.pointer b)).run prog w = .ok (.bool (decide (a = b))) w := by
 obtain ⟨j, h1, h2⟩ := info54
 exact run_eql_ptr 79 133 j Tryz.underlying79 h1 h2 a b w ha hb
theorem tree_get (X : List UInt8) (hX : X.length = 32) (k v : ByteArray) (pl pr : Option Addr) (enc h : ByteArray) :
 (treeL X k v pl pr enc h)[35]? = some (.pointer pl) /\ (treeL X k v pl pr enc h)[36]? = some (.pointer pr) /\ (treeL X k v pl pr enc h)[37]? = some (.string enc) /\ (treeL X k v pl pr enc h)[38]? = some (.string h) /\ (treeL X k v pl pr enc h)[0]? = some (.string k) /\ (treeL X k v pl pr enc h)[1]? = some (.string v) := by
 have hl : (X.map B).length = 32 := by rw [List.length_map, hX]
 have e : treeL X k v pl pr enc h = ([.string k, .string v] ++ (X.map B ++ [Value.string k])) ++ [.pointer pl, .pointer pr, .string enc, .string h] := by unfold treeL rankL; simp
 have hl2 : ([Value.string k, .string v] ++ (X.map B ++ [Value.string k])).length = 35 := by simp [hX]
 refine ⟨?_, ?_, ?_, ?_, rfl, rfl⟩ <;> (rw [e, List.getElem?_append_right (by omega), hl2]; rfl)
theorem tree_rank (X : List UInt8) (_hX : X.length = 32) (k v : ByteArray) (pl pr : Option Addr) (enc h : ByteArray) (j : Nat) (u : Value) (hj : (rankL X k)[j]? = some u) : (treeL X k v pl pr enc h)[2 + j]? = some u := by
 have hlt : j < (rankL X k).length := (List.getElem?_eq_some_iff.1 hj).1
 have e : treeL X k v pl pr enc h = [.string k, .string v] ++ (rankL X k ++ [.pointer pl, .pointer pr, .string enc, .string h]) := by unfold treeL; simp
 rw [e, List.getElem?_append_right (by simp), List.getElem?_append_left (by simpa using hlt)]
 simpa using hj
theorem withT_any (b : Nat) (X : List UInt8) (hX : X.length = 32) (k v : ByteArray) (pl pr l r : Option Addr) (enc h : ByteArray) (w : World) (hb : w.heap[b]? = some (.cells (treeL X k v pl pr enc h).toArray 133))
 (p1 : PtrT pl w) (p2 : PtrT pr w) (p3 : PtrT l w) (p4 : PtrT r w) (hne : ¬ (l = pl /\ r = pr)) :
 Calls prog 143 #[.pointer (some ⟨b, 0, none⟩), .pointer l, .pointer r] w fun e w' => ∃ g, e = .returned (.pointer (some ⟨g, 0, none⟩)) /\ w.heap.size <= g /\ w'.heap[g]? = some (.cells (treeL X k v l r ⟨#[]⟩ ⟨#[]⟩).toArray 133) /\ Below w.heap.size w w' := by
 have q1 := ptr_eql l pl w p3 p1
 have q2 := ptr_eql r pr w p4 p2
 have hlen : (X.map B).length = 32 := by rw [List.length_map, hX]
 obtain ⟨g35, g36, g37, g38, g0, g1⟩ := tree_get X hX k v pl pr enc h
 have c35 : w.cell? ⟨b, 35, none⟩ = some (.pointer pl) := (ZC hb 35).trans (by simpa using g35)
 have c36 : w.cell? ⟨b, 36, none⟩ = some (.pointer pr) := (ZC hb 36).trans (by simpa using g36)
 have hr2 : w.rangeAt b 2 (rankL X k) := fun j u hj => (ZC hb (2 + j)).trans (by simpa using tree_rank X hX k v pl pr enc h j u hj)
 have hr0 : w.rangeAt b 0 [.string k, .string v] := fun j u hj => (ZC hb (0 + j)).trans (by
  match j, hj with
  | 0, hj => simpa using g0.trans hj
  | 1, hj => simpa using g1.trans hj)
 clear g35 g36 g37 g38 g0 g1 hlen
 clear p1 p2 p3 p4
 have hd : decide (l = pl) = false \/ (decide (l = pl) = true /\ decide (r = pr) = false) := by
  by_cases e1 : l = pl
  · exact .inr ⟨decide_eq_true e1, decide_eq_false fun e2 => hne ⟨e1, e2⟩⟩
  · exact .inl (decide_eq_false e1)
 have nT := heap_alloc_new w.drew (.cells (treeL X k v l r ⟨#[]⟩ ⟨#[]⟩).toArray 133)
 have hT : Below w.heap.size w (w.drew.alloc (.cells (treeL X k v l r ⟨#[]⟩ ⟨#[]⟩).toArray 133)) := ((Below.refl _ _).drew).alloc (Nat.le_refl _) _
 clear hne
 rcases hd with d1 | ⟨d1, d2⟩
 · rw [d1] at q1
   clear d1 q2
   go_enter func143, ntmps143
   go_upto_region 3 with fail
   refine wp_region_held_drew (S := fun W => W.rangeAt b 0 [.string k, .string v] /\ W.rangeAt b 2 (rankL X k)) (by kernel_rfl) ⟨hr0, hr2⟩ (fun hHeld => ?_)
   refine tkI 0 ?_
   simp only [Act.put, zq]
   refine tkI 1 ?_
   simp only [Act.put, zq]
   refine tkI 2 ?_
   simp only [Act.put, zq]
   refine tkH (i := 3) (v := _) rfl (yieldsIf_load_mid (by rfl) _ _ rfl _ _ rfl _ _ (fun w h => h.1) Tryz.underlying34 rfl size37) ?_
   simp only [Act.put, zq]
   refine tkI 4 ?_
   simp only [Act.put, zq]
   refine tkI 5 ?_
   simp only [Act.put, zq]
   refine tkI 6 ?_
   simp only [Act.put, zq]
   refine tkH (i := 7) (v := _) rfl (yieldsIf_load_mid (by rfl) _ _ rfl _ _ rfl _ _ (fun w h => h.2) Tryz.underlying131 rfl (rank_size X hX k)) ?_
   simp only [Act.put, zq]
   refine tkI 8 ?_
   simp only [Act.put, zq]
   refine tkI 9 ?_
   simp only [Act.put, zq]
   refine tkH (i := 10) (v := _) rfl (yieldsIf_build (by rfl) 133 #[(0, .tmp 25), (1, .tmp 29), (2, .tmp 30), (3, .tmp 31)] rfl (treeL X k v l r ⟨#[]⟩ ⟨#[]⟩).toArray (by exact built4 X hX k v l r)) ?_
   simp only [Act.put, zq]
   refine rdH 11 (fun K hK => ?_)
   rw [if_pos (by rfl)]
   refine wp_box_row 133 _ rfl _ rfl ?_
   refine hK.out _ _ ⟨(World.rangeAt_alloc hHeld.1 _), (World.rangeAt_alloc hHeld.2 _)⟩ (fun hHeld => ?_)
   clear hK K
   simp only [Act.put, zq]
   refine tkI 12 ?_
   simp only [Act.put, zq]
   refine wpAnyH_done (by kernel_rfl) ?_ _
   go_wp2_with fail
   go_ret
   exact ⟨w.heap.size, rfl, Nat.le_refl _, nT, hT⟩
 · rw [d1] at q1
   rw [d2] at q2
   clear d1 d2
   go_enter func143, ntmps143
   go_upto_region 3 with fail
   refine wp_region_held_drew (S := fun W => W.rangeAt b 0 [.string k, .string v] /\ W.rangeAt b 2 (rankL X k)) (by kernel_rfl) ⟨hr0, hr2⟩ (fun hHeld => ?_)
   refine tkI 0 ?_
   simp only [Act.put, zq]
   refine tkI 1 ?_
   simp only [Act.put, zq]
   refine tkI 2 ?_
   simp only [Act.put, zq]
   refine tkH (i := 3) (v := _) rfl (yieldsIf_load_mid (by rfl) _ _ rfl _ _ rfl _ _ (fun w h => h.1) Tryz.underlying34 rfl size37) ?_
   simp only [Act.put, zq]
   refine tkI 4 ?_
   simp only [Act.put, zq]
   refine tkI 5 ?_
   simp only [Act.put, zq]
   refine tkI 6 ?_
   simp only [Act.put, zq]
   refine tkH (i := 7) (v := _) rfl (yieldsIf_load_mid (by rfl) _ _ rfl _ _ rfl _ _ (fun w h => h.2) Tryz.underlying131 rfl (rank_size X hX k)) ?_
   simp only [Act.put, zq]
   refine tkI 8 ?_
   simp only [Act.put, zq]
   refine tkI 9 ?_
   simp only [Act.put, zq]
   refine tkH (i := 10) (v := _) rfl (yieldsIf_build (by rfl) 133 #[(0, .tmp 25), (1, .tmp 29), (2, .tmp 30), (3, .tmp 31)] rfl (treeL X k v l r ⟨#[]⟩ ⟨#[]⟩).toArray (by exact built4 X hX k v l r)) ?_
   simp only [Act.put, zq]
   refine rdH 11 (fun K hK => ?_)
   rw [if_pos (by rfl)]
   refine wp_box_row 133 _ rfl _ rfl ?_
   refine hK.out _ _ ⟨(World.rangeAt_alloc hHeld.1 _), (World.rangeAt_alloc hHeld.2 _)⟩ (fun hHeld => ?_)
   clear hK K
   simp only [Act.put, zq]
   refine tkI 12 ?_
   simp only [Act.put, zq]
   refine wpAnyH_done (by kernel_rfl) ?_ _
   go_wp2_with fail
   go_ret
   exact ⟨w.heap.size, rfl, Nat.le_refl _, nT, hT⟩
theorem with_same (b : Nat) (X : List UInt8) (hX : X.length = 32) (k v : ByteArray) (pl pr : Option Addr) (enc h : ByteArray) (w : World) (hb : w.heap[b]? = some (.cells (treeL X k v pl pr enc h).toArray 133))
 (p1 : PtrT pl w) (p2 : PtrT pr w) :
 Calls prog 143 #[.pointer (some ⟨b, 0, none⟩), .pointer pl, .pointer pr] w fun e w' => e = .returned (.pointer (some ⟨b, 0, none⟩)) /\ w' = w := by
 have q1 := ptr_eql pl pl w p1 p1
 have q2 := ptr_eql pr pr w p2 p2
 rw [decide_eq_true rfl] at q1 q2
 obtain ⟨g35, g36, g37, g38, g0, g1⟩ := tree_get X hX k v pl pr enc h
 have c35 : w.cell? ⟨b, 35, none⟩ = some (.pointer pl) := (ZC hb 35).trans (by simpa using g35)
 have c36 : w.cell? ⟨b, 36, none⟩ = some (.pointer pr) := (ZC hb 36).trans (by simpa using g36)
 clear g35 g36 g37 g38 g0 g1 hb p1 p2
 go_enter func143, ntmps143
 go_wp2_with fail
 go_ret
 exact ⟨rfl, rfl⟩
end Go.Proofs.YtfmpjlpakldheaaGreatDoor
