import Derived.Test.YthopecgcpfhceadSl1
import Derived.Test.YthopecgcpfhceadM
import Derived.WalkSpells
import Derived.WalkLawsBesides
import Derived.StillTactics
import Derived.Laws.Pointers
import Derived.Lib.Strings
import Derived.Deep.RegionHeld3
namespace Go.Proofs.Ythopecgcpfhcead
open Go.RowKit Go.Proofs.Sha

/-- A valid disk. -/
def diskOk (st now : ByteArray) (cap : Int) : Bool := decide ((now.size : Int) ≤ cap) && (decide (cap ≤ 1048576) && Lib.hasPrefix now.data.toList st.data.toList)

theorem prefix_le {st now : ByteArray} (h : Lib.hasPrefix now.data.toList st.data.toList = true) : st.size ≤ now.size := by
  rw [← Lib.hasPrefix_raw, Bool.and_eq_true, decide_eq_true_eq] at h
  exact h.1
theorem prefix_of {st now : ByteArray} (h : Lib.hasPrefix now.data.toList st.data.toList = true) : ∃ t, now = st ++ t := by
  obtain ⟨t, ht⟩ := List.isPrefixOf_iff_prefix.1 h
  refine ⟨⟨t.toArray⟩, ?_⟩
  apply ByteArray.ext
  rw [ByteArray.data_append, ← Array.toList_inj, Array.toList_append, ← ht]
theorem extract_front (st t : ByteArray) : (st ++ t).extract 0 st.size = st := by
  exact ByteArray.extract_append_eq_left rfl
theorem diskOk_some {st now : ByteArray} {cap : Int} (h : diskOk st now cap = true) : (now.size : Int) ≤ cap ∧ cap ≤ 1048576 ∧ st.size ≤ now.size ∧ ∃ t, now = st ++ t := by
  unfold diskOk at h
  simp only [Bool.and_eq_true, decide_eq_true_eq] at h
  exact ⟨h.1, h.2.1, prefix_le h.2.2, prefix_of h.2.2⟩

set_option maxRecDepth 100000 in
theorem ok_impl (st now : ByteArray) (cap : Int) (w : World) :
    Calls Try.prog 30 #[.agg #[.string st, .string now, .int .i64 cap]] w fun e w' => e = .returned (.bool (diskOk st now cap)) ∧ Below w.heap.size w w' := by
  go_enter Try.func30, Try.ntmps30
  go_wp2_with (first | (go_at_call 48; refine (Try.strings_HasPrefix _ _ _).mono ?_; rintro e w1 ⟨rfl, rfl⟩))
  all_goals go_ret
  all_goals refine ⟨?_, (Below.refl _ _).alloc (Nat.le_refl _) _⟩
  all_goals refine congrArg (fun b => Ending.returned (.bool b)) (?_ : _ = diskOk st now cap)
  all_goals unfold diskOk
  · rename_i h1 h2
    rw [decide_eq_true h1, decide_eq_true h2, Bool.true_and, Bool.true_and]
  · rename_i h1 h2
    rw [decide_eq_false (show ¬ cap ≤ 1048576 by omega), Bool.false_and, Bool.and_false]
  · rename_i h1
    rw [decide_eq_false (show ¬ (now.size : Int) ≤ cap by omega), Bool.false_and]

set_option maxRecDepth 100000 in
theorem ok_spec (st now : ByteArray) (cap : Int) (w : World) (_h1 : st.size ≤ 1048576) (h2 : now.size ≤ 1048576) :
    Calls Try.prog 29 #[.agg #[.string st, .string now, .int .i64 cap]] w fun e w' => e = .returned (.bool (diskOk st now cap)) ∧ Below w.heap.size w w' := by
  have hq := Lib.hasPrefix_raw now st
  by_cases c1 : (now.size : Int) ≤ cap ∧ cap ≤ 1048576 ∧ st.size ≤ now.size
  · have z1 : decide (cap < 0) = false := by simp; omega
    have z2 : decide (1048576 < cap) = false := by simp; omega
    have z3 : decide (cap < (now.size : Int)) = false := by simp; omega
    have z4 : decide ((now.size : Int) < (st.size : Int)) = false := by simp; omega
    have hr : diskOk st now cap = ((now.extract 0 st.size).toList == st.toList) := by
      unfold diskOk
      rw [decide_eq_true c1.1, decide_eq_true c1.2.1, Bool.true_and, Bool.true_and, ← hq, decide_eq_true c1.2.2, Bool.true_and]
    rw [hr]
    have hle : st.size ≤ now.size := c1.2.2
    clear hq hr c1
    go_enter Try.func29, Try.ntmps29
    go_wp2_with fail
    go_region_held3 (fun W => W.cell? ⟨w.heap.size, 0, none⟩ = some (.string st) ∧ W.cell? ⟨w.heap.size, 1, none⟩ = some (.string now)) (exact ⟨by simp, by simp⟩) (fail)
    go_wp2_with fail
    go_ret
    exact ⟨rfl, ((Below.refl _ _).alloc (Nat.le_refl _) _).drew⟩
  · have hr : diskOk st now cap = false := by
      unfold diskOk
      by_cases d1 : (now.size : Int) ≤ cap
      · by_cases d2 : cap ≤ 1048576
        · rw [← hq, decide_eq_false (show ¬ st.size ≤ now.size by omega), Bool.false_and, Bool.and_false, Bool.and_false]
        · rw [decide_eq_false d2, Bool.false_and, Bool.and_false]
      · rw [decide_eq_false d1, Bool.false_and]
    rw [hr]
    clear hq hr
    go_enter Try.func29, Try.ntmps29
    go_wp2_with fail
    all_goals first | (exfalso; omega) | skip
    all_goals go_ret
    all_goals exact ⟨rfl, (Below.refl _ _).alloc (Nat.le_refl _) _⟩

theorem safe_any (t : ByteArray) (cap : Int) (w : World) :
    Calls Try.prog 34 #[.string t, .int .i64 cap] w fun e w' => e = .returned (.agg #[.string t, .string t, .int .i64 cap]) ∧ Below w.heap.size w w' := by
  go_enter Try.func34, Try.ntmps34
  go_wp2_with fail
  refine bodyPost_ret (v := .agg #[.string t, .string t, .int .i64 cap]) ?_ rfl ⟨rfl, (Below.refl _ _).alloc (Nat.le_refl _) _⟩
  simp [results, Try.results34, go_sem, asAddr]
theorem blk_below {w w' : World} {g : Nat} {c : Obj} (hb : Below w.heap.size w w') (h : w.heap[g]? = some c) : w'.heap[g]? = some c := (hb.block g (Array.getElem?_eq_some_iff.1 h).1).trans h
/-- A disk's block. -/
def DB (g : Nat) (x y : ByteArray) (z : Int) (w : World) : Prop := w.heap[g]? = some (.cells #[.string x, .string y, .int .i64 z] 33)
theorem DB.below {g : Nat} {x y : ByteArray} {z : Int} {w w' : World} (h : DB g x y z w) (hb : Below w.heap.size w w') : DB g x y z w' := blk_below hb h
theorem DB.drew {g : Nat} {x y : ByteArray} {z : Int} {w : World} (h : DB g x y z w) : DB g x y z w.drew := h
theorem DB.all {g : Nat} {x y : ByteArray} {z : Int} {w : World} (h : DB g x y z w) (a b : ByteArray) (c : Int) : DB g a b c (((w.setCell ⟨g, 0, none⟩ (.string a)).setCell ⟨g, 1, none⟩ (.string b)).setCell ⟨g, 2, none⟩ (.int .i64 c)) :=
  heap_setCell_same _ g 2 _ 33 _ (heap_setCell_same _ g 1 _ 33 _ (heap_setCell_same _ g 0 _ 33 _ h))
theorem DB.other {g k i : Nat} {x y : ByteArray} {z : Int} {v : Value} {w : World} (hd : DB g x y z w) (hne : g ≠ k) : DB g x y z (w.setCell ⟨k, i, none⟩ v) := (heap_setCell_other w ⟨k, i, none⟩ g v hne).trans hd
theorem DB.fr {g j : Nat} {x y : ByteArray} {z : Int} {w : World} (h : DB g x y z w) : w.frozen? ⟨g, j, none⟩ = false := by rw [World.frozen?, show w.heap[g]? = _ from h]; rfl
structure DBc (g : Nat) (x y : ByteArray) (z : Int) (w : World) : Prop where
  c0 : w.cell? ⟨g, 0, none⟩ = some (.string x)
  c1 : w.cell? ⟨g, 1, none⟩ = some (.string y)
  c2 : w.cell? ⟨g, 2, none⟩ = some (.int .i64 z)
  f0 : w.frozen? ⟨g, 0, none⟩ = false
  f1 : w.frozen? ⟨g, 1, none⟩ = false
  f2 : w.frozen? ⟨g, 2, none⟩ = false
theorem DB.at {g : Nat} {x y : ByteArray} {z : Int} {w : World} (h : DB g x y z w) : DBc g x y z w :=
  ⟨Lib.cell_of_heap h 0, Lib.cell_of_heap h 1, Lib.cell_of_heap h 2, h.fr, h.fr, h.fr⟩
/-- A call whose argument is a disk and which answers one. -/
structure D2 (w : World) (ga gb : Nat) (st now : ByteArray) (cap : Int) (x y : ByteArray) (z : Int) (W : World) : Prop where
  sz : w.heap.size = ga
  nx : gb = ga + 1
  bl : Below ga w W
  na : DB ga st now cap W
  nb : DB gb x y z W
theorem D2.mk0 (w : World) (st now : ByteArray) (cap : Int) : D2 w w.heap.size (w.heap.size + 1) st now cap ⟨#[]⟩ ⟨#[]⟩ 0 ((w.alloc (.cells #[.string st, .string now, .int .i64 cap] 33)).alloc (.cells #[.string ⟨#[]⟩, .string ⟨#[]⟩, .int .i64 0] 33)) := by
  refine ⟨rfl, rfl, ((Below.refl _ w).alloc (Nat.le_refl _) _).alloc (by simp) _, ?_, ?_⟩
  · exact DB.below (w := w.alloc (.cells #[.string st, .string now, .int .i64 cap] 33)) (heap_alloc_new w _) ((Below.refl _ _).alloc (Nat.le_refl _) _)
  · have := heap_alloc_new (w.alloc (.cells #[.string st, .string now, .int .i64 cap] 33)) (.cells #[.string ⟨#[]⟩, .string ⟨#[]⟩, .int .i64 0] 33)
    rw [World.size_alloc] at this
    exact this
section
variable {w : World} {ga gb : Nat} {st now : ByteArray} {cap : Int} {x y : ByteArray} {z : Int} {W W' : World}
theorem D2.below (h : D2 w ga gb st now cap x y z W) (hb : Below W.heap.size W W') : D2 w ga gb st now cap x y z W' :=
  ⟨h.sz, h.nx, h.bl.trans (hb.mono (by have := h.bl.size; have := h.sz; omega)), h.na.below hb, h.nb.below hb⟩
theorem D2.drew (h : D2 w ga gb st now cap x y z W) : D2 w ga gb st now cap x y z W.drew := ⟨h.sz, h.nx, h.bl.drew, h.na, h.nb⟩
theorem D2.all (h : D2 w ga gb st now cap x y z W) (a b : ByteArray) (c : Int) : D2 w ga gb st now cap a b c (((W.setCell ⟨gb, 0, none⟩ (.string a)).setCell ⟨gb, 1, none⟩ (.string b)).setCell ⟨gb, 2, none⟩ (.int .i64 c)) := by
  have hge : ga ≤ gb := by have := h.nx; omega
  have hne : ga ≠ gb := by have := h.nx; omega
  exact ⟨h.sz, h.nx, ((h.bl.setCell hge _).setCell hge _).setCell hge _, ((h.na.other hne).other hne).other hne, h.nb.all a b c⟩
theorem D2.fin (h : D2 w ga gb st now cap x y z W) : Below w.heap.size w W := by rw [h.sz]; exact h.bl
end
set_option maxRecDepth 100000 in
theorem retD {fn : Func} {R : Ending → World → Prop} {A : Act} {p q : Tmp} {gb : Nat} {x y : ByteArray} {z c : Int} {W : World} (hres : fn.results = #[.cell p 33, .tmp q]) (hp : A.tmps.getD p undef = .pointer (some ⟨gb, 0, none⟩)) (hq : A.tmps.getD q undef = .int .i64 c) (hd : A.defers = []) (n : DB gb x y z W)
    (h : R (.returned (.tuple #[.agg #[.string x, .string y, .int .i64 z], .int .i64 c])) W) : bodyPost Try.prog fn R Exit.ret A W := by
  obtain ⟨c0, c1, c2, _, _, _⟩ := n.at
  have hp' : A.tmps[p]?.getD undef = .pointer (some ⟨gb, 0, none⟩) := by simpa using hp
  have hq' : A.tmps[q]?.getD undef = .int .i64 c := by simpa using hq
  refine bodyPost_ret (v := .tuple #[.agg #[.string x, .string y, .int .i64 z], .int .i64 c]) ?_ hd h
  simp [results, hres, go_sem, asAddr, hp', hq', c0, c1, c2]

end Go.Proofs.Ythopecgcpfhcead
