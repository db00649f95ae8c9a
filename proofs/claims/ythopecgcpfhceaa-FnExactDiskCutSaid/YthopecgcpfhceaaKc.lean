import Derived.Test.YthopecgcpfhceaaKb
import Derived.Deep.Cut
namespace Go.Proofs.Ythopecgcpfhceaa
open Go.RowKit Go.Proofs.Sha

/-- A disk's block. -/
def DB (g : Nat) (x y : ByteArray) (z : Int) (w : World) : Prop := w.heap[g]? = some (.cells #[.string x, .string y, .int .i64 z] 29)
theorem DB.below {g : Nat} {x y : ByteArray} {z : Int} {w w' : World} (h : DB g x y z w) (hb : Below w.heap.size w w') : DB g x y z w' := blk_below hb h
theorem DB.drew {g : Nat} {x y : ByteArray} {z : Int} {w : World} (h : DB g x y z w) : DB g x y z w.drew := h
theorem DB.all {g : Nat} {x y : ByteArray} {z : Int} {w : World} (h : DB g x y z w) (a b : ByteArray) (c : Int) : DB g a b c (((w.setCell ⟨g, 0, none⟩ (.string a)).setCell ⟨g, 1, none⟩ (.string b)).setCell ⟨g, 2, none⟩ (.int .i64 c)) :=
  heap_setCell_same _ g 2 _ 29 _ (heap_setCell_same _ g 1 _ 29 _ (heap_setCell_same _ g 0 _ 29 _ h))
theorem DB.other {g k i : Nat} {x y : ByteArray} {z : Int} {v : Value} {w : World} (hd : DB g x y z w) (hne : g ≠ k) : DB g x y z (w.setCell ⟨k, i, none⟩ v) := (heap_setCell_other w ⟨k, i, none⟩ g v hne).trans hd
theorem DB.fr {g j : Nat} {x y : ByteArray} {z : Int} {w : World} (h : DB g x y z w) : w.frozen? ⟨g, j, none⟩ = false := by rw [World.frozen?, show w.heap[g]? = _ from h]; rfl
structure DBc (g : Nat) (x y : ByteArray) (z : Int) (w : World) : Prop where
  c0 : w.cell? ⟨g, 0, none⟩ = some (.string x)
  c1 : w.cell? ⟨g, 1, none⟩ = some (.string y)
  c2 : w.cell? ⟨g, 2, none⟩ = some (.int .i64 z)
  f0 : w.frozen? ⟨g, 0, none⟩ = false
  f1 : w.frozen? ⟨g, 1, none⟩ = false
  f2 : w.frozen? ⟨g, 2, none⟩ = false
theorem DB.at {g : Nat} {x y : ByteArray} {z : Int} {w : World} (h : DB g x y z w) : DBc g x y z w :=
  ⟨Lib.cell_of_heap h 0, Lib.cell_of_heap h 1, Lib.cell_of_heap h 2, h.fr, h.fr, h.fr⟩
/-- A call whose argument is a disk and which answers one. -/
structure D2 (w : World) (ga gb : Nat) (st now : ByteArray) (cap : Int) (x y : ByteArray) (z : Int) (W : World) : Prop where
  sz : w.heap.size = ga
  nx : gb = ga + 1
  bl : Below ga w W
  na : DB ga st now cap W
  nb : DB gb x y z W
theorem D2.mk0 (w : World) (st now : ByteArray) (cap : Int) : D2 w w.heap.size (w.heap.size + 1) st now cap ⟨#[]⟩ ⟨#[]⟩ 0 ((w.alloc (.cells #[.string st, .string now, .int .i64 cap] 29)).alloc (.cells #[.string ⟨#[]⟩, .string ⟨#[]⟩, .int .i64 0] 29)) := by
  refine ⟨rfl, rfl, ((Below.refl _ w).alloc (Nat.le_refl _) _).alloc (by simp) _, ?_, ?_⟩
  · exact DB.below (w := w.alloc (.cells #[.string st, .string now, .int .i64 cap] 29)) (heap_alloc_new w _) ((Below.refl _ _).alloc (Nat.le_refl _) _)
  · have := heap_alloc_new (w.alloc (.cells #[.string st, .string now, .int .i64 cap] 29)) (.cells #[.string ⟨#[]⟩, .string ⟨#[]⟩, .int .i64 0] 29)
    rw [World.size_alloc] at this
    exact this
section
variable {w : World} {ga gb : Nat} {st now : ByteArray} {cap : Int} {x y : ByteArray} {z : Int} {W W' : World}
theorem D2.below (h : D2 w ga gb st now cap x y z W) (hb : Below W.heap.size W W') : D2 w ga gb st now cap x y z W' :=
  ⟨h.sz, h.nx, h.bl.trans (hb.mono (by have := h.bl.size; have := h.sz; omega)), h.na.below hb, h.nb.below hb⟩
theorem D2.drew (h : D2 w ga gb st now cap x y z W) : D2 w ga gb st now cap x y z W.drew := ⟨h.sz, h.nx, h.bl.drew, h.na, h.nb⟩
theorem D2.all (h : D2 w ga gb st now cap x y z W) (a b : ByteArray) (c : Int) : D2 w ga gb st now cap a b c (((W.setCell ⟨gb, 0, none⟩ (.string a)).setCell ⟨gb, 1, none⟩ (.string b)).setCell ⟨gb, 2, none⟩ (.int .i64 c)) := by
  have hge : ga ≤ gb := by have := h.nx; omega
  have hne : ga ≠ gb := by have := h.nx; omega
  exact ⟨h.sz, h.nx, ((h.bl.setCell hge _).setCell hge _).setCell hge _, ((h.na.other hne).other hne).other hne, h.nb.all a b c⟩
theorem D2.fin (h : D2 w ga gb st now cap x y z W) : Below w.heap.size w W := by rw [h.sz]; exact h.bl
end
set_option maxRecDepth 100000 in
theorem retD {fn : Func} {R : Ending → World → Prop} {A : Act} {p q : Tmp} {gb : Nat} {x y : ByteArray} {z c : Int} {W : World} (hres : fn.results = #[.cell p 29, .tmp q]) (hp : A.tmps.getD p undef = .pointer (some ⟨gb, 0, none⟩)) (hq : A.tmps.getD q undef = .int .i64 c) (hd : A.defers = []) (n : DB gb x y z W)
    (h : R (.returned (.tuple #[.agg #[.string x, .string y, .int .i64 z], .int .i64 c])) W) : bodyPost Try.prog fn R Exit.ret A W := by
  obtain ⟨c0, c1, c2, _, _, _⟩ := n.at
  have hp' : A.tmps[p]?.getD undef = .pointer (some ⟨gb, 0, none⟩) := by simpa using hp
  have hq' : A.tmps[q]?.getD undef = .int .i64 c := by simpa using hq
  refine bodyPost_ret (v := .tuple #[.agg #[.string x, .string y, .int .i64 z], .int .i64 c]) ?_ hd h
  simp [results, hres, go_sem, asAddr, hp', hq', c0, c1, c2]

/-- What DiskAppend answers. -/
def appR (st now : ByteArray) (cap : Int) (s : ByteArray) : ByteArray × ByteArray × Int × Int :=
  if diskOk st now cap then if cap < (now.size : Int) + (s.size : Int) then (st, now, cap, 1) else (st, now ++ s, cap, 0) else (⟨#[]⟩, ⟨#[]⟩, 0, 9)

set_option maxRecDepth 100000 in
theorem app_impl (st now s : ByteArray) (cap : Int) (w : World) (_h1 : st.size ≤ 1048576) (h2 : now.size ≤ 1048576) (_h3 : s.size ≤ 1048576) :
    Calls Try.prog 15 #[.agg #[.string st, .string now, .int .i64 cap], .string s] w fun e w' => e = .returned (.tuple #[.agg #[.string (appR st now cap s).1, .string (appR st now cap s).2.1, .int .i64 (appR st now cap s).2.2.1], .int .i64 (appR st now cap s).2.2.2]) ∧ Below w.heap.size w w' := by
  obtain ⟨b, hb⟩ : ∃ b, diskOk st now cap = b := ⟨_, rfl⟩
  have HO : Hid (∀ w', Calls Try.prog 28 #[.agg #[.string st, .string now, .int .i64 cap]] w' fun e w'' => e = .returned (.bool b) ∧ Below w'.heap.size w' w'') := fun w' => by rw [← hb]; exact ok_impl st now cap w'
  cases b with
  | false =>
    have hr : appR st now cap s = (⟨#[]⟩, ⟨#[]⟩, 0, 9) := by unfold appR; rw [if_neg (by rw [hb]; decide)]
    rw [hr]
    clear hr hb
    go_enter Try.func15, Try.ntmps15
    go_wp2_with fail
    refine (HO.out _).mono ?_
    rintro e w1 ⟨rfl, hb1⟩
    have hS := (D2.mk0 w st now cap).below hb1
    clear hb1
    obtain ⟨ga, hga⟩ : ∃ ga, w.heap.size = ga := ⟨_, rfl⟩
    obtain ⟨gb, hgb⟩ : ∃ gb, w.heap.size + 1 = gb := ⟨_, rfl⟩
    rw [hgb, hga]
    rw [hgb, hga] at hS
    clear hga hgb
    obtain ⟨c0, c1, c2, f0, f1, f2⟩ := hS.nb.at
    go_wp2_with fail
    exact retD Try.results15 rfl rfl rfl (hS.all _ _ _).nb ⟨rfl, (hS.all _ _ _).fin⟩
  | true =>
    obtain ⟨k1, k2, k3, hpre⟩ := diskOk_some hb
    have HM : Hid (∀ t w', now.size + t.size ≤ 1048576 → Calls Try.prog 29 #[.agg #[.string st, .string now, .int .i64 cap], .string t] w' fun e w'' => e = .returned (.agg #[.string st, .string (now ++ t), .int .i64 cap]) ∧ Below w'.heap.size w' w'') := fun t w' ht => more_any st now t cap w' hpre ht
    have y1 : IntKind.i64.wrap (cap - (now.size : Int)) = cap - (now.size : Int) := wrap_i64_in _ (by omega) (by omega)
    have hr : appR st now cap s = if cap < (now.size : Int) + (s.size : Int) then (st, now, cap, 1) else (st, now ++ s, cap, 0) := by unfold appR; rw [if_pos hb]
    rw [hr]
    clear hr hb hpre
    by_cases hf : cap < (now.size : Int) + (s.size : Int)
    · rw [if_pos hf]
      have z1 : decide (cap - (now.size : Int) < (s.size : Int)) = true := by simp; omega
      go_enter Try.func15, Try.ntmps15
      go_wp2_with fail
      refine (HO.out _).mono ?_
      rintro e w1 ⟨rfl, hb1⟩
      have hS := (D2.mk0 w st now cap).below hb1
      clear hb1
      obtain ⟨ga, hga⟩ : ∃ ga, w.heap.size = ga := ⟨_, rfl⟩
      obtain ⟨gb, hgb⟩ : ∃ gb, w.heap.size + 1 = gb := ⟨_, rfl⟩
      rw [hgb, hga]
      rw [hgb, hga] at hS
      clear hga hgb
      obtain ⟨a0, a1, a2, _, _, _⟩ := hS.na.at
      go_wp2_with fail
      refine (HM.out ⟨#[]⟩ _ (show now.size + 0 ≤ _ by omega)).mono ?_
      rintro e w2 ⟨rfl, hb2⟩
      have hS2 := hS.below hb2
      clear hb2 a0 a1 a2 hS
      rw [show now ++ (⟨#[]⟩ : ByteArray) = now from ByteArray.append_empty]
      obtain ⟨c0, c1, c2, f0, f1, f2⟩ := hS2.nb.at
      go_wp2_with fail
      exact retD Try.results15 rfl rfl rfl (hS2.all _ _ _).nb ⟨rfl, (hS2.all _ _ _).fin⟩
    · rw [if_neg hf]
      have z1 : decide (cap - (now.size : Int) < (s.size : Int)) = false := by simp; omega
      go_enter Try.func15, Try.ntmps15
      go_wp2_with fail
      refine (HO.out _).mono ?_
      rintro e w1 ⟨rfl, hb1⟩
      have hS := (D2.mk0 w st now cap).below hb1
      clear hb1
      obtain ⟨ga, hga⟩ : ∃ ga, w.heap.size = ga := ⟨_, rfl⟩
      obtain ⟨gb, hgb⟩ : ∃ gb, w.heap.size + 1 = gb := ⟨_, rfl⟩
      rw [hgb, hga]
      rw [hgb, hga] at hS
      clear hga hgb
      obtain ⟨a0, a1, a2, _, _, _⟩ := hS.na.at
      go_wp2_with fail
      refine (HM.out s _ (by omega)).mono ?_
      rintro e w2 ⟨rfl, hb2⟩
      have hS2 := hS.below hb2
      clear hb2 a0 a1 a2 hS
      obtain ⟨c0, c1, c2, f0, f1, f2⟩ := hS2.nb.at
      go_wp2_with fail
      exact retD Try.results15 rfl rfl rfl (hS2.all _ _ _).nb ⟨rfl, (hS2.all _ _ _).fin⟩
end Go.Proofs.Ythopecgcpfhceaa
