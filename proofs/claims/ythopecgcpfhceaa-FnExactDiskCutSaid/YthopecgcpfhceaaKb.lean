import Derived.Test.YthopecgcpfhceaaKa
namespace Go.Proofs.Ythopecgcpfhceaa
open Go.RowKit Go.Proofs.Sha

theorem blk_below {w w' : World} {g : Nat} {c : Obj} (hb : Below w.heap.size w w') (h : w.heap[g]? = some c) : w'.heap[g]? = some c := (hb.block g (Array.getElem?_eq_some_iff.1 h).1).trans h

set_option maxRecDepth 100000 in
theorem more_any (st now s : ByteArray) (cap : Int) (w : World) (h : ∃ t, now = st ++ t) (hs : now.size + s.size ≤ 1048576) :
    Calls Try.prog 29 #[.agg #[.string st, .string now, .int .i64 cap], .string s] w fun e w' => e = .returned (.agg #[.string st, .string (now ++ s), .int .i64 cap]) ∧ Below w.heap.size w w' := by
  have h1 : ¬ (9223372036854775807 < now.size + s.size) := by omega
  obtain ⟨A, hA⟩ : ∃ A, now ++ s = A := ⟨_, rfl⟩
  have HA : Hid (now ++ s = A) := hA
  have hz : A.size = now.size + s.size := by rw [← hA, ByteArray.size_append]
  have hle : st.size ≤ A.size := by
    obtain ⟨t, ht⟩ := h
    have := congrArg ByteArray.size ht
    rw [ByteArray.size_append] at this
    omega
  have hx : A.extract 0 st.size = st := by
    obtain ⟨t, ht⟩ := h
    rw [← hA, ht, ByteArray.append_assoc, extract_front]
  have HC : Hid (∀ w', Calls Try.prog 31 #[.string A] w' fun e w'' => e = .returned (.string A) ∧ Below w'.heap.size w' w'') := fun w' => clone_any A w' (by omega)
  rw [hA]
  clear hA h
  go_enter Try.func29, Try.ntmps29
  go_wp2_with fail
  rw [HA.out]
  refine (HC.out _).mono ?_
  rintro e w1 ⟨rfl, hb1⟩
  have n0 := blk_below hb1 (blk_below ((Below.refl _ _).alloc (Nat.le_refl _) (.cells #[.string ⟨#[]⟩, .string ⟨#[]⟩, .int .i64 0] 29)) (heap_alloc_new w (.cells #[.string st, .string now, .int .i64 cap] 29)))
  have n1 := blk_below hb1 (heap_alloc_new (w.alloc (.cells #[.string st, .string now, .int .i64 cap] 29)) (.cells #[.string ⟨#[]⟩, .string ⟨#[]⟩, .int .i64 0] 29))
  have hw1 : Below w.heap.size w w1 := (((Below.refl _ w).alloc (Nat.le_refl _) _).alloc (by simp) _).trans (hb1.mono (by simp; omega))
  simp only [World.size_alloc] at n1
  obtain ⟨ga, hga⟩ : ∃ ga, w.heap.size = ga := ⟨_, rfl⟩
  obtain ⟨gb, hgb⟩ : ∃ gb, w.heap.size + 1 = gb := ⟨_, rfl⟩
  have hne : ga ≠ gb := by omega
  rw [hgb] at n1
  rw [hga] at n0 hw1
  clear hb1
  have c0 := Lib.cell_of_heap n0 0
  have c2 := Lib.cell_of_heap n0 2
  rw [hgb, hga]
  go_wp2_with fail
  have d0 := Lib.cell_of_heap n1 0
  have d1 := Lib.cell_of_heap n1 1
  have d2 := Lib.cell_of_heap n1 2
  have fr : ∀ j, w1.frozen? ⟨gb, j, none⟩ = false := fun j => by rw [World.frozen?, n1]; rfl
  have f0 := fr 0
  have f1 := fr 1
  have f2 := fr 2
  go_region
  go_wp2_with fail
  obtain ⟨W, hW⟩ : ∃ W, (((w1.setCell ⟨gb, 0, none⟩ (Value.string st)).setCell ⟨gb, 1, none⟩ (Value.string A)).setCell ⟨gb, 2, none⟩ (Value.int IntKind.i64 cap)).drew = W := ⟨_, rfl⟩
  have nW : W.heap[gb]? = some (.cells #[.string st, .string A, .int .i64 cap] 29) := by
    rw [← hW]
    exact heap_setCell_same _ gb 2 _ 29 _ (heap_setCell_same _ gb 1 _ 29 _ (heap_setCell_same _ gb 0 _ 29 _ n1))
  have bW : Below ga w W := by
    rw [← hW]
    have hge : ga ≤ gb := by omega
    exact (((hw1.setCell hge _).setCell hge _).setCell hge _).drew
  rw [hW]
  have e0 := Lib.cell_of_heap nW 0
  have e1 := Lib.cell_of_heap nW 1
  have e2 := Lib.cell_of_heap nW 2
  refine bodyPost_ret (v := .agg #[.string st, .string A, .int .i64 cap]) ?_ rfl ⟨rfl, by rw [hga]; exact bW⟩
  clear hW bW nW n0 n1 c0 c2 d0 d1 d2 fr f0 f1 f2 hw1
  simp [results, Try.results29, go_sem, asAddr, e0, e1, e2]
end Go.Proofs.Ythopecgcpfhceaa
