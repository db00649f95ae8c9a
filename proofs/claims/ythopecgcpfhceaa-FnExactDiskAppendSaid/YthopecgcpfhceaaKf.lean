import Derived.Test.YthopecgcpfhceaaKe
namespace Go.Proofs.Ythopecgcpfhceaa
open Go.RowKit Go.Proofs.Sha

set_option maxRecDepth 100000 in
theorem sync_impl (st now : ByteArray) (cap : Int) (w : World) (h1 : st.size ≤ 1048576) (h2 : now.size ≤ 1048576) :
    Calls Try.prog 18 #[.agg #[.string st, .string now, .int .i64 cap]] w fun e w' => e = .returned (.tuple #[.agg #[.string (cutR st now cap (now.size : Int)).1, .string (cutR st now cap (now.size : Int)).2.1, .int .i64 (cutR st now cap (now.size : Int)).2.2.1], .int .i64 (cutR st now cap (now.size : Int)).2.2.2]) ∧ Below w.heap.size w w' := by
  have HC : Hid (∀ w', Calls Try.prog 20 #[.agg #[.string st, .string now, .int .i64 cap], .int .i64 (now.size : Int)] w' fun e w'' => e = .returned (.tuple #[.agg #[.string (cutR st now cap (now.size : Int)).1, .string (cutR st now cap (now.size : Int)).2.1, .int .i64 (cutR st now cap (now.size : Int)).2.2.1], .int .i64 (cutR st now cap (now.size : Int)).2.2.2]) ∧ Below w'.heap.size w' w'') := fun w' => cut_impl st now cap _ w' h1 h2
  obtain ⟨⟨x, y, z, c⟩, hr⟩ : ∃ r, cutR st now cap (now.size : Int) = r := ⟨_, rfl⟩
  rw [hr] at HC ⊢
  clear hr
  go_enter Try.func18, Try.ntmps18
  go_wp2_with fail
  refine (HC.out _).mono ?_
  rintro e w1 ⟨rfl, hb1⟩
  have hS := (D2.mk0 w st now cap).below hb1
  clear hb1
  obtain ⟨ga, hga⟩ : ∃ ga, w.heap.size = ga := ⟨_, rfl⟩
  obtain ⟨gb, hgb⟩ : ∃ gb, w.heap.size + 1 = gb := ⟨_, rfl⟩
  rw [hgb, hga]
  rw [hgb, hga] at hS
  clear hga hgb
  obtain ⟨c0, c1, c2, f0, f1, f2⟩ := hS.nb.at
  go_wp2_with fail
  exact retD Try.results18 rfl rfl rfl (hS.all _ _ _).nb ⟨rfl, (hS.all _ _ _).fin⟩

set_option maxRecDepth 100000 in
set_option maxHeartbeats 1000000 in
theorem law_sync (st now : ByteArray) (cap : Int) (w : World) (h1 : st.size ≤ maxLen) (h2 : now.size ≤ maxLen) :
    Calls Try.prog 6 #[.agg #[.string st, .string now, .int .i64 cap]] w fun e w' => e = .returned (.bool true) ∧ Below w.heap.size w w' := by
  unfold maxLen at h1 h2
  have HS : Hid (∀ w', Calls Try.prog 12 #[.agg #[.string st, .string now, .int .i64 cap], .int .i64 1048576] w' fun e w'' => ∃ x : Int, e = .returned (.int .i64 x) ∧ Hid (0 ≤ x → st.size ≤ 1048576 ∧ now.size ≤ 1048576) ∧ Below w'.heap.size w' w'') := fun w' => sz_disk st now cap w' h1 h2
  have HT : Hid (∀ w', Calls Try.prog 14 #[.agg #[.string st, .string now, .int .i64 cap]] w' fun e w'' => e = .returned (.agg #[.string st, .string now, .int .i64 cap]) ∧ Below w'.heap.size w' w'') := fun w' => toDisk_any st now cap w'
  obtain ⟨⟨x, y, z, c⟩, hr⟩ : ∃ r, cutR st now cap (now.size : Int) = r := ⟨_, rfl⟩
  have HA : Hid (st.size ≤ 1048576 ∧ now.size ≤ 1048576 → ∀ w', Calls Try.prog 17 #[.agg #[.string st, .string now, .int .i64 cap]] w' fun e w'' => e = .returned (.tuple #[.agg #[.string x, .string y, .int .i64 z], .int .i64 c]) ∧ Below w'.heap.size w' w'') := fun hs w' => by
    have := sync_spec st now cap w' hs.1 hs.2
    rw [hr] at this
    exact this
  have HB : Hid (st.size ≤ 1048576 ∧ now.size ≤ 1048576 → ∀ w', Calls Try.prog 18 #[.agg #[.string st, .string now, .int .i64 cap]] w' fun e w'' => e = .returned (.tuple #[.agg #[.string x, .string y, .int .i64 z], .int .i64 c]) ∧ Below w'.heap.size w' w'') := fun hs w' => by
    have := sync_impl st now cap w' hs.1 hs.2
    rw [hr] at this
    exact this
  have HE : Hid (∀ w', Calls Try.prog 16 #[.agg #[.string x, .string y, .int .i64 z], .agg #[.string x, .string y, .int .i64 z]] w' fun e w'' => e = .returned (.bool true) ∧ Below w'.heap.size w' w'') := fun w' => eqDisk_same x y z w'
  clear hr h1 h2
  go_enter Try.func6, Try.ntmps6
  go_wp2_with fail
  refine (HS.out _).mono ?_
  rintro e w1 ⟨x1, rfl, HX, hb1⟩
  have hn1 := blk_below hb1 (heap_alloc_new w (.cells #[.string st, .string now, .int .i64 cap] 27))
  have hw1 : Below w.heap.size w w1 := ((Below.refl _ w).alloc (Nat.le_refl _) _).trans (hb1.mono (by simp))
  clear hb1
  by_cases hx : x1 < 0
  · have z1 : decide (x1 < 0) = true := decide_eq_true hx
    clear hx
    go_wp2_with fail
    go_ret
    exact ⟨rfl, hw1⟩
  · have hs := HX.out (by omega)
    have z1 : decide (x1 < 0) = false := decide_eq_false hx
    have HA' := HA.out hs
    have HB' := HB.out hs
    replace HA' : Hid _ := HA'
    replace HB' : Hid _ := HB'
    clear HA HB HX hx hs HS
    have c0 := Lib.cell_of_heap hn1 0
    have c1 := Lib.cell_of_heap hn1 1
    have c2 := Lib.cell_of_heap hn1 2
    go_wp2_with fail
    refine (HT.out _).mono ?_
    rintro e w2 ⟨rfl, hb2⟩
    have hn2 := blk_below hb2 hn1
    have hw2 := hw1.trans (hb2.mono hw1.size)
    clear hb2 hn1 hw1 c0 c1 c2
    go_wp2_with fail
    refine (HA'.out _).mono ?_
    rintro e w3 ⟨rfl, hb3⟩
    have hn3 := blk_below hb3 hn2
    have hw3 := hw2.trans (hb3.mono hw2.size)
    clear hb3 hn2 hw2
    have al3 : ∀ o, Below w3.heap.size w3 (w3.alloc o) := fun o => (Below.refl _ _).alloc (Nat.le_refl _) o
    have c0 : ∀ o, (w3.alloc o).cell? ⟨w.heap.size, 0, none⟩ = some (.string st) := fun o => Lib.cell_of_heap (blk_below (al3 o) hn3) 0
    have c1 : ∀ o, (w3.alloc o).cell? ⟨w.heap.size, 1, none⟩ = some (.string now) := fun o => Lib.cell_of_heap (blk_below (al3 o) hn3) 1
    have c2 : ∀ o, (w3.alloc o).cell? ⟨w.heap.size, 2, none⟩ = some (.int .i64 cap) := fun o => Lib.cell_of_heap (blk_below (al3 o) hn3) 2
    have hw3' : Below w.heap.size w (w3.alloc (.cells #[.string x, .string y, .int .i64 z] 29)) := hw3.trans ((al3 _).mono hw3.size)
    have nW := heap_alloc_new w3 (.cells #[.string x, .string y, .int .i64 z] 29)
    obtain ⟨gw, hgw⟩ : ∃ gw, w3.heap.size = gw := ⟨_, rfl⟩
    go_wp2_with fail
    refine (HT.out _).mono ?_
    rintro e w4 ⟨rfl, hb4⟩
    have hw4 := hw3'.trans (hb4.mono hw3'.size)
    have nW4 := blk_below hb4 nW
    rw [hgw] at nW4
    try rw [hgw]
    clear hb4 hn3 hw3 c0 c1 c2 nW hw3' al3 hgw
    go_wp2_with fail
    refine (HB'.out _).mono ?_
    rintro e w5 ⟨rfl, hb5⟩
    have hw5 := hw4.trans (hb5.mono hw4.size)
    have nW5 := blk_below hb5 nW4
    clear hb5 hw4 nW4
    have al5 : ∀ o, Below w5.heap.size w5 (w5.alloc o) := fun o => (Below.refl _ _).alloc (Nat.le_refl _) o
    have c0 : ∀ o, (w5.alloc o).cell? ⟨gw, 0, none⟩ = some (.string x) := fun o => Lib.cell_of_heap (blk_below (al5 o) nW5) 0
    have c1 : ∀ o, (w5.alloc o).cell? ⟨gw, 1, none⟩ = some (.string y) := fun o => Lib.cell_of_heap (blk_below (al5 o) nW5) 1
    have c2 : ∀ o, (w5.alloc o).cell? ⟨gw, 2, none⟩ = some (.int .i64 z) := fun o => Lib.cell_of_heap (blk_below (al5 o) nW5) 2
    have hw5' : ∀ o, Below w.heap.size w (w5.alloc o) := fun o => hw5.trans ((al5 o).mono hw5.size)
    go_wp2_with fail
    refine (HE.out _).mono ?_
    rintro e w6 ⟨rfl, hb6⟩
    have hw6 := (hw5' _).trans (hb6.mono (hw5' _).size)
    clear hb6 hw5
    go_wp2_with fail
    go_ret
    exact ⟨rfl, hw6⟩

set_option maxRecDepth 100000 in
set_option maxHeartbeats 1000000 in
theorem law_cut (st now : ByteArray) (cap : Int) (n : Int) (w : World) (h1 : st.size ≤ maxLen) (h2 : now.size ≤ maxLen) :
    Calls Try.prog 7 #[.agg #[.string st, .string now, .int .i64 cap], .int .i64 n] w fun e w' => e = .returned (.bool true) ∧ Below w.heap.size w w' := by
  unfold maxLen at h1 h2
  have HS : Hid (∀ w', Calls Try.prog 12 #[.agg #[.string st, .string now, .int .i64 cap], .int .i64 1048576] w' fun e w'' => ∃ x : Int, e = .returned (.int .i64 x) ∧ Hid (0 ≤ x → st.size ≤ 1048576 ∧ now.size ≤ 1048576) ∧ Below w'.heap.size w' w'') := fun w' => sz_disk st now cap w' h1 h2
  have HT : Hid (∀ w', Calls Try.prog 14 #[.agg #[.string st, .string now, .int .i64 cap]] w' fun e w'' => e = .returned (.agg #[.string st, .string now, .int .i64 cap]) ∧ Below w'.heap.size w' w'') := fun w' => toDisk_any st now cap w'
  obtain ⟨⟨x, y, z, c⟩, hr⟩ : ∃ r, cutR st now cap n = r := ⟨_, rfl⟩
  have HA : Hid (st.size ≤ 1048576 ∧ now.size ≤ 1048576 → ∀ w', Calls Try.prog 19 #[.agg #[.string st, .string now, .int .i64 cap], .int .i64 n] w' fun e w'' => e = .returned (.tuple #[.agg #[.string x, .string y, .int .i64 z], .int .i64 c]) ∧ Below w'.heap.size w' w'') := fun hs w' => by
    have := cut_spec st now cap n w' hs.1 hs.2
    rw [hr] at this
    exact this
  have HB : Hid (st.size ≤ 1048576 ∧ now.size ≤ 1048576 → ∀ w', Calls Try.prog 20 #[.agg #[.string st, .string now, .int .i64 cap], .int .i64 n] w' fun e w'' => e = .returned (.tuple #[.agg #[.string x, .string y, .int .i64 z], .int .i64 c]) ∧ Below w'.heap.size w' w'') := fun hs w' => by
    have := cut_impl st now cap n w' hs.1 hs.2
    rw [hr] at this
    exact this
  have HE : Hid (∀ w', Calls Try.prog 16 #[.agg #[.string x, .string y, .int .i64 z], .agg #[.string x, .string y, .int .i64 z]] w' fun e w'' => e = .returned (.bool true) ∧ Below w'.heap.size w' w'') := fun w' => eqDisk_same x y z w'
  clear hr h1 h2
  go_enter Try.func7, Try.ntmps7
  go_wp2_with fail
  refine (HS.out _).mono ?_
  rintro e w1 ⟨x1, rfl, HX, hb1⟩
  have hn1 := blk_below hb1 (heap_alloc_new w (.cells #[.string st, .string now, .int .i64 cap] 27))
  have hw1 : Below w.heap.size w w1 := ((Below.refl _ w).alloc (Nat.le_refl _) _).trans (hb1.mono (by simp))
  clear hb1
  by_cases hx : x1 < 0
  · have z1 : decide (x1 < 0) = true := decide_eq_true hx
    clear hx
    go_wp2_with fail
    go_ret
    exact ⟨rfl, hw1⟩
  · have hs := HX.out (by omega)
    have z1 : decide (x1 < 0) = false := decide_eq_false hx
    have HA' := HA.out hs
    have HB' := HB.out hs
    replace HA' : Hid _ := HA'
    replace HB' : Hid _ := HB'
    clear HA HB HX hx hs HS
    have c0 := Lib.cell_of_heap hn1 0
    have c1 := Lib.cell_of_heap hn1 1
    have c2 := Lib.cell_of_heap hn1 2
    go_wp2_with fail
    refine (HT.out _).mono ?_
    rintro e w2 ⟨rfl, hb2⟩
    have hn2 := blk_below hb2 hn1
    have hw2 := hw1.trans (hb2.mono hw1.size)
    clear hb2 hn1 hw1 c0 c1 c2
    go_wp2_with fail
    refine (HA'.out _).mono ?_
    rintro e w3 ⟨rfl, hb3⟩
    have hn3 := blk_below hb3 hn2
    have hw3 := hw2.trans (hb3.mono hw2.size)
    clear hb3 hn2 hw2
    have al3 : ∀ o, Below w3.heap.size w3 (w3.alloc o) := fun o => (Below.refl _ _).alloc (Nat.le_refl _) o
    have c0 : ∀ o, (w3.alloc o).cell? ⟨w.heap.size, 0, none⟩ = some (.string st) := fun o => Lib.cell_of_heap (blk_below (al3 o) hn3) 0
    have c1 : ∀ o, (w3.alloc o).cell? ⟨w.heap.size, 1, none⟩ = some (.string now) := fun o => Lib.cell_of_heap (blk_below (al3 o) hn3) 1
    have c2 : ∀ o, (w3.alloc o).cell? ⟨w.heap.size, 2, none⟩ = some (.int .i64 cap) := fun o => Lib.cell_of_heap (blk_below (al3 o) hn3) 2
    have hw3' : Below w.heap.size w (w3.alloc (.cells #[.string x, .string y, .int .i64 z] 29)) := hw3.trans ((al3 _).mono hw3.size)
    have nW := heap_alloc_new w3 (.cells #[.string x, .string y, .int .i64 z] 29)
    obtain ⟨gw, hgw⟩ : ∃ gw, w3.heap.size = gw := ⟨_, rfl⟩
    go_wp2_with fail
    refine (HT.out _).mono ?_
    rintro e w4 ⟨rfl, hb4⟩
    have hw4 := hw3'.trans (hb4.mono hw3'.size)
    have nW4 := blk_below hb4 nW
    rw [hgw] at nW4
    try rw [hgw]
    clear hb4 hn3 hw3 c0 c1 c2 nW hw3' al3 hgw
    go_wp2_with fail
    refine (HB'.out _).mono ?_
    rintro e w5 ⟨rfl, hb5⟩
    have hw5 := hw4.trans (hb5.mono hw4.size)
    have nW5 := blk_below hb5 nW4
    clear hb5 hw4 nW4
    have al5 : ∀ o, Below w5.heap.size w5 (w5.alloc o) := fun o => (Below.refl _ _).alloc (Nat.le_refl _) o
    have c0 : ∀ o, (w5.alloc o).cell? ⟨gw, 0, none⟩ = some (.string x) := fun o => Lib.cell_of_heap (blk_below (al5 o) nW5) 0
    have c1 : ∀ o, (w5.alloc o).cell? ⟨gw, 1, none⟩ = some (.string y) := fun o => Lib.cell_of_heap (blk_below (al5 o) nW5) 1
    have c2 : ∀ o, (w5.alloc o).cell? ⟨gw, 2, none⟩ = some (.int .i64 z) := fun o => Lib.cell_of_heap (blk_below (al5 o) nW5) 2
    have hw5' : ∀ o, Below w.heap.size w (w5.alloc o) := fun o => hw5.trans ((al5 o).mono hw5.size)
    go_wp2_with fail
    refine (HE.out _).mono ?_
    rintro e w6 ⟨rfl, hb6⟩
    have hw6 := (hw5' _).trans (hb6.mono (hw5' _).size)
    clear hb6 hw5
    go_wp2_with fail
    go_ret
    exact ⟨rfl, hw6⟩

set_option maxRecDepth 100000 in
set_option maxHeartbeats 1000000 in
theorem law_app (st now : ByteArray) (cap : Int) (s : ByteArray) (w : World) (h1 : st.size ≤ maxLen) (h2 : now.size ≤ maxLen) (h3 : s.size ≤ maxLen) :
    Calls Try.prog 5 #[.agg #[.string st, .string now, .int .i64 cap], .string s] w fun e w' => e = .returned (.bool true) ∧ Below w.heap.size w w' := by
  unfold maxLen at h1 h2 h3
  by_cases hs3 : 1048576 < s.size
  · go_enter Try.func5, Try.ntmps5
    go_wp2_with fail
    go_ret
    exact ⟨rfl, (Below.refl _ _).alloc (Nat.le_refl _) _⟩
  replace h3 : s.size ≤ 1048576 := by omega
  clear hs3
  have HS : Hid (∀ w', Calls Try.prog 12 #[.agg #[.string st, .string now, .int .i64 cap], .int .i64 1048576] w' fun e w'' => ∃ x : Int, e = .returned (.int .i64 x) ∧ Hid (0 ≤ x → st.size ≤ 1048576 ∧ now.size ≤ 1048576) ∧ Below w'.heap.size w' w'') := fun w' => sz_disk st now cap w' h1 h2
  have HT : Hid (∀ w', Calls Try.prog 14 #[.agg #[.string st, .string now, .int .i64 cap]] w' fun e w'' => e = .returned (.agg #[.string st, .string now, .int .i64 cap]) ∧ Below w'.heap.size w' w'') := fun w' => toDisk_any st now cap w'
  obtain ⟨⟨x, y, z, c⟩, hr⟩ : ∃ r, appR st now cap s = r := ⟨_, rfl⟩
  have HA : Hid (st.size ≤ 1048576 ∧ now.size ≤ 1048576 → ∀ w', Calls Try.prog 13 #[.agg #[.string st, .string now, .int .i64 cap], .string s] w' fun e w'' => e = .returned (.tuple #[.agg #[.string x, .string y, .int .i64 z], .int .i64 c]) ∧ Below w'.heap.size w' w'') := fun hs w' => by
    have := app_spec st now s cap w' hs.1 hs.2 h3
    rw [hr] at this
    exact this
  have HB : Hid (st.size ≤ 1048576 ∧ now.size ≤ 1048576 → ∀ w', Calls Try.prog 15 #[.agg #[.string st, .string now, .int .i64 cap], .string s] w' fun e w'' => e = .returned (.tuple #[.agg #[.string x, .string y, .int .i64 z], .int .i64 c]) ∧ Below w'.heap.size w' w'') := fun hs w' => by
    have := app_impl st now s cap w' hs.1 hs.2 h3
    rw [hr] at this
    exact this
  have HE : Hid (∀ w', Calls Try.prog 16 #[.agg #[.string x, .string y, .int .i64 z], .agg #[.string x, .string y, .int .i64 z]] w' fun e w'' => e = .returned (.bool true) ∧ Below w'.heap.size w' w'') := fun w' => eqDisk_same x y z w'
  clear hr h1 h2
  go_enter Try.func5, Try.ntmps5
  go_wp2_with fail
  refine (HS.out _).mono ?_
  rintro e w1 ⟨x1, rfl, HX, hb1⟩
  have hn1 := blk_below hb1 (heap_alloc_new w (.cells #[.string st, .string now, .int .i64 cap] 27))
  have hw1 : Below w.heap.size w w1 := ((Below.refl _ w).alloc (Nat.le_refl _) _).trans (hb1.mono (by simp))
  clear hb1
  by_cases hx : x1 < 0
  · have z1 : decide (x1 < 0) = true := decide_eq_true hx
    clear hx
    go_wp2_with fail
    go_ret
    exact ⟨rfl, hw1⟩
  · have hs := HX.out (by omega)
    have z1 : decide (x1 < 0) = false := decide_eq_false hx
    have HA' := HA.out hs
    have HB' := HB.out hs
    replace HA' : Hid _ := HA'
    replace HB' : Hid _ := HB'
    clear HA HB HX hx hs HS
    have c0 := Lib.cell_of_heap hn1 0
    have c1 := Lib.cell_of_heap hn1 1
    have c2 := Lib.cell_of_heap hn1 2
    go_wp2_with fail
    refine (HT.out _).mono ?_
    rintro e w2 ⟨rfl, hb2⟩
    have hn2 := blk_below hb2 hn1
    have hw2 := hw1.trans (hb2.mono hw1.size)
    clear hb2 hn1 hw1 c0 c1 c2
    go_wp2_with fail
    refine (HA'.out _).mono ?_
    rintro e w3 ⟨rfl, hb3⟩
    have hn3 := blk_below hb3 hn2
    have hw3 := hw2.trans (hb3.mono hw2.size)
    clear hb3 hn2 hw2
    have al3 : ∀ o, Below w3.heap.size w3 (w3.alloc o) := fun o => (Below.refl _ _).alloc (Nat.le_refl _) o
    have c0 : ∀ o, (w3.alloc o).cell? ⟨w.heap.size, 0, none⟩ = some (.string st) := fun o => Lib.cell_of_heap (blk_below (al3 o) hn3) 0
    have c1 : ∀ o, (w3.alloc o).cell? ⟨w.heap.size, 1, none⟩ = some (.string now) := fun o => Lib.cell_of_heap (blk_below (al3 o) hn3) 1
    have c2 : ∀ o, (w3.alloc o).cell? ⟨w.heap.size, 2, none⟩ = some (.int .i64 cap) := fun o => Lib.cell_of_heap (blk_below (al3 o) hn3) 2
    have hw3' : Below w.heap.size w (w3.alloc (.cells #[.string x, .string y, .int .i64 z] 29)) := hw3.trans ((al3 _).mono hw3.size)
    have nW := heap_alloc_new w3 (.cells #[.string x, .string y, .int .i64 z] 29)
    obtain ⟨gw, hgw⟩ : ∃ gw, w3.heap.size = gw := ⟨_, rfl⟩
    go_wp2_with fail
    refine (HT.out _).mono ?_
    rintro e w4 ⟨rfl, hb4⟩
    have hw4 := hw3'.trans (hb4.mono hw3'.size)
    have nW4 := blk_below hb4 nW
    rw [hgw] at nW4
    try rw [hgw]
    clear hb4 hn3 hw3 c0 c1 c2 nW hw3' al3 hgw
    go_wp2_with fail
    refine (HB'.out _).mono ?_
    rintro e w5 ⟨rfl, hb5⟩
    have hw5 := hw4.trans (hb5.mono hw4.size)
    have nW5 := blk_below hb5 nW4
    clear hb5 hw4 nW4
    have al5 : ∀ o, Below w5.heap.size w5 (w5.alloc o) := fun o => (Below.refl _ _).alloc (Nat.le_refl _) o
    have c0 : ∀ o, (w5.alloc o).cell? ⟨gw, 0, none⟩ = some (.string x) := fun o => Lib.cell_of_heap (blk_below (al5 o) nW5) 0
    have c1 : ∀ o, (w5.alloc o).cell? ⟨gw, 1, none⟩ = some (.string y) := fun o => Lib.cell_of_heap (blk_below (al5 o) nW5) 1
    have c2 : ∀ o, (w5.alloc o).cell? ⟨gw, 2, none⟩ = some (.int .i64 z) := fun o => Lib.cell_of_heap (blk_below (al5 o) nW5) 2
    have hw5' : ∀ o, Below w.heap.size w (w5.alloc o) := fun o => hw5.trans ((al5 o).mono hw5.size)
    go_wp2_with fail
    refine (HE.out _).mono ?_
    rintro e w6 ⟨rfl, hb6⟩
    have hw6 := (hw5' _).trans (hb6.mono (hw5' _).size)
    clear hb6 hw5
    go_wp2_with fail
    go_ret
    exact ⟨rfl, hw6⟩

end Go.Proofs.Ythopecgcpfhceaa
