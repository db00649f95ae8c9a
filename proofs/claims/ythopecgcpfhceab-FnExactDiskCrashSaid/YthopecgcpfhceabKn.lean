import Derived.Test.YthopecgcpfhceabKm
namespace Go.Proofs.Ythopecgcpfhceab
open Go.RowKit Go.Proofs.Sha Go.Proofs.Disk

set_option maxRecDepth 100000 in
set_option maxHeartbeats 2000000 in
theorem law_crash (st now : ByteArray) (cap : Int) (a : Option Addr) (xs : List Int) (c : Nat) (w : World) (h1 : st.size ≤ maxLen) (h2 : now.size ≤ maxLen) (h : xs.length ≤ 1048576 → IArg a xs w) (hn : xs.length ≤ maxLen) :
    Calls Try.prog 4 #[.agg #[.string st, .string now, .int .i64 cap], .slice a xs.length c] w fun e w' => e = .returned (.bool true) ∧ Below w.heap.size w w' := by
  unfold maxLen at h1 h2 hn
  by_cases hx0 : 1048576 < xs.length
  · go_enter Try.func4, Try.ntmps4
    go_wp2_with fail
    go_ret
    exact ⟨rfl, (Below.refl _ _).alloc (Nat.le_refl _) _⟩
  replace h := h (by omega)
  replace hn : xs.length ≤ 1048576 := by omega
  clear hx0
  have HS : Hid (∀ w', Calls Try.prog 11 #[.agg #[.string st, .string now, .int .i64 cap], .int .i64 1048576] w' fun e w'' => ∃ x : Int, e = .returned (.int .i64 x) ∧ Hid (0 ≤ x → st.size ≤ 1048576 ∧ now.size ≤ 1048576) ∧ Below w'.heap.size w' w'') := fun w' => sz_disk st now cap w' h1 h2
  have HT : Hid (∀ w', Calls Try.prog 13 #[.agg #[.string st, .string now, .int .i64 cap]] w' fun e w'' => e = .returned (.agg #[.string st, .string now, .int .i64 cap]) ∧ Below w'.heap.size w' w'') := fun w' => toDisk_any st now cap w'
  have HI : Hid (∀ w', IArg a xs w' → Calls Try.prog 14 #[.slice a xs.length c] w' fun e w'' => ∃ g, e = .returned (.slice (some ⟨g, 0, none⟩) xs.length xs.length) ∧ IArg (some ⟨g, 0, none⟩) xs w'' ∧ Below w'.heap.size w' w'') := fun w' hw => (toInts_any a xs c w' hw).mono (by
    rintro e w'' ⟨g, rfl, hr, hb⟩
    exact ⟨g, rfl, Row.iarg hr hn, hb⟩)
  obtain ⟨⟨x, z⟩, hr⟩ : ∃ r, crashR st now cap xs = r := ⟨_, rfl⟩
  have HA : Hid (st.size ≤ 1048576 ∧ now.size ≤ 1048576 → ∀ g w', IArg (some ⟨g, 0, none⟩) xs w' → Calls Try.prog 12 #[.agg #[.string st, .string now, .int .i64 cap], .slice (some ⟨g, 0, none⟩) xs.length xs.length] w' fun e w'' => e = .returned (.agg #[.string x, .string x, .int .i64 z]) ∧ Below w'.heap.size w' w'') := fun hs g w' hw => by
    have := crash_spec st now cap _ xs xs.length w' hw hs.1 hs.2
    rw [hr] at this
    exact this
  have HB : Hid (st.size ≤ 1048576 ∧ now.size ≤ 1048576 → ∀ g w', IArg (some ⟨g, 0, none⟩) xs w' → Calls Try.prog 15 #[.agg #[.string st, .string now, .int .i64 cap], .slice (some ⟨g, 0, none⟩) xs.length xs.length] w' fun e w'' => e = .returned (.agg #[.string x, .string x, .int .i64 z]) ∧ Below w'.heap.size w' w'') := fun hs g w' hw => by
    have := crash_impl st now cap _ xs xs.length w' hw hs.1 hs.2
    rw [hr] at this
    exact this
  have HE : Hid (∀ w', Calls Try.prog 16 #[.agg #[.string x, .string x, .int .i64 z], .agg #[.string x, .string x, .int .i64 z]] w' fun e w'' => e = .returned (.bool true) ∧ Below w'.heap.size w' w'') := fun w' => eqDisk_same x x z w'
  have HQ : Hid (∀ g g2 w', IArg (some ⟨g, 0, none⟩) xs w' → IArg (some ⟨g2, 0, none⟩) xs w' → Calls Try.prog 17 #[.slice (some ⟨g, 0, none⟩) xs.length xs.length, .slice (some ⟨g2, 0, none⟩) xs.length xs.length] w' fun e w'' => e = .returned (.bool true) ∧ Below w'.heap.size w' w'') := fun g g2 w' hw hw2 => eqInts_same _ _ xs _ _ w' hw hw2
  clear hr h1 h2
  go_enter Try.func4, Try.ntmps4
  go_wp2_with fail
  refine (HS.out _).mono ?_
  rintro e w1 ⟨x1, rfl, HX, hb1⟩
  have hn1 := blk_below hb1 (heap_alloc_new w (.cells #[.string st, .string now, .int .i64 cap] 30))
  have hw1 : Below w.heap.size w w1 := ((Below.refl _ w).alloc (Nat.le_refl _) _).trans (hb1.mono (by simp))
  clear hb1
  by_cases hx : x1 < 0
  · have z1 : decide (x1 < 0) = true := decide_eq_true hx
    clear hx
    go_wp2_with fail
    go_ret
    exact ⟨rfl, hw1⟩
  · have hs := HX.out (by omega)
    have z1 : decide (x1 < 0) = false := decide_eq_false hx
    have HA' := HA.out hs
    have HB' := HB.out hs
    replace HA' : Hid _ := HA'
    replace HB' : Hid _ := HB'
    clear HA HB HX hx hs HS
    have c0 := Lib.cell_of_heap hn1 0
    have c1 := Lib.cell_of_heap hn1 1
    have c2 := Lib.cell_of_heap hn1 2
    go_wp2_with fail
    refine (HT.out _).mono ?_
    rintro e w2 ⟨rfl, hb2⟩
    have hn2 := blk_below hb2 hn1
    have hw2 := hw1.trans (hb2.mono hw1.size)
    clear hb2 hn1 hw1 c0 c1 c2
    go_wp2_with fail
    refine (HI.out _ (h.below hw2)).mono ?_
    rintro e w3 ⟨g3, rfl, hi3, hb3⟩
    have hn3 := blk_below hb3 hn2
    have hw3 := hw2.trans (hb3.mono hw2.size)
    clear hb3 hn2 hw2
    go_wp2_with fail
    refine (HA'.out _ _ hi3).mono ?_
    rintro e w4 ⟨rfl, hb4⟩
    have hn4 := blk_below hb4 hn3
    have hw4 := hw3.trans (hb4.mono hw3.size)
    clear hb4 hn3 hw3
    have al4 : Below w4.heap.size w4 (w4.alloc (.cells #[.string x, .string x, .int .i64 z] 33)) := (Below.refl _ _).alloc (Nat.le_refl _) _
    have hw4' := hw4.trans (al4.mono hw4.size)
    have hn4' := blk_below al4 hn4
    have nW := heap_alloc_new w4 (.cells #[.string x, .string x, .int .i64 z] 33)
    obtain ⟨gw, hgw⟩ : ∃ gw, w4.heap.size = gw := ⟨_, rfl⟩
    go_wp2_with fail
    refine (HI.out _ (h.below hw4')).mono ?_
    rintro e w5 ⟨g5, rfl, hi5, hb5⟩
    have hw5 := hw4'.trans (hb5.mono hw4'.size)
    have hn5 := blk_below hb5 hn4'
    have nW5 := blk_below hb5 nW
    rw [hgw] at nW5
    clear hb5 hn4' hn4 nW hw4' hw4 al4 hgw
    have c0 := Lib.cell_of_heap hn5 0
    have c1 := Lib.cell_of_heap hn5 1
    have c2 := Lib.cell_of_heap hn5 2
    go_wp2_with fail
    refine (HT.out _).mono ?_
    rintro e w6 ⟨rfl, hb6⟩
    have hw6 := hw5.trans (hb6.mono hw5.size)
    have nW6 := blk_below hb6 nW5
    have hi6 := hi5.below hb6
    clear hb6 hn5 nW5 hi5 hw5 c0 c1 c2
    go_wp2_with fail
    refine (HB'.out _ _ hi6).mono ?_
    rintro e w7 ⟨rfl, hb7⟩
    have hw7 := hw6.trans (hb7.mono hw6.size)
    have nW7 := blk_below hb7 nW6
    have hi7 := hi6.below hb7
    clear hb7 nW6 hi6 hw6
    have al7 : ∀ o, Below w7.heap.size w7 (w7.alloc o) := fun o => (Below.refl _ _).alloc (Nat.le_refl _) o
    have c0 : ∀ o, (w7.alloc o).cell? ⟨gw, 0, none⟩ = some (.string x) := fun o => Lib.cell_of_heap (blk_below (al7 o) nW7) 0
    have c1 : ∀ o, (w7.alloc o).cell? ⟨gw, 1, none⟩ = some (.string x) := fun o => Lib.cell_of_heap (blk_below (al7 o) nW7) 1
    have c2 : ∀ o, (w7.alloc o).cell? ⟨gw, 2, none⟩ = some (.int .i64 z) := fun o => Lib.cell_of_heap (blk_below (al7 o) nW7) 2
    have hw7' : ∀ o, Below w.heap.size w (w7.alloc o) := fun o => hw7.trans ((al7 o).mono hw7.size)
    have hi7' : ∀ o, IArg (some ⟨g5, 0, none⟩) xs (w7.alloc o) := fun o => hi7.below (al7 o)
    go_wp2_with fail
    refine (HE.out _).mono ?_
    rintro e w8 ⟨rfl, hb8⟩
    have hw8 := (hw7' _).trans (hb8.mono (hw7' _).size)
    have hi8 := (hi7' _).below hb8
    clear hb8 hw7 nW7 hi7 al7 c0 c1 c2 hw7' hi7'
    go_wp2_with fail
    refine (HI.out _ (h.below hw8)).mono ?_
    rintro e w9 ⟨g9, rfl, hi9, hb9⟩
    have hw9 := hw8.trans (hb9.mono hw8.size)
    have hi9' := hi8.below hb9
    clear hb9 hw8 hi8
    go_wp2_with fail
    refine (HQ.out _ _ _ hi9' hi9).mono ?_
    rintro e w10 ⟨rfl, hb10⟩
    have hw10 := hw9.trans (hb10.mono hw9.size)
    go_wp2_with fail
    go_ret
    exact ⟨rfl, hw10⟩
theorem law_crash_h (st now : ByteArray) (cap : Int) (a : Option Addr) (xs : List Int) (c : Nat) (w : World) (h1 : st.size ≤ maxLen) (h2 : now.size ≤ maxLen) (hn : xs.length ≤ maxLen) (_hw : ∀ x ∈ xs, (Lit.int .i64 x).wf = true)
    (h : 0 < xs.length → ∃ b off : Nat, a = some ⟨b, off, none⟩ ∧ b < w.heap.size ∧ ∀ j, j < xs.length → w.cell? ⟨b, off + j, none⟩ = some (.int .i64 (xs.getD j 0))) :
    Calls Try.prog 4 #[.agg #[.string st, .string now, .int .i64 cap], .slice a xs.length c] w fun e w' => e = .returned (.bool true) ∧ Below w.heap.size w w' :=
  law_crash st now cap a xs c w h1 h2 (fun hl => ⟨hl, h⟩) hn
end Go.Proofs.Ythopecgcpfhceab
