import Derived.Test.YthopecgcpfhceacDoorZe
import Derived.Laws.MakeOwn
import Derived.Laws.OwnMore
namespace Go.Proofs.YthopecgcpfhceacDoor
open Go.RowKit Go.Proofs.Sha

/-- A slice of texts that was handed in, whatever its size. -/
structure RArg (a : Option Addr) (ss : List ByteArray) (w : World) : Prop where
  at_ : 0 < ss.length → ∃ b off : Nat, a = some ⟨b, off, none⟩ ∧ b < w.heap.size ∧ ∀ j, j < ss.length → w.cell? ⟨b, off + j, none⟩ = some (.string (ss.getD j ⟨#[]⟩))
theorem RArg.below {a : Option Addr} {ss : List ByteArray} {w w' : World} (h : RArg a ss w) (hb : Below w.heap.size w w') : RArg a ss w' := by
  refine ⟨fun hn => ?_⟩
  obtain ⟨b, off, ha, hlt, hc⟩ := h.at_ hn
  exact ⟨b, off, ha, Nat.lt_of_lt_of_le hlt hb.size, fun j hj => (hb.cell hlt).trans (hc j hj)⟩
/-- Within the law's bound. -/
def SmallS (ss : List ByteArray) : Prop := ss.length ≤ 1048576 ∧ ∀ j, (ss.getD j ⟨#[]⟩).size ≤ 1048575
theorem RArg.sarg {a : Option Addr} {ss : List ByteArray} {w : World} (h : RArg a ss w) (hs : SmallS ss) : SArg a ss w := ⟨hs.1, fun j => Nat.le_trans (hs.2 j) (by decide), h.at_⟩
theorem wr_in (n : Int) (h : -9223372036854775808 ≤ n ∧ n ≤ 9223372036854775807) : wrap64 n = n := by unfold wrap64; omega
theorem getD_out (ss : List ByteArray) (j : Nat) (h : ss.length ≤ j) : ss.getD j ⟨#[]⟩ = ⟨#[]⟩ := by
  rw [List.getD_eq_getElem?_getD, List.getElem?_eq_none h]; rfl
set_option maxRecDepth 100000 in
set_option maxHeartbeats 1000000 in
theorem szStringS_any (a : Option Addr) (ss : List ByteArray) (c : Nat) (w : World) (h : RArg a ss w) (hN : ss.length ≤ maxLen) (hM : ∀ j, (ss.getD j ⟨#[]⟩).size ≤ maxLen) :
    Calls Tryd.prog 20 #[.slice a ss.length c, .int .i64 1048576] w fun e w' => ∃ r : Int, e = .returned (.int .i64 r) ∧ Hid (0 ≤ r → SmallS ss) ∧ w = w' := by
  unfold maxLen at hN hM
  obtain ⟨N, hl⟩ : ∃ N, ss.length = N := ⟨_, rfl⟩
  rw [hl] at hN
  rw [hl]
  by_cases hx : 1048576 < N
  · have z1 : decide ((1048576 : Int) - (N : Int) < 0) = true := by rw [decide_eq_true_eq]; omega
    have z3 : (-9223372036854775808 : Int) ≤ 1048576 - (N : Int) := by omega
    have z4 : (1048576 : Int) - (N : Int) ≤ 9223372036854775807 := by omega
    have z5 : wrap64 (1048576 - (N : Int)) = 1048576 - (N : Int) := wr_in _ (by omega)
    go_enter Tryd.func20, Tryd.ntmps20
    go_wp2_with fail
    go_ret
    exact ⟨_, rfl, fun hh => absurd hh (by decide), rfl⟩
  · have z1 : decide ((1048576 : Int) - (N : Int) < 0) = false := by rw [decide_eq_false_iff_not]; omega
    have z5 : wrap64 (1048576 - (N : Int)) = 1048576 - (N : Int) := wr_in _ (by omega)
    obtain ⟨q, hq⟩ : ∃ q : Nat, 1048576 - (N : Int) = (q : Int) := ⟨1048576 - N, by omega⟩
    rw [hq] at z1 z5
    go_enter Tryd.func20, Tryd.ntmps20
    go_wp2_with fail
    go_loopw [1, 5] (fun t1 t5 wr => ∃ k r : Nat, k ≤ N ∧ t5 = .int .i64 (k : Int) ∧ t1 = .int .i64 (r : Int) ∧ r ≤ q ∧ (∀ j, j < k → (ss.getD j ⟨#[]⟩).size ≤ q) ∧ w = wr) (fun _ t5 _ => N - (intOf t5).toNat)
    case atStart => exact ⟨0, q, Nat.zero_le _, rfl, by first | rfl | rw [z5], Nat.le_refl _, fun j hj => absurd hj (Nat.not_lt_zero j), rfl⟩
    case round =>
      obtain ⟨k, r, hk, rfl, rfl, hr, hall, rfl⟩ := hrel
      by_cases hlt : k < N
      · have y1 : decide ((k : Int) < (N : Int)) = true := by simp; omega
        have hx0 : (0 : Int) ≤ (k : Int) := Int.natCast_nonneg _
        have hx1 : (k : Int) < (N : Int) := by omega
        obtain ⟨b, off, rfl, hbl, hcs⟩ := h.at_ (by omega)
        obtain ⟨s, hs⟩ : ∃ s, ss.getD k ⟨#[]⟩ = s := ⟨_, rfl⟩
        have hsz : s.size ≤ 9223372036854775807 := by rw [← hs]; exact hM k
        have hcx := hcs k (by omega)
        rw [hs] at hcx
        by_cases hc : s.size ≤ r
        · obtain ⟨r', hr'⟩ : ∃ r' : Nat, (r : Int) - (s.size : Int) = (r' : Int) := ⟨r - s.size, by omega⟩
          have y2 : wrap64 ((r : Int) - (s.size : Int)) = (r' : Int) := by rw [hr']; exact wr_in _ (by omega)
          have y3 : decide ((r' : Int) < 0) = false := by rw [decide_eq_false_iff_not]; omega
          have hall' : ∀ j, j < k + 1 → (ss.getD j ⟨#[]⟩).size ≤ q := fun j hj => by
            by_cases hjk : j < k
            · exact hall j hjk
            · obtain rfl : j = k := by omega
              rw [hs]; omega
          clear hall hcs
          go_wp2_with fail
          go_roundw
          case rel => exact ⟨k + 1, r', hlt, by go_num, rfl, by omega, hall', by first | trivial | rfl⟩
          case measure => simp [intOf]; omega
        · obtain ⟨v, hv⟩ : ∃ v : Int, (r : Int) - (s.size : Int) = v := ⟨_, rfl⟩
          have y2 : wrap64 ((r : Int) - (s.size : Int)) = v := by rw [hv]; exact wr_in _ (by omega)
          have y3 : decide (v < 0) = true := by rw [decide_eq_true_eq]; omega
          clear hall hcs
          go_wp2_with fail
          go_ret
          exact ⟨_, rfl, fun hh => absurd hh (by decide), rfl⟩
      · obtain rfl : k = N := by omega
        have y1 : decide ((k : Int) < (k : Int)) = false := by simp
        have HS : Hid (SmallS ss) := by
          refine ⟨by omega, fun j => ?_⟩
          by_cases hj : j < k
          · have := hall j hj; omega
          · rw [getD_out ss j (by omega)]; exact Nat.zero_le _
        clear hall
        go_wp2_with fail
        go_ret
        exact ⟨_, rfl, fun _ => HS.out, rfl⟩
end Go.Proofs.YthopecgcpfhceacDoor
namespace Go.Proofs.YthopecgcpfhceacDoor
open Go.RowKit Go.Proofs.Sha

theorem make29 (n : Nat) (hn : n ≤ 1048576) (W : World) : (Instr.makeSlice 29 (.int .i64 (n : Int)) (.int .i64 (n : Int))).run Tryd.prog W = .ok (.slice (some ⟨W.heap.size, 0, none⟩) n n) (W.alloc (.cells ((List.replicate n ⟨#[]⟩).map Value.string).toArray 9)) := by
  obtain ⟨i0, hi, hz0, hz1, hz2⟩ := info_parts info9
  have e : madeCells (Value.string ⟨#[]⟩).cells (((n : Nat) : Int).toNat * i0.size) = ((List.replicate n ⟨#[]⟩).map Value.string).toArray := by
    rw [hz1, Int.toNat_natCast, Nat.mul_one]
    show madeCells #[.string ⟨#[]⟩] n = _
    rw [← Array.toList_inj, toList_madeCells_one, List.map_replicate]
  have h := run_make (P := Tryd.prog) W 29 9 i0 (.string ⟨#[]⟩) Tryd.underlying29 hi hz0 .i64 .i64 (n : Int) (n : Int) (by omega) (by omega) (by rw [hz2]; omega) (by omega)
  rw [e] at h
  simpa using h
theorem Row.sarg {w : World} {base g c : Nat} {ss : List ByteArray} (h : Row w base g ss.length c (ss.map Value.string)) (hs : SmallS ss) : SArg (some ⟨g, 0, none⟩) ss w := by
  refine RArg.sarg ⟨fun _ => ⟨g, 0, rfl, h.lt, fun j hj => ?_⟩⟩ hs
  rw [Nat.zero_add, h.cell j hj, List.getElem?_map, List.getElem?_eq_getElem hj, List.getD_eq_getElem?_getD, List.getElem?_eq_getElem hj]
  rfl

/-- The first k of xs, and zeros. -/
def partS (xs : List ByteArray) (k : Nat) : List ByteArray := xs.take k ++ List.replicate (xs.length - k) ⟨#[]⟩
theorem partS_zero (xs : List ByteArray) : partS xs 0 = List.replicate xs.length ⟨#[]⟩ := by simp [partS]
theorem partS_all (xs : List ByteArray) : partS xs xs.length = xs := by simp [partS]
theorem partS_len (xs : List ByteArray) (k : Nat) (h : k ≤ xs.length) : (partS xs k).length = xs.length := by simp [partS]; omega
theorem partS_set (xs : List ByteArray) (k : Nat) (h : k < xs.length) : ((partS xs k).map Value.string).set k (Value.string (xs.getD k ⟨#[]⟩)) = (partS xs (k + 1)).map Value.string := by
  rw [← List.map_set]
  congr 1
  have e : xs.take (k + 1) = xs.take k ++ [xs[k]] := by rw [List.take_add_one, List.getElem?_eq_getElem h]; rfl
  unfold partS
  rw [show xs.length - k = (xs.length - (k + 1)) + 1 by omega, List.replicate_succ, List.set_append_right _ _ (by rw [List.length_take]; omega), List.length_take, show k - min k xs.length = 0 by omega, List.set_cons_zero, e, List.getD_eq_getElem?_getD, List.getElem?_eq_getElem h, List.append_assoc]
  rfl

set_option maxRecDepth 100000 in
theorem toStringS_any (a : Option Addr) (xs : List ByteArray) (c : Nat) (w : World) (h : SArg a xs w) :
    Calls Tryd.prog 24 #[.slice a xs.length c] w fun e w' => ∃ g, e = .returned (.slice (some ⟨g, 0, none⟩) xs.length xs.length) ∧ Row w' w.heap.size g xs.length xs.length (xs.map Value.string) ∧ Below w.heap.size w w' := by
  have hn := h.le
  have hmk := make29 xs.length hn
  go_enter Tryd.func24, Tryd.ntmps24
  have hrow0 : Row (w.alloc (.cells ((List.replicate xs.length ⟨#[]⟩).map Value.string).toArray 9)) w.heap.size w.heap.size xs.length xs.length ((partS xs 0).map Value.string) := by
    have := Row.of_block (Nat.le_refl w.heap.size) (heap_alloc_new w (.cells ((List.replicate xs.length ⟨#[]⟩).map Value.string).toArray 9)) xs.length (by simp) (.inl rfl)
    simpa [partS_zero] using this
  have hb0 : Below w.heap.size w (w.alloc (.cells ((List.replicate xs.length ⟨#[]⟩).map Value.string).toArray 9)) := (Below.refl _ _).alloc (Nat.le_refl _) _
  obtain ⟨o, ho⟩ : ∃ o, (.cells ((List.replicate xs.length ⟨#[]⟩).map Value.string).toArray 9 : Obj) = o := ⟨_, rfl⟩
  rw [ho] at hrow0 hb0 hmk
  clear ho
  go_wp2_with fail
  go_loopw [4] (fun t wr => ∃ k : Nat, k ≤ xs.length ∧ t = .int .i64 (k : Int) ∧ Row wr w.heap.size w.heap.size xs.length xs.length ((partS xs k).map Value.string) ∧ Below w.heap.size w wr) (fun t _ => xs.length - (intOf t).toNat)
  case atStart => exact ⟨0, Nat.zero_le _, rfl, hrow0, hb0⟩
  case round =>
    clear hrow0 hb0 hmk
    obtain ⟨k, hk, rfl, hrow, hbel⟩ := hrel
    by_cases hlt : k < xs.length
    · have z1 : decide ((k : Int) < (xs.length : Int)) = true := by simp; omega
      obtain ⟨b, off, rfl, hbl, hc⟩ := (h.below hbel).at_ (by omega)
      have hcx := hc k hlt
      obtain ⟨y, hy⟩ := Option.isSome_iff_exists.1 (hrow.room k hlt)
      have hfr := hrow.free k hlt
      obtain ⟨x, hx⟩ : ∃ x, xs.getD k ⟨#[]⟩ = x := ⟨_, rfl⟩
      rw [hx] at hcx
      clear hc
      obtain ⟨g, hg⟩ : ∃ g, w.heap.size = g := ⟨_, rfl⟩
      rw [hg] at hy hfr hrow hbel ⊢
      go_wp2_with fail
      go_roundw
      case rel =>
        have e := hrow.set k hlt (Value.string (xs.getD k ⟨#[]⟩))
        rw [partS_set xs k hlt, hx] at e
        exact ⟨k + 1, hlt, rfl, e, hbel.setCell (Nat.le_refl _) _⟩
      case measure => simp [intOf]; omega
    · obtain rfl : k = xs.length := by omega
      have z1 : decide ((xs.length : Int) < (xs.length : Int)) = false := by simp
      rw [partS_all] at hrow
      go_wp2_with fail
      go_ret
      exact ⟨_, rfl, hrow, hbel⟩

set_option maxRecDepth 100000 in
theorem eqStringS_same (a a2 : Option Addr) (xs : List ByteArray) (c c2 : Nat) (w : World) (h : SArg a xs w) (h2 : SArg a2 xs w) :
    Calls Tryd.prog 29 #[.slice a xs.length c, .slice a2 xs.length c2] w fun e w' => e = .returned (.bool true) ∧ Below w.heap.size w w' := by
  have hn := h.le
  go_enter Tryd.func29, Tryd.ntmps29
  go_wp2_with fail
  go_loopw [5] (fun t wr => ∃ k : Nat, k ≤ xs.length ∧ t = .int .i64 (k : Int) ∧ Below w.heap.size w wr) (fun t _ => xs.length - (intOf t).toNat)
  case atStart => exact ⟨0, Nat.zero_le _, rfl, Below.refl _ _⟩
  case round =>
    obtain ⟨k, hk, rfl, hbel⟩ := hrel
    by_cases hlt : k < xs.length
    · have z1 : decide ((k : Int) < (xs.length : Int)) = true := by simp; omega
      obtain ⟨b, off, rfl, hbl, hc⟩ := (h.below hbel).at_ (by omega)
      obtain ⟨b2, off2, rfl, hbl2, hc2⟩ := (h2.below hbel).at_ (by omega)
      have hcx := hc k hlt
      have hcy := hc2 k hlt
      obtain ⟨x, hx⟩ : ∃ x, xs.getD k ⟨#[]⟩ = x := ⟨_, rfl⟩
      rw [hx] at hcx hcy
      have hq : (x.toList != x.toList) = false := by simp
      clear hc hc2 hx
      have b1 : (k : Int) < (xs.length : Int) := by omega
      go_wp2_with fail
      go_region_held3 (fun W => W.cell? ⟨b, off + k, none⟩ = some (.string x) ∧ W.cell? ⟨b2, off2 + k, none⟩ = some (.string x)) (exact ⟨hcx, hcy⟩) (fail)
      go_wp2_with fail
      go_roundw
      case rel => exact ⟨k + 1, hlt, rfl, hbel.drew⟩
      case measure => simp [intOf]; omega
    · obtain rfl : k = xs.length := by omega
      have z1 : decide ((xs.length : Int) < (xs.length : Int)) = false := by simp
      go_wp2_with fail
      go_ret
      exact ⟨rfl, hbel⟩
end Go.Proofs.YthopecgcpfhceacDoor
namespace Go.Proofs.YthopecgcpfhceacDoor
open Go.RowKit Go.Proofs.Sha

theorem pblk_below {g : Nat} {o : Obj} {w w' : World} (hb : Below w.heap.size w w') (h : w.heap[g]? = some o) : w'.heap[g]? = some o := (hb.block g (Array.getElem?_eq_some_iff.1 h).1).trans h
set_option maxRecDepth 100000 in
theorem retP {fn : Func} {R : Ending → World → Prop} {A : Act} {p : Tmp} {gb : Nat} {n : Int} {a : Option Addr} {m c : Nat} {W : World} (hres : fn.results = #[.cell p 35]) (hp : A.tmps.getD p undef = .pointer (some ⟨gb, 0, none⟩)) (hd : A.defers = []) (hn : W.heap[gb]? = some (.cells #[.int .i64 n, .slice a m c] 35))
    (h : R (.returned (.agg #[.int .i64 n, .slice a m c])) W) : bodyPost Tryd.prog fn R Exit.ret A W := by
  have c0 := Lib.cell_of_heap hn 0
  have c1 := Lib.cell_of_heap hn 1
  have hp' : A.tmps[p]?.getD undef = .pointer (some ⟨gb, 0, none⟩) := by simpa using hp
  refine bodyPost_ret (v := .agg #[.int .i64 n, .slice a m c]) ?_ hd h
  simp [results, hres, go_sem, asAddr, hp', c0, c1]
set_option maxRecDepth 100000 in
set_option maxHeartbeats 1000000 in
theorem szPool_any (n : Int) (a : Option Addr) (ss : List ByteArray) (c : Nat) (w : World) (h : RArg a ss w) (hN : ss.length ≤ maxLen) (hM : ∀ j, (ss.getD j ⟨#[]⟩).size ≤ maxLen) :
    Calls Tryd.prog 9 #[.agg #[.int .i64 n, .slice a ss.length c], .int .i64 1048576] w fun e w' => ∃ r : Int, e = .returned (.int .i64 r) ∧ Hid (0 ≤ r → SmallS ss) ∧ Below w.heap.size w w' := by
  have hb0 : Below w.heap.size w (w.alloc (.cells #[.int .i64 n, .slice a ss.length c] 31)) := (Below.refl _ _).alloc (Nat.le_refl _) _
  have HS : Hid (∀ w', RArg a ss w' → Calls Tryd.prog 20 #[.slice a ss.length c, .int .i64 1048576] w' fun e w'' => ∃ r : Int, e = .returned (.int .i64 r) ∧ Hid (0 ≤ r → SmallS ss) ∧ w' = w'') := fun w' h' => szStringS_any a ss c w' h' hN hM
  have h1 := h.below hb0
  go_enter Tryd.func9, Tryd.ntmps9
  go_wp2_with fail
  refine (HS.out _ h1).mono ?_
  rintro e w1 ⟨r, rfl, HR, rfl⟩
  by_cases hr : r < 0
  · have z1 : decide (r < 0) = true := decide_eq_true hr
    go_wp2_with fail
    go_ret
    exact ⟨_, rfl, fun hh => absurd hh (by decide), hb0⟩
  · have z1 : decide (r < 0) = false := decide_eq_false hr
    go_wp2_with fail
    go_ret
    exact ⟨_, rfl, HR, hb0⟩

set_option maxRecDepth 100000 in
set_option maxHeartbeats 1000000 in
theorem toPool_any (n : Int) (a : Option Addr) (ss : List ByteArray) (c : Nat) (w : World) (h : SArg a ss w) (hs : Hid (SmallS ss)) :
    Calls Tryd.prog 11 #[.agg #[.int .i64 n, .slice a ss.length c]] w fun e w' => ∃ g, e = .returned (.agg #[.int .i64 n, .slice (some ⟨g, 0, none⟩) ss.length ss.length]) ∧ SArg (some ⟨g, 0, none⟩) ss w' ∧ Below w.heap.size w w' := by
  have HT : Hid (∀ w', SArg a ss w' → Calls Tryd.prog 24 #[.slice a ss.length c] w' fun e w'' => ∃ g, e = .returned (.slice (some ⟨g, 0, none⟩) ss.length ss.length) ∧ Row w'' w'.heap.size g ss.length ss.length (ss.map Value.string) ∧ Below w'.heap.size w' w'') := fun w' h' => toStringS_any a ss c w' h'
  go_enter Tryd.func11, Tryd.ntmps11
  obtain ⟨o1, ho1⟩ : ∃ o : Obj, .cells #[.int .i64 n, .slice a ss.length c] 31 = o := ⟨_, rfl⟩
  have hW : Below w.heap.size w (((w.alloc o1).alloc (.cells #[.int .i64 0, .slice none 0 0] 35)).alloc (.cells #[.int .i64 n, .slice none 0 0] 35)) := ((((Below.refl _ w).alloc (Nat.le_refl _) _).alloc (by simp) _).alloc (by simp; omega) _)
  have m2 := heap_alloc_new ((w.alloc o1).alloc (.cells #[.int .i64 0, .slice none 0 0] 35)) (.cells #[.int .i64 n, .slice none 0 0] 35)
  have m1 := pblk_below ((Below.refl _ _).alloc (Nat.le_refl _) (.cells #[.int .i64 n, .slice none 0 0] 35)) (heap_alloc_new (w.alloc o1) (.cells #[.int .i64 0, .slice none 0 0] 35))
  have hsz3 : (((w.alloc o1).alloc (.cells #[.int .i64 0, .slice none 0 0] 35)).alloc (.cells #[.int .i64 n, .slice none 0 0] 35)).heap.size = w.heap.size + 3 := by simp
  rw [World.size_alloc] at m1
  rw [World.size_alloc, World.size_alloc] at m2
  subst ho1
  go_wp2_with fail
  refine (HT.out _ (h.below hW)).mono ?_
  rintro e w1 ⟨g, rfl, hrow, hb1⟩
  have n1 := pblk_below hb1 m1
  have n2 := pblk_below hb1 m2
  have hge := hrow.ge
  have hB1 := hW.trans (hb1.mono hW.size)
  rw [hsz3] at hge
  replace hrow := hrow.mono (Nat.zero_le _)
  clear hb1 m1 m2 hW hsz3
  obtain ⟨g1, hg1⟩ : ∃ g1, w.heap.size + 1 = g1 := ⟨_, rfl⟩
  obtain ⟨g2, hg2⟩ : ∃ g2, w.heap.size + 1 + 1 = g2 := ⟨_, rfl⟩
  rw [hg1] at n1
  rw [hg2] at n2
  rw [hg2, hg1]
  have hle1 : w.heap.size ≤ g1 := by omega
  have hle2 : w.heap.size ≤ g2 := by omega
  have hne1 : g1 ≠ g := by omega
  have hne2 : g2 ≠ g := by omega
  have hne : g2 ≠ g1 := by omega
  clear hge hg1 hg2
  have c0 := Lib.cell_of_heap n2 0
  have c1 := Lib.cell_of_heap n2 1
  have fr2 : ∀ j, w1.frozen? ⟨g2, j, none⟩ = false := fun j => by rw [World.frozen?, n2]; rfl
  have f1 := fr2 1
  obtain ⟨W, hWW⟩ : ∃ W, w1.setCell ⟨g2, 1, none⟩ (.slice (some ⟨g, 0, none⟩) ss.length ss.length) = W := ⟨_, rfl⟩
  have p2 : W.heap[g2]? = some (.cells #[.int .i64 n, .slice (some ⟨g, 0, none⟩) ss.length ss.length] 35) := by rw [← hWW]; exact heap_setCell_same _ g2 1 _ 35 _ n2
  have p1 : W.heap[g1]? = some (.cells #[.int .i64 0, .slice none 0 0] 35) := by
    rw [← hWW]
    exact ((grownBy_setCell _ _ _ _).block g1 (Array.getElem?_eq_some_iff.1 n1).1 (fun e => hne (Option.some.inj e).symm)).trans n1
  have hrW : Row W 0 g ss.length ss.length (ss.map Value.string) := by rw [← hWW]; exact hrow.kept (grownBy_setCell _ _ _ _) (fun e => hne2 (Option.some.inj e).symm)
  have hBW : Below w.heap.size w W := by rw [← hWW]; exact hB1.setCell hle2 _
  go_upto_region 4 with fail
  clear hWW n1 n2 c0 c1 f1 fr2 hrow hB1
  have c0 := Lib.cell_of_heap p2 0
  have c1 := Lib.cell_of_heap p2 1
  have e0 := Lib.cell_of_heap p1 0
  have e1 := Lib.cell_of_heap p1 1
  have fr1 : ∀ j, W.frozen? ⟨g1, j, none⟩ = false := fun j => by rw [World.frozen?, p1]; rfl
  have f0 := fr1 0
  have f1 := fr1 1
  go_wp2_with fail
  have q1 := heap_setCell_same _ g1 1 _ 35 (.slice (some ⟨g, 0, none⟩) ss.length ss.length) (heap_setCell_same _ g1 0 _ 35 (.int .i64 n) p1)
  refine retP Tryd.results11 rfl rfl q1 ⟨g, rfl, Row.sarg ((hrW.kept (grownBy_setCell _ _ _ _) (fun e => hne1 (Option.some.inj e).symm)).kept (grownBy_setCell _ _ _ _) (fun e => hne1 (Option.some.inj e).symm)) hs.out, (hBW.setCell hle1 _).setCell hle1 _⟩
set_option maxRecDepth 100000 in
set_option maxHeartbeats 1000000 in
theorem eqPool_same (n : Int) (a a2 : Option Addr) (ss : List ByteArray) (c c2 : Nat) (w : World) (h : SArg a ss w) (h2 : SArg a2 ss w) :
    Calls Tryd.prog 14 #[.agg #[.int .i64 n, .slice a ss.length c], .agg #[.int .i64 n, .slice a2 ss.length c2]] w fun e w' => e = .returned (.bool true) ∧ Below w.heap.size w w' := by
  have HT : Hid (∀ w', SArg a ss w' → SArg a2 ss w' → Calls Tryd.prog 29 #[.slice a ss.length c, .slice a2 ss.length c2] w' fun e w'' => e = .returned (.bool true) ∧ Below w'.heap.size w' w'') := fun w' h' h2' => eqStringS_same a a2 ss c c2 w' h' h2'
  have z : (n != n) = false := by simp
  go_enter Tryd.func14, Tryd.ntmps14
  have hb0 : Below w.heap.size w ((w.alloc (.cells #[.int .i64 n, .slice a ss.length c] 35)).alloc (.cells #[.int .i64 n, .slice a2 ss.length c2] 35)) := ((Below.refl _ w).alloc (Nat.le_refl _) _).alloc (by simp) _
  go_wp2_with fail
  refine (HT.out _ (h.below hb0) (h2.below hb0)).mono ?_
  rintro e w1 ⟨rfl, hb1⟩
  have hB1 := hb0.trans (hb1.mono hb0.size)
  go_wp2_with fail
  go_ret
  exact ⟨rfl, hB1⟩
set_option maxRecDepth 100000 in
set_option maxHeartbeats 1000000 in
theorem eqNode_same (k v l r : ByteArray) (w : World) :
    Calls Tryd.prog 13 #[.agg #[.string k, .string v, .string l, .string r], .agg #[.string k, .string v, .string l, .string r]] w fun e w' => e = .returned (.bool true) ∧ Below w.heap.size w w' := by
  have y : ∀ t : ByteArray, (t.toList != t.toList) = false := fun t => by simp
  have yk := y k
  have yv := y v
  have yl := y l
  have yr := y r
  go_enter Tryd.func13, Tryd.ntmps13
  go_wp2_with fail
  go_ret
  exact ⟨rfl, ((Below.refl _ w).alloc (Nat.le_refl _) _).alloc (by simp) _⟩
end Go.Proofs.YthopecgcpfhceacDoor
namespace Go.Proofs.YthopecgcpfhceacDoor
open Go.RowKit Go.Proofs.Sha

set_option maxRecDepth 100000 in
set_option maxHeartbeats 2000000 in
theorem law_pf {K : World → Prop} (HH : Hid (HashSaid K)) (keep : Hid (∀ w1 w2, K w1 → Below w1.heap.size w1 w2 → K w2)) (HG : Hid DigSaid) (D : Dec) (n : Int) (HD1 : Hid (∀ wd : Nat, (wd : Int) = n → 1 ≤ wd → wd ≤ 32 → DecSaid 28 wd D)) (HD2 : Hid (∀ wd : Nat, (wd : Int) = n → 1 ≤ wd → wd ≤ 32 → DecSaid 40 wd D))
    (a : Option Addr) (ss : List ByteArray) (c : Nat) (hash : ByteArray) (w : World) (h : RArg a ss w) (hN : ss.length ≤ maxLen) (hM : ∀ j, (ss.getD j ⟨#[]⟩).size ≤ maxLen) (hh : hash.size ≤ maxLen) (hK : K w) :
    Calls Tryd.prog 4 #[.agg #[.int .i64 n, .slice a ss.length c], .string hash] w fun e w' => e = .returned (.bool true) ∧ Below w.heap.size w w' := by
  unfold maxLen at hh
  have hb0 : Below w.heap.size w (w.alloc (.cells #[.int .i64 n, .slice a ss.length c] 31)) := (Below.refl _ _).alloc (Nat.le_refl _) _
  by_cases hx0 : 1048576 < hash.size
  · have z0 : decide ((hash.size : Int) > 1048576) = true := by rw [decide_eq_true_eq]; omega
    have z1 : decide ((1048576 : Int) < (hash.size : Int)) = true := by rw [decide_eq_true_eq]; omega
    go_enter Tryd.func4, Tryd.ntmps4
    go_wp2_with fail
    go_ret
    exact ⟨rfl, hb0⟩
  have z1 : decide ((1048576 : Int) < (hash.size : Int)) = false := by rw [decide_eq_false_iff_not]; omega
  have HS : Hid (∀ w', RArg a ss w' → Calls Tryd.prog 9 #[.agg #[.int .i64 n, .slice a ss.length c], .int .i64 1048576] w' fun e w'' => ∃ r : Int, e = .returned (.int .i64 r) ∧ Hid (0 ≤ r → SmallS ss) ∧ Below w'.heap.size w' w'') := fun w' h' => szPool_any n a ss c w' h' hN hM
  have HT : Hid (SmallS ss → ∀ w', RArg a ss w' → Calls Tryd.prog 11 #[.agg #[.int .i64 n, .slice a ss.length c]] w' fun e w'' => ∃ g, e = .returned (.agg #[.int .i64 n, .slice (some ⟨g, 0, none⟩) ss.length ss.length]) ∧ SArg (some ⟨g, 0, none⟩) ss w'' ∧ Below w'.heap.size w' w'') := fun hs w' h' => toPool_any n a ss c w' (h'.sarg hs) hs
  obtain ⟨⟨⟨xk, xv, xl, xr⟩, xc⟩, hr⟩ : ∃ r, pfR D n ss hash = r := ⟨_, rfl⟩
  have HA : Hid (SmallS ss → ∀ g w', SArg (some ⟨g, 0, none⟩) ss w' → Calls Tryd.prog 10 #[.agg #[.int .i64 n, .slice (some ⟨g, 0, none⟩) ss.length ss.length], .string hash] w' fun e w'' => e = .returned (.tuple #[.agg #[.string xk, .string xv, .string xl, .string xr], .int .i64 xc]) ∧ Below w'.heap.size w' w'') := fun hs g w' hw => by
    have := pf_spec HG D n HD2 _ ss ss.length hash w' hw hs.2
    rw [hr] at this
    exact this
  have HB : Hid (∀ g w', SArg (some ⟨g, 0, none⟩) ss w' → K w' → Calls Tryd.prog 12 #[.agg #[.int .i64 n, .slice (some ⟨g, 0, none⟩) ss.length ss.length], .string hash] w' fun e w'' => e = .returned (.tuple #[.agg #[.string xk, .string xv, .string xl, .string xr], .int .i64 xc]) ∧ Below w'.heap.size w' w'') := fun g w' hw hk => by
    have := pf_impl HH keep D n HD1 _ ss ss.length hash w' hw hk
    rw [hr] at this
    exact this
  have HE : Hid (∀ w', Calls Tryd.prog 13 #[.agg #[.string xk, .string xv, .string xl, .string xr], .agg #[.string xk, .string xv, .string xl, .string xr]] w' fun e w'' => e = .returned (.bool true) ∧ Below w'.heap.size w' w'') := fun w' => eqNode_same xk xv xl xr w'
  have HQ : Hid (∀ g g2 w', SArg (some ⟨g, 0, none⟩) ss w' → SArg (some ⟨g2, 0, none⟩) ss w' → Calls Tryd.prog 14 #[.agg #[.int .i64 n, .slice (some ⟨g, 0, none⟩) ss.length ss.length], .agg #[.int .i64 n, .slice (some ⟨g2, 0, none⟩) ss.length ss.length]] w' fun e w'' => e = .returned (.bool true) ∧ Below w'.heap.size w' w'') := fun g g2 w' hw hw2 => eqPool_same n _ _ ss _ _ w' hw hw2
  clear hr hM hN hx0 hh HH HG HD1 HD2
  go_enter Tryd.func4, Tryd.ntmps4
  go_wp2_with fail
  refine (HS.out _ (h.below hb0)).mono ?_
  rintro e w1 ⟨x1, rfl, HX, hb1⟩
  have hn1 := pblk_below hb1 (heap_alloc_new w (.cells #[.int .i64 n, .slice a ss.length c] 31))
  have hw1 : Below w.heap.size w w1 := hb0.trans (hb1.mono (by simp))
  clear hb1 hb0
  by_cases hx : x1 < 0
  · have z2 : decide (x1 < 0) = true := decide_eq_true hx
    clear hx
    go_wp2_with fail
    go_ret
    exact ⟨rfl, hw1⟩
  · have hs := HX.out (by omega)
    have z2 : decide (x1 < 0) = false := decide_eq_false hx
    have HA' := HA.out hs
    have HT' := HT.out hs
    replace HA' : Hid _ := HA'
    replace HT' : Hid _ := HT'
    clear HA HT HX hx hs HS
    obtain ⟨ga, hga⟩ : ∃ ga, w.heap.size = ga := ⟨_, rfl⟩
    rw [hga] at hn1
    rw [hga]
    have c0 := Lib.cell_of_heap hn1 0
    have c1 := Lib.cell_of_heap hn1 1
    go_wp2_with fail
    refine (HT'.out _ (h.below hw1)).mono ?_
    rintro e w2 ⟨g2, rfl, hi2, hb2⟩
    have hn2 := pblk_below hb2 hn1
    have hw2 := hw1.trans (hb2.mono hw1.size)
    clear hb2 hn1 hw1 c0 c1
    go_wp2_with fail
    refine (HA'.out _ _ hi2).mono ?_
    rintro e w3 ⟨rfl, hb3⟩
    have hn3 := pblk_below hb3 hn2
    have hw3 := hw2.trans (hb3.mono hw2.size)
    clear hb3 hn2 hw2 hi2
    have al3 : Below w3.heap.size w3 (w3.alloc (.cells #[.string xk, .string xv, .string xl, .string xr] 26)) := (Below.refl _ _).alloc (Nat.le_refl _) _
    have hw4 := hw3.trans (al3.mono hw3.size)
    have hn4 := pblk_below al3 hn3
    have nW := heap_alloc_new w3 (.cells #[.string xk, .string xv, .string xl, .string xr] 26)
    obtain ⟨gw, hgw⟩ : ∃ gw, w3.heap.size = gw := ⟨_, rfl⟩
    rw [hgw] at nW
    have c0 := Lib.cell_of_heap hn4 0
    have c1 := Lib.cell_of_heap hn4 1
    clear al3 hn3 hw3
    go_upto_region 8 with fail
    generalize w3.alloc (.cells #[.string xk, .string xv, .string xl, .string xr] 26) = W4 at hw4 hn4 nW c0 c1 ⊢
    clear hgw
    go_wp2_with fail
    refine (HT'.out _ (h.below hw4)).mono ?_
    rintro e w5 ⟨g5, rfl, hi5, hb5⟩
    have hn5 := pblk_below hb5 hn4
    have nW5 := pblk_below hb5 nW
    have hw5 := hw4.trans (hb5.mono hw4.size)
    clear hb5 hn4 hw4 nW c0 c1
    have al5 : Below w5.heap.size w5 (w5.alloc (.cells #[.int .i64 n, .slice (some ⟨g5, 0, none⟩) ss.length ss.length] 35)) := (Below.refl _ _).alloc (Nat.le_refl _) _
    have hw6 := hw5.trans (al5.mono hw5.size)
    have hn6 := pblk_below al5 hn5
    have nW6 := pblk_below al5 nW5
    have hi6 := hi5.below al5
    have nX := heap_alloc_new w5 (.cells #[.int .i64 n, .slice (some ⟨g5, 0, none⟩) ss.length ss.length] 35)
    obtain ⟨gx, hgx⟩ : ∃ gx, w5.heap.size = gx := ⟨_, rfl⟩
    rw [hgx] at nX
    clear al5 hn5 nW5 hw5 hi5
    go_upto_region 9 with fail
    generalize w5.alloc (.cells #[.int .i64 n, .slice (some ⟨g5, 0, none⟩) ss.length ss.length] 35) = W6 at hw6 hn6 nW6 hi6 nX ⊢
    clear hgx
    have d0 := Lib.cell_of_heap nX 0
    have d1 := Lib.cell_of_heap nX 1
    go_wp2_with fail
    refine (HB.out _ _ hi6 (keep.out _ _ hK hw6)).mono ?_
    rintro e w7 ⟨rfl, hb7⟩
    have hn7 := pblk_below hb7 hn6
    have nW7 := pblk_below hb7 nW6
    have nX7 := pblk_below hb7 nX
    have hi7 := hi6.below hb7
    have hw7 := hw6.trans (hb7.mono hw6.size)
    clear hb7 hn6 nW6 nX hi6 hw6 d0 d1
    have al7 : Below w7.heap.size w7 (w7.alloc (.cells #[.string xk, .string xv, .string xl, .string xr] 26)) := (Below.refl _ _).alloc (Nat.le_refl _) _
    have nG := heap_alloc_new w7 (.cells #[.string xk, .string xv, .string xl, .string xr] 26)
    have hn8 := pblk_below al7 hn7
    have nW8 := pblk_below al7 nW7
    have nX8 := pblk_below al7 nX7
    have hi8 := hi7.below al7
    have hw8 := hw7.trans (al7.mono hw7.size)
    clear hn7 nW7 nX7 hi7 hw7 al7
    go_upto_region 10 with fail
    obtain ⟨gg, hgg⟩ : ∃ gg, w7.heap.size = gg := ⟨_, rfl⟩
    rw [hgg] at nG
    generalize w7.alloc (.cells #[.string xk, .string xv, .string xl, .string xr] 26) = W8 at hn8 nW8 nX8 hi8 hw8 nG ⊢
    try rw [hgg]
    clear hgg
    have k0 := Lib.cell_of_heap nG 0
    have k1 := Lib.cell_of_heap nG 1
    have k2 := Lib.cell_of_heap nG 2
    have k3 := Lib.cell_of_heap nG 3
    have j0 := Lib.cell_of_heap nW8 0
    have j1 := Lib.cell_of_heap nW8 1
    have j2 := Lib.cell_of_heap nW8 2
    have j3 := Lib.cell_of_heap nW8 3
    have y : (xc != xc) = false := by simp
    go_wp2_with fail
    refine (HE.out _).mono ?_
    rintro e w9 ⟨rfl, hb9⟩
    have hn9 := pblk_below hb9 hn8
    have nX9 := pblk_below hb9 nX8
    have hi9 := hi8.below hb9
    have hw9 := hw8.trans (hb9.mono hw8.size)
    clear hb9 hn8 nX8 nW8 hi8 hw8 nG k0 k1 k2 k3 j0 j1 j2 j3
    have c0 := Lib.cell_of_heap hn9 0
    have c1 := Lib.cell_of_heap hn9 1
    have d0 := Lib.cell_of_heap nX9 0
    have d1 := Lib.cell_of_heap nX9 1
    have hC : Hid (∀ W : World, Below w9.heap.size w9 W → W.cell? ⟨ga, 0, none⟩ = some (.int .i64 n) ∧ W.cell? ⟨ga, 1, none⟩ = some (.slice a ss.length c) ∧ W.cell? ⟨gx, 0, none⟩ = some (.int .i64 n) ∧ W.cell? ⟨gx, 1, none⟩ = some (.slice (some ⟨g5, 0, none⟩) ss.length ss.length)) := fun W hW => ⟨Lib.cell_of_heap (pblk_below hW hn9) 0, Lib.cell_of_heap (pblk_below hW hn9) 1, Lib.cell_of_heap (pblk_below hW nX9) 0, Lib.cell_of_heap (pblk_below hW nX9) 1⟩
    clear hn9 nX9
    go_upto_region 12 with fail
    go_region_held3 (fun W => W.cell? ⟨ga, 0, none⟩ = some (.int .i64 n) ∧ W.cell? ⟨ga, 1, none⟩ = some (.slice a ss.length c) ∧ W.cell? ⟨gx, 0, none⟩ = some (.int .i64 n) ∧ W.cell? ⟨gx, 1, none⟩ = some (.slice (some ⟨g5, 0, none⟩) ss.length ss.length)) (first | exact ⟨c0, c1, d0, d1⟩ | exact hC.out _ hx10 | exact hC.out _ hx11) (first | (go_at_call 11; refine (HT'.out _ ((h.below hw9).below (Below.refl w9.heap.size w9).drew)).mono ?_; rintro e w10 ⟨g10, rfl, hi10, hb10⟩; have hx10 : Below w9.heap.size w9 w10 := (Below.refl w9.heap.size w9).drew.trans hb10; have hi10' := hi9.below hx10; clear hb10) | (go_at_call 14; refine (HQ.out _ _ _ hi10' hi10).mono ?_; rintro e w11 ⟨rfl, hb11⟩; have hx11 : Below w9.heap.size w9 w11 := hx10.trans (hb11.mono hx10.size)))
    have hw11 := hw9.trans (hx11.mono hw9.size)
    go_wp2_with fail
    go_ret
    exact ⟨rfl, hw11⟩
end Go.Proofs.YthopecgcpfhceacDoor
