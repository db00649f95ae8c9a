import Derived.Test.YtibjhkpgaaapaaaGreatDoorZvbn
import Derived.Test.YtibjhkpgaaapaaaGreatDoorZvbf
namespace Go.Proofs.YtibjhkpgaaapaaaGreatDoor
open Go.RowKit Go.Proofs.Sha

/-- A proof's F by its pointer; none where nothing is shown. -/
def PB (wd n0 : Nat) : PT → Option Addr → World → Prop
  | .f k v l r, p, w => ∃ b lv rv, p = some ⟨b, 0, none⟩ ∧ n0 ≤ b ∧ w.heap[b]? = some (.cells #[.string k, .string v, lv, rv, .string (encS k v (hashP wd l) (hashP wd r) wd)] 151) ∧ PA wd n0 l lv w ∧ PA wd n0 r rv w
  | _, p, _ => p = none
def isF : PT → Bool
  | .f _ _ _ _ => true
  | _ => false
theorem PA.fr {wd n0 base : Nat} {N : Nat → Prop} {w w' : World} {t : PT} {x : Value} (h : PA wd n0 t x w) (f : Fr base N w w') (hN : ∀ q, N q → ∃ cs t, w.heap[q]? = some (.cells cs t) ∧ t ≠ 151) : PA wd n0 t x w' :=
  h.keep (fun b cs _ h3 => f.keep h3 (fun x => by obtain ⟨cs', t', h5, h6⟩ := hN _ x; exact ne_of_type h3 h5 (fun e => h6 e.symm) rfl) (.inl (by decide)))
/-- The pointer in a proof. -/
def ptrV : Value → Option Addr
  | .iface 84 (.pointer p) => p
  | _ => none
theorem PA.pb {wd n0 : Nat} {t : PT} {x : Value} {w : World} (h : PA wd n0 t x w) : PB wd n0 t (ptrV x) w := by
  cases t with
  | e => obtain rfl : x = .iface 211 (.agg #[]) := h; rfl
  | s hh => obtain rfl : x = .iface 216 (.agg #[.string hh]) := h; rfl
  | f k v l r => obtain ⟨b, lv, rv, rfl, h1, h2, h3, h4⟩ := h; exact ⟨b, lv, rv, rfl, h1, h2, h3, h4⟩
theorem asFull_any (wd n0 : Nat) (t : PT) (x : Value) (w : World) (h : PA wd n0 t x w) : Calls Tryz.prog 45 #[x] w fun e w' => e = .returned (.pointer (ptrV x)) ∧ w = w' := by
  cases t with
  | e =>
    obtain rfl : x = .iface 211 (.agg #[]) := h
    have q2 := as84_211
    have hp : Hid (ptrV (.iface 211 (.agg #[])) = none) := rfl
    go_enter Tryz.func45, Tryz.ntmps45
    go_wp2_with fail
    go_ret
    exact ⟨by rw [hp.out]; rfl, rfl⟩
  | s hh =>
    obtain rfl : x = .iface 216 (.agg #[.string hh]) := h
    have q2 := as84_216 hh
    have hp : Hid (ptrV (.iface 216 (.agg #[.string hh])) = none) := rfl
    go_enter Tryz.func45, Tryz.ntmps45
    go_wp2_with fail
    go_ret
    exact ⟨by rw [hp.out]; rfl, rfl⟩
  | f k v l r =>
    obtain ⟨b, lv, rv, rfl, h1, h2, h3, h4⟩ := h
    have q2 := as84_84 b
    have hp : Hid (ptrV (.iface 84 (.pointer (some ⟨b, 0, none⟩))) = some ⟨b, 0, none⟩) := rfl
    clear h2 h3 h4
    go_enter Tryz.func45, Tryz.ntmps45
    go_wp2_with fail
    go_ret
    exact ⟨by rw [hp.out]; rfl, rfl⟩
theorem size84 : (Tryz.prog.info? 151).map (·.size) = some 5 := by kernel_rfl
theorem ptr_eqlP (a b : Option Addr) (w : World) (ha : Ptr a w) (hb : Ptr b w) : (binOp .eql 84 (.pointer a) (.pointer b)).run Tryz.prog w = .ok (.bool (decide (a = b))) w := by
  obtain ⟨j, h1, h2⟩ := Option.map_eq_some_iff.1 size84
  exact run_eql_ptr 84 151 j Tryz.underlying84 h1 (by rw [h2]; decide) a b w ha hb
theorem isFull_any (wd n0 : Nat) (t : PT) (p : Option Addr) (w : World) (h : PB wd n0 t p w) : Calls Tryz.prog 99 #[.pointer p] w fun e w' => e = .returned (.bool (isF t)) ∧ w = w' := by
  have hq : Ptr p w := by
    cases t with
    | f k v l r => obtain ⟨b, lv, rv, rfl, _, h2, _⟩ := h; exact .inr ⟨b, _, _, rfl, h2⟩
    | e => exact .inl h
    | s _ => exact .inl h
  have hb : decide (p = none) = !isF t := by
    cases t with
    | f k v l r => obtain ⟨b, lv, rv, rfl, _, h2, _⟩ := h; rfl
    | e => obtain rfl : p = none := h; rfl
    | s _ => obtain rfl : p = none := h; rfl
  have q : (binOp .neq 84 (.pointer p) (.pointer none)).run Tryz.prog w = .ok (.bool (isF t)) w := by
    have := ptr_eqlP p none w hq (.inl rfl)
    rw [hb] at this
    simp only [binOp] at this ⊢
    cases hq : (Op.equal 84 (.pointer p) (.pointer none)).run Tryz.prog w <;> simp_all
  clear hq hb h
  go_enter Tryz.func99, Tryz.ntmps99
  go_wp2_with fail
  go_ret
  exact ⟨rfl, rfl⟩
theorem subsP_any (wd n0 b : Nat) (l r : PT) (lv rv x y z : Value) (w : World) (hB : w.heap[b]? = some (.cells #[x, y, lv, rv, z] 151)) (hl : PA wd n0 l lv w) (hr : PA wd n0 r rv w) :
    Calls Tryz.prog 222 #[.pointer (some ⟨b, 0, none⟩)] w fun e w' => e = .returned (.tuple #[.pointer (ptrV lv), .pointer (ptrV rv)]) ∧ Below w.heap.size w w' := by
  have HL : Hid (∀ w', Below w.heap.size w w' → Calls Tryz.prog 45 #[lv] w' fun e w'' => e = .returned (.pointer (ptrV lv)) ∧ w' = w'') := fun w' hb => asFull_any wd n0 l lv w' (hl.below hb)
  have HR : Hid (∀ w', Below w.heap.size w w' → Calls Tryz.prog 45 #[rv] w' fun e w'' => e = .returned (.pointer (ptrV rv)) ∧ w' = w'') := fun w' hb => asFull_any wd n0 r rv w' (hr.below hb)
  generalize ptrV lv = pl at HL ⊢
  generalize ptrV rv = pr at HR ⊢
  have c2 : w.cell? ⟨b, 2, none⟩ = some lv := Lib.cell_of_heap hB 2
  have c3 : w.cell? ⟨b, 3, none⟩ = some rv := Lib.cell_of_heap hB 3
  have hd : Below w.heap.size w w.drew := (Below.refl _ _).drew
  clear hl hr hB
  go_enter Tryz.func222, Tryz.ntmps222
  go_wp2_with fail
  go_region_held3 (fun W => W.cell? ⟨b, 2, none⟩ = some lv ∧ W.cell? ⟨b, 3, none⟩ = some rv) (exact ⟨c2, c3⟩) (first | (go_at_call_of 45 lv; refine (HL.out w.drew hd).mono ?_; rintro e w1 ⟨rfl, rfl⟩) | (go_at_call_of 45 rv; refine (HR.out w.drew hd).mono ?_; rintro e w2 ⟨rfl, rfl⟩))
  go_wp2_with fail
  go_ret2
  exact ⟨rfl, hd⟩
/-- What is shown at a node between its subtrees. -/
theorem sh_no (p : Option Addr) (i : Int) (hi' : i = 0 ∨ i = 2) (gb c : Nat) (lo hi : ByteArray) (w : World) (h : w.heap[gb]? = some (.cells #[.string lo, .string hi] 75)) : Calls Tryz.prog 100 #[.pointer p, .int .i64 i, .pointer (some ⟨gb, 0, none⟩), .pointer (some ⟨c, 0, none⟩)] w fun e w' => e = .returned (.bool true) ∧ Below w.heap.size w w' := by
  have hz : (i == 1) = false := by rcases hi' with rfl | rfl <;> rfl
  have c0 : w.cell? ⟨gb, 0, none⟩ = some (.string lo) := Lib.cell_of_heap h 0
  have c1 : w.cell? ⟨gb, 1, none⟩ = some (.string hi) := Lib.cell_of_heap h 1
  go_enter Tryz.func100, Tryz.ntmps100
  go_wp2_with fail
  go_quiet (first | fail)
  go_wp2_with fail
  go_ret
  exact ⟨rfl, draws_below _ (Below.refl _ _)⟩
theorem sh_out (b : Nat) (k v : ByteArray) (x y z : Value) (gb c : Nat) (lo hi : ByteArray) (w : World) (hB : w.heap[b]? = some (.cells #[.string k, .string v, x, y, z] 151)) (h : w.heap[gb]? = some (.cells #[.string lo, .string hi] 75)) (hn : hasW lo hi k = false) : Calls Tryz.prog 100 #[.pointer (some ⟨b, 0, none⟩), .int .i64 1, .pointer (some ⟨gb, 0, none⟩), .pointer (some ⟨c, 0, none⟩)] w fun e w' => e = .returned (.bool true) ∧ Below w.heap.size w w' := by
  have c0 : w.cell? ⟨gb, 0, none⟩ = some (.string lo) := Lib.cell_of_heap h 0
  have c1 : w.cell? ⟨gb, 1, none⟩ = some (.string hi) := Lib.cell_of_heap h 1
  have c4 : w.cell? ⟨b, 0, none⟩ = some (.string k) := Lib.cell_of_heap hB 0
  have HC := fun w' => has_any lo hi k w'
  rw [hn] at HC
  go_enter Tryz.func100, Tryz.ntmps100
  go_wp2_with fail
  go_region_held3 (fun W => W.cell? ⟨b, 0, none⟩ = some (.string k) ∧ W.cell? ⟨gb, 0, none⟩ = some (.string lo) ∧ W.cell? ⟨gb, 1, none⟩ = some (.string hi)) (first | exact ⟨c4, c0, c1⟩ | exact ⟨Lib.cell_of_heap hB2 0, Lib.cell_of_heap h2 0, Lib.cell_of_heap h2 1⟩) (first | (go_at_call 101; refine (HC _).mono ?_; rintro e w2 ⟨rfl, hb2⟩; have hB2 := (hb2.block b (Array.getElem?_eq_some_iff.1 hB).1).trans hB; have h2 := (hb2.block gb (Array.getElem?_eq_some_iff.1 h).1).trans h))
  go_wp2_with fail
  go_ret
  exact ⟨rfl, (Below.refl w.heap.size w).drew.trans hb2⟩
set_option maxRecDepth 100000 in
set_option maxHeartbeats 1000000 in
theorem sh_in (b : Nat) (k v : ByteArray) (x y z : Value) (gb c base : Nat) (lo hi : ByteArray) (ps : List PairT) (a : Option Addr) (cap : Nat) (w : World) (hB : w.heap[b]? = some (.cells #[.string k, .string v, x, y, z] 151)) (h : w.heap[gb]? = some (.cells #[.string lo, .string hi] 75)) (hn : hasW lo hi k = true) (hL : LS c base ps a cap w) (hlen : ps.length ≤ 100000) : Calls Tryz.prog 100 #[.pointer (some ⟨b, 0, none⟩), .int .i64 1, .pointer (some ⟨gb, 0, none⟩), .pointer (some ⟨c, 0, none⟩)] w fun e w' => e = .returned (.bool true) ∧ (∃ a' cap', LS c base (ps ++ [(k, v)]) a' cap' w') ∧ Fr base (fun q => q = c) w w' := by
  have c0 : w.cell? ⟨gb, 0, none⟩ = some (.string lo) := Lib.cell_of_heap h 0
  have c1 : w.cell? ⟨gb, 1, none⟩ = some (.string hi) := Lib.cell_of_heap h 1
  have c4 : w.cell? ⟨b, 0, none⟩ = some (.string k) := Lib.cell_of_heap hB 0
  have HC := fun w' => has_any lo hi k w'
  rw [hn] at HC
  go_enter Tryz.func100, Tryz.ntmps100
  go_wp2_with fail
  go_region_held3 (fun W => W.cell? ⟨b, 0, none⟩ = some (.string k) ∧ W.cell? ⟨gb, 0, none⟩ = some (.string lo) ∧ W.cell? ⟨gb, 1, none⟩ = some (.string hi)) (first | exact ⟨c4, c0, c1⟩ | exact ⟨Lib.cell_of_heap hB2 0, Lib.cell_of_heap h2 0, Lib.cell_of_heap h2 1⟩) (first | (go_at_call 101; refine (HC _).mono ?_; rintro e w2 ⟨rfl, hb2⟩; have hB2 := (hb2.block b (Array.getElem?_eq_some_iff.1 hB).1).trans hB; have h2 := (hb2.block gb (Array.getElem?_eq_some_iff.1 h).1).trans h))
  have hb2' : Below w.heap.size w w2 := (Below.refl w.heap.size w).drew.trans hb2
  have hL2 := hL.below hb2'
  obtain ⟨i0, hi0, hz0, hz1, hz2⟩ := info_parts2 info37
  clear hL h c0 c1 c4 HC hn h2
  rename_i hHeld0; clear hHeld0
  obtain ⟨n, hnl⟩ : ∃ n, ps.length = n := ⟨_, rfl⟩
  have hfl : Hid (flatP (ps ++ [(k, v)]) = flatP ps ++ [.string k, .string v]) := flatP_app _ _
  have hln : Hid ((ps ++ [(k, v)]).length = n + 1) := by show _ = _; rw [List.length_append, hnl]; rfl
  have own := hL2.own
  have hblk := hL2.blk
  have hbs := hL2.hb
  rw [hnl] at hlen own hblk
  have hclt := (Array.getElem?_eq_some_iff.1 hblk).1
  have hblt := (Array.getElem?_eq_some_iff.1 hB2).1
  have cc : w2.cell? ⟨c, 0, none⟩ = some (.slice a n cap) := Lib.cell_of_heap hblk 0
  have d0 : w2.cell? ⟨b, 0, none⟩ = some (.string k) := Lib.cell_of_heap hB2 0
  have d1 : w2.cell? ⟨b, 1, none⟩ = some (.string v) := Lib.cell_of_heap hB2 1
  have hca : ∀ o, (w2.alloc o).cell? ⟨c, 0, none⟩ = some (.slice a n cap) := fun o => (World.cell?_alloc_lt _ _ _ (by show c < _; omega)).trans cc
  have hcb : ∀ o, (w2.alloc o).cell? ⟨b, 0, none⟩ = some (.string k) ∧ (w2.alloc o).cell? ⟨b, 1, none⟩ = some (.string v) := fun o => ⟨(World.cell?_alloc_lt _ _ _ (by show b < _; omega)).trans d0, (World.cell?_alloc_lt _ _ _ (by show b < _; omega)).trans d1⟩
  have hbB : Below w2.heap.size w2 (w2.drew.alloc (.cells #[.string k, .string v] 81)) := (Below.refl _ _).drew.alloc (Nat.le_refl _) _
  clear hL2 hB hB2 hb2
  go_upto_region 2 with fail
  go_region_law ((refine step_append_lies _ (by rfl) (.tmp 18) (.tmp 23) 35 (by rfl) base 81 i0 (.agg #[.string ⟨#[]⟩, .string ⟨#[]⟩]) 2 32 Tryz.underlying35 hi0 hz0 hz1 hz2 (by rfl) (by decide) (.slice a n cap) n (flatP ps) (by rfl) (own.alloc _) ⟨w2.heap.size, 0, none⟩ 1 1 [.string k, .string v] (by rfl) (by rfl) (World.news_of_block (heap_alloc_new w2.drew _)) (by simp [Value.oneCell']) (by decide) (by unfold maxLen; omega) (by omega) (by simp; omega) (w2.heap.size + 1) (by simp) ?_; intro g4 c4 w4 hown4 hgrow4 hat4 hlt4; have hlb4 := (hgrow4.block c (by simp; omega) (fun e => by obtain ⟨_, _, cur, h9⟩ := own2_cells own e.symm; rw [hblk] at h9; simp at h9)).trans ((hbB.block c (by omega)).trans hblk); have k1 := Lib.cell_of_heap hlb4 0; have f1 : w4.frozen? ⟨c, 0, none⟩ = false := by rw [World.frozen?, hlb4]; rfl))
  all_goals
    have hs4 := hgrow4.size
    have hb4 : base ≤ w4.heap.size := by simp at hs4; omega
    have hbd : Below w2.heap.size w2 ((w2.alloc (.cells #[.string k, .string v] 81)).drew) := ((Below.refl _ _).alloc (Nat.le_refl _) _).drew
    have hu : Fr base (fun q => q = c) w (w4.setCell ⟨c, 0, none⟩ (.slice (some ⟨g4, 0, none⟩) (n + 1) c4)) := ((Fr.of_below hb2').trans ((Fr.of_below hbd).trans (Fr.of_grown hgrow4 (own.alloc _)) (fun _ _ q => q)) (fun _ _ q => q)).setCell c 0 _ (.inl rfl)
    go_wp2_with fail
    go_ret
    refine ⟨rfl, ⟨some ⟨g4, 0, none⟩, c4, by rw [hln.out]; exact heap_setCell_same w4 c 0 _ 35 _ hlb4, by rw [hln.out, hfl.out]; exact own2_kept hown4 (fun g hv hg => Below.heap_setCell _ _ _ _ (by show g ≠ c; intro e; subst e; obtain ⟨_, _, cur, h9⟩ := own2_cells hown4 hv; rw [hlb4] at h9; simp at h9)), Nat.le_trans hb4 (Below.setCell (p := ⟨c, 0, none⟩) (Below.refl c w4) (Nat.le_refl c) _).size⟩, hu⟩
theorem sh_any (b : Nat) (k v : ByteArray) (x y z : Value) (gb c base : Nat) (lo hi : ByteArray) (ps : List PairT) (a : Option Addr) (cap : Nat) (w : World) (hB : w.heap[b]? = some (.cells #[.string k, .string v, x, y, z] 151)) (h : w.heap[gb]? = some (.cells #[.string lo, .string hi] 75)) (hL : LS c base ps a cap w) (hlen : ps.length ≤ 100000) : Calls Tryz.prog 100 #[.pointer (some ⟨b, 0, none⟩), .int .i64 1, .pointer (some ⟨gb, 0, none⟩), .pointer (some ⟨c, 0, none⟩)] w fun e w' => e = .returned (.bool true) ∧ (∃ a' cap', LS c base (ps ++ (if hasW lo hi k = true then [(k, v)] else [])) a' cap' w') ∧ Fr base (fun q => q = c) w w' := by
  cases hh : hasW lo hi k with
  | true => rw [if_pos rfl]; exact sh_in b k v x y z gb c base lo hi ps a cap w hB h hh hL hlen
  | false =>
    rw [if_neg (by decide), List.append_nil]
    refine (sh_out b k v x y z gb c lo hi w hB h hh).mono ?_
    rintro e w' ⟨rfl, hb⟩
    exact ⟨rfl, ⟨a, cap, hL.below hb⟩, Fr.of_below hb⟩
end Go.Proofs.YtibjhkpgaaapaaaGreatDoor
