import Derived.Test.YtmfhfehemoeeeaaGreatDoorZsbs
import Derived.Test.YtmfhfehemoeeeaaGreatDoorZsbr
import Derived.Test.YtmfhfehemoeeeaaGreatDoorZsbn
import Derived.Test.YtmfhfehemoeeeaaGreatDoorZsan
import Derived.Test.YtmfhfehemoeeeaaGreatDoorZsag
set_option maxRecDepth 100000
set_option maxHeartbeats 1000000
namespace Go.Proofs.YtmfhfehemoeeeaaGreatDoor
open Go.RowKit Go.Proofs.Sha

theorem pick_any (b : Option Addr) (ys : List Nat) (c i : Nat) (w : World) (hY : Code8 ys) (hB : BL b ys w) (hi : i ≤ 100000) :
    Calls Tryz.prog 6 #[.slice b ys.length c, .int .i64 (i : Int)] w fun e w' => ∃ v : Nat, v ≤ 100000 ∧ e = .returned (.int .i64 (v : Int)) ∧ Below w.heap.size w w' := by
  by_cases h0 : ys.length = 0
  · have z0 : ((ys.length : Int) == 0) = true := by rw [h0]; rfl
    generalize ys.length = L at h0 z0
    clear h0
    go_enter Tryz.func6, Tryz.ntmps6
    go_wp2_with fail
    go_ret
    exact ⟨i, hi, rfl, Below.refl _ _⟩
  · have z0 : ((ys.length : Int) == 0) = false := by rw [beq_eq_false_iff_ne]; omega
    obtain ⟨b1, off, rfl, hbl, hc⟩ := hB.at_ (by omega)
    have hm : i % ys.length < ys.length := Nat.mod_lt _ (by omega)
    have ym : (i : Int).tmod (ys.length : Int) = ((i % ys.length : Nat) : Int) := by rw [Int.tmod_eq_emod_of_nonneg (by omega)]; exact (Int.natCast_emod _ _).symm
    have hc1 := hc _ hm
    have hv := hY.lt (i % ys.length)
    have yn : ¬ (ys.length = 0) := h0
    generalize ys.getD (i % ys.length) 0 = v at hc1 hv
    generalize i % ys.length = k at hc1 ym hm
    have hl := hY.le
    generalize ys.length = L at *
    have hx0 : (0 : Int) ≤ (k : Int) := Int.natCast_nonneg _
    have hx1 : (k : Int) < (L : Int) := by omega
    have yv : IntKind.i64.wrap (v : Int) = (v : Int) := wrap_i64_in _ (by omega) (by omega)
    clear hc hB
    go_enter Tryz.func6, Tryz.ntmps6
    go_wp2_with fail
    go_ret
    exact ⟨v, by omega, rfl, Below.refl _ _⟩
theorem coll_any (cd n' n : Int) (a : Option Addr) (M c : Nat) (R x' y' dg : ByteArray) (w : World) (hxy : x' ≠ y')
    (hd1 : ∀ w', Calls Tryz.prog 28 #[.string x', .int .i64 n] w' fun e w'' => e = .returned (.string dg) ∧ Below w'.heap.size w' w'') (hd2 : ∀ w', Calls Tryz.prog 28 #[.string y', .int .i64 n] w' fun e w'' => e = .returned (.string dg) ∧ Below w'.heap.size w' w'') :
    Calls Tryz.prog 9 #[.agg #[.int .i64 cd, .int .i64 n', .slice a M c, .string R, .string x', .string y'], .int .i64 n] w fun e w' => e = .returned (.bool true) ∧ Below w.heap.size w w' := by
  have J1 : Hid (∀ w', Calls Tryz.prog 28 #[.string x', .int .i64 n] w' fun e w'' => e = .returned (.string dg) ∧ Below w'.heap.size w' w'') := hd1
  have J2 : Hid (∀ w', Calls Tryz.prog 28 #[.string y', .int .i64 n] w' fun e w'' => e = .returned (.string dg) ∧ Below w'.heap.size w' w'') := hd2
  clear hd1 hd2
  have zxz : (x'.toList == y'.toList) = false := by rw [ba_eq, decide_eq_false hxy]
  have zd : (dg.toList == dg.toList) = true := by rw [ba_eq, decide_eq_true rfl]
  clear hxy
  have al : Below w.heap.size w (w.alloc (.cells #[.int .i64 cd, .int .i64 n', .slice a M c, .string R, .string x', .string y'] 34)) := (Below.refl _ _).alloc (Nat.le_refl _) _
  have nS := heap_alloc_new w (.cells #[.int .i64 cd, .int .i64 n', .slice a M c, .string R, .string x', .string y'] 34)
  go_enter Tryz.func9, Tryz.ntmps9
  go_upto_region 1 with fail
  generalize w.alloc (.cells #[.int .i64 cd, .int .i64 n', .slice a M c, .string R, .string x', .string y'] 34) = wr at al nS ⊢
  obtain ⟨gs, hgs⟩ : ∃ g, w.heap.size = g := ⟨_, rfl⟩
  rw [hgs] at nS
  try rw [hgs]
  have s4 := Lib.cell_of_heap nS 4
  have s5 := Lib.cell_of_heap nS 5
  have hgsl := (Array.getElem?_eq_some_iff.1 nS).1
  have hdr : Below wr.heap.size wr wr.drew := draws_below 1 (Below.refl _ _)
  go_region_held3 (fun W => W.cell? ⟨gs, 4, none⟩ = some (.string x') ∧ W.cell? ⟨gs, 5, none⟩ = some (.string y')) (first | exact ⟨s4, s5⟩ | exact ⟨r4, r5⟩ | exact ⟨t4, t5⟩) (first | (go_at_call_of 28 (Value.string x'); refine (J1.out _).mono ?_; rintro e w8 ⟨rfl, hb8⟩; have hb8' : Below wr.heap.size wr w8 := hdr.trans (hb8.mono hdr.size); have r4 := (hb8'.cell (p := ⟨gs, 4, none⟩) hgsl).trans s4; have r5 := (hb8'.cell (p := ⟨gs, 5, none⟩) hgsl).trans s5) | (go_at_call_of 28 (Value.string y'); refine (J2.out _).mono ?_; rintro e w9 ⟨rfl, hb9⟩; have hb9' : Below wr.heap.size wr w9 := hb8'.trans (hb9.mono hb8'.size); have t4 := (hb9'.cell (p := ⟨gs, 4, none⟩) hgsl).trans s4; have t5 := (hb9'.cell (p := ⟨gs, 5, none⟩) hgsl).trans s5))
  go_wp2_with fail
  go_ret
  exact ⟨rfl, hgs ▸ al.trans (hb9'.mono al.size)⟩
theorem wint4 (b : Nat) (v : Nat) (l : List UInt8) (w : World) (h : Bld b l w) (hl : l.length ≤ 90000) (hv : v ≤ 9223372036854775807) :
    Calls Tryz.prog 154 #[.pointer (some ⟨b, 0, none⟩), .iface 197 (.agg #[.int .i64 4, .bool true]), .int .i64 (v : Int)] w fun e w' => e = .returned (.tuple #[]) ∧ Put b (l ++ numTo 4 true v 4) w w' :=
  wint 4 true b v l w (by omega) (by omega) h hl hv
theorem wsized1 (b : Nat) (s : ByteArray) (l : List UInt8) (w : World) (h : Bld b l w) (hl : l.length + s.size ≤ 80000) :
    Calls Tryz.prog 135 #[.pointer (some ⟨b, 0, none⟩), .iface 206 (.agg #[.int .i64 1, .bool false]), .string s] w fun e w' => e = .returned (.tuple #[]) ∧ Put b (l ++ [UInt8.ofNat s.size] ++ s.data.toList) w w' := by
  have := wsized 1 false b s l w (by omega) (by omega) h hl
  have e : numTo 1 false s.size 1 = [UInt8.ofNat s.size] := by simp [numTo, numByte]
  rw [e] at this
  exact this

theorem commit_put (b : Nat) (v : Nat) (root : ByteArray) (x0 x1 x4 : Value) (l : List UInt8) (w : World) (h : Bld b l w) (hl : l.length ≤ 1000) (hv : v ≤ 1000000) (hr : root.size ≤ 32) :
    Calls Tryz.prog 201 #[.agg #[], .pointer (some ⟨b, 0, none⟩), .agg #[x0, x1, .int .i64 (v : Int), .string root, x4]] w fun e w' => e = .returned (.tuple #[]) ∧ Put b (l ++ numTo 4 true v 4 ++ [UInt8.ofNat root.size] ++ root.data.toList) w w' := by
  obtain ⟨m, hm⟩ : ∃ m, l ++ numTo 4 true v 4 = m := ⟨_, rfl⟩
  have hm2 : m.length ≤ 2000 := by rw [← hm, List.length_append, numTo_length]; omega
  have HI : Hid (∀ w', Bld b l w' → Calls Tryz.prog 154 #[.pointer (some ⟨b, 0, none⟩), .iface 197 (.agg #[.int .i64 4, .bool true]), .int .i64 (v : Int)] w' fun e w'' => e = .returned (.tuple #[]) ∧ Put b m w' w'') := fun w' h' => by rw [← hm]; exact wint4 b v l w' h' (by omega) (by omega)
  rw [hm]
  clear hm
  have hlt := h.lt
  go_enter Tryz.func201, Tryz.ntmps201
  go_wp2_with fail
  obtain ⟨w1, hw1⟩ : ∃ w1, w1 = (w.alloc (.cells #[] 219)).alloc (.cells #[x0, x1, .int .i64 (v : Int), .string root, x4] 66) := ⟨_, rfl⟩
  have hp1 : Put b l w w1 := by rw [hw1]; exact ((Put.refl h).alloc _).alloc _
  have hn : w1.heap[w.heap.size + 1]? = some (.cells #[x0, x1, .int .i64 (v : Int), .string root, x4] 66) := by
    rw [hw1, show w.heap.size + 1 = (w.alloc (.cells #[] 219)).heap.size by simp]; exact heap_alloc_new _ _
  rw [← hw1]
  clear hw1
  have c2 : w1.cell? ⟨w.heap.size + 1, 2, none⟩ = some (.int .i64 (v : Int)) := Lib.cell_of_heap hn 2
  go_region_held3 (fun W => W.cell? ⟨w.heap.size + 1, 2, none⟩ = some (.int .i64 (v : Int)))
    (first | exact c2 | exact Lib.cell_of_heap hnA 2 | exact Lib.cell_of_heap hnB 2)
    (first | (go_at_call 138; refine (recNum_any _).mono ?_; rintro e wA ⟨rfl, hbA'⟩; have hbA : Below w1.heap.size w1 wA := (Below.refl w1.heap.size w1).drew.trans hbA'; have hnA := below_cells hbA hn) | (go_at_call 154; refine (HI.out _ (hp1.1.below hbA)).mono ?_; rintro e wB ⟨rfl, hpB⟩; have hnB := hpB.cells hnA (by omega) (by decide); have c3 := Lib.cell_of_heap hnB 3))
  go_wp2_with (first | (go_at_call 135; refine (wsized1 b root m _ hpB.1 (by omega)).mono ?_; rintro e wC ⟨rfl, hpC⟩))
  go_end0
  exact ⟨rfl, ((hp1.below hbA).trans hpB).trans hpC⟩
theorem wR77 (v0 v1 v2 v3 v4 : Value) (b : Nat) (l m : List UInt8) (w : World) (h : Bld b l w)
    (HC : Hid (∀ w', Bld b l w' → Calls Tryz.prog 201 #[.agg #[], .pointer (some ⟨b, 0, none⟩), .agg #[v0, v1, v2, v3, v4]] w' fun e w'' => e = .returned (.tuple #[]) ∧ Put b m w' w'')) :
    Calls Tryz.prog 57 #[.pointer (some ⟨b, 0, none⟩), .iface 219 (.agg #[]), .agg #[v0, v1, v2, v3, v4]] w fun e w' => e = .returned (.tuple #[]) ∧ Put b m w w' := by
  have hmt : ∀ w : World, (method 356 219 (.agg #[]) "loop.example/s03048/impl.put").run Tryz.prog w = .ok (201, .agg #[]) w := fun _ => by kernel_rfl
  go_enter Tryz.func57, Tryz.ntmps57
  go_wp2_with (first | (go_at_call 201; refine (HC.out _ (h.alloc _)).mono ?_; rintro e w2 ⟨rfl, hp2⟩))
  go_end0
  exact ⟨rfl, ((Put.refl h).alloc _).trans hp2⟩

theorem wR75 (v0 v1 v2 v3 v4 : Value) (b : Nat) (l m : List UInt8) (w : World) (h : Bld b l w)
    (HC : Hid (∀ w', Bld b l w' → Calls Tryz.prog 199 #[.agg #[.iface 219 (.agg #[])], .pointer (some ⟨b, 0, none⟩), .agg #[v0, v1, v2, v3, v4]] w' fun e w'' => e = .returned (.tuple #[]) ∧ Put b m w' w'')) :
    Calls Tryz.prog 57 #[.pointer (some ⟨b, 0, none⟩), .iface 215 (.agg #[.iface 219 (.agg #[])]), .agg #[v0, v1, v2, v3, v4]] w fun e w' => e = .returned (.tuple #[]) ∧ Put b m w w' := by
  have hmt : ∀ w : World, (method 356 215 (.agg #[.iface 219 (.agg #[])]) "loop.example/s03048/impl.put").run Tryz.prog w = .ok (199, .agg #[.iface 219 (.agg #[])]) w := fun _ => by kernel_rfl
  go_enter Tryz.func57, Tryz.ntmps57
  go_wp2_with (first | (go_at_call 199; refine (HC.out _ (h.alloc _)).mono ?_; rintro e w2 ⟨rfl, hp2⟩))
  go_end0
  exact ⟨rfl, ((Put.refl h).alloc _).trans hp2⟩

theorem wR34 (v0 v1 v2 v3 v4 : Value) (b : Nat) (l m : List UInt8) (w : World) (h : Bld b l w)
    (HC : Hid (∀ w', Bld b l w' → Calls Tryz.prog 144 #[.agg #[], .pointer (some ⟨b, 0, none⟩), .agg #[v0, v1, v2, v3, v4]] w' fun e w'' => e = .returned (.tuple #[]) ∧ Put b m w' w'')) :
    Calls Tryz.prog 57 #[.pointer (some ⟨b, 0, none⟩), .iface 70 (.agg #[]), .agg #[v0, v1, v2, v3, v4]] w fun e w' => e = .returned (.tuple #[]) ∧ Put b m w w' := by
  have hmt : ∀ w : World, (method 356 70 (.agg #[]) "loop.example/s03048/impl.put").run Tryz.prog w = .ok (144, .agg #[]) w := fun _ => by kernel_rfl
  go_enter Tryz.func57, Tryz.ntmps57
  go_wp2_with (first | (go_at_call 144; refine (HC.out _ (h.alloc _)).mono ?_; rintro e w2 ⟨rfl, hp2⟩))
  go_end0
  exact ⟨rfl, ((Put.refl h).alloc _).trans hp2⟩

theorem wR33 (v0 v1 v2 v3 v4 : Value) (b : Nat) (l m : List UInt8) (w : World) (h : Bld b l w)
    (HC : Hid (∀ w', Bld b l w' → Calls Tryz.prog 131 #[.agg #[], .pointer (some ⟨b, 0, none⟩), .agg #[v0, v1, v2, v3, v4]] w' fun e w'' => e = .returned (.tuple #[]) ∧ Put b m w' w'')) :
    Calls Tryz.prog 57 #[.pointer (some ⟨b, 0, none⟩), .iface 68 (.agg #[]), .agg #[v0, v1, v2, v3, v4]] w fun e w' => e = .returned (.tuple #[]) ∧ Put b m w w' := by
  have hmt : ∀ w : World, (method 356 68 (.agg #[]) "loop.example/s03048/impl.put").run Tryz.prog w = .ok (131, .agg #[]) w := fun _ => by kernel_rfl
  go_enter Tryz.func57, Tryz.ntmps57
  go_wp2_with (first | (go_at_call 131; refine (HC.out _ (h.alloc _)).mono ?_; rintro e w2 ⟨rfl, hp2⟩))
  go_end0
  exact ⟨rfl, ((Put.refl h).alloc _).trans hp2⟩

theorem padR_put (b : Nat) (v : Nat) (root : ByteArray) (x0 x1 x4 : Value) (l : List UInt8) (w : World) (h : Bld b l w) (hl : l.length ≤ 1000) (hv : v ≤ 1000000) (hr : root.size ≤ 32) :
    Calls Tryz.prog 199 #[.agg #[.iface 219 (.agg #[])], .pointer (some ⟨b, 0, none⟩), .agg #[x0, x1, .int .i64 (v : Int), .string root, x4]] w fun e w' => e = .returned (.tuple #[]) ∧ Put b (pad63 (l ++ numTo 4 true v 4 ++ [UInt8.ofNat root.size] ++ root.data.toList)) w w' := by
  obtain ⟨m, hm⟩ : ∃ m, l ++ numTo 4 true v 4 ++ [UInt8.ofNat root.size] ++ root.data.toList = m := ⟨_, rfl⟩
  have hm2 : m.length ≤ 71000 := by rw [← hm, List.length_append, List.length_append, List.length_append, numTo_length]; show l.length + 4 + 1 + root.size ≤ _; omega
  have HW : Hid (∀ w', Bld b l w' → Calls Tryz.prog 57 #[.pointer (some ⟨b, 0, none⟩), .iface 219 (.agg #[]), .agg #[x0, x1, .int .i64 (v : Int), .string root, x4]] w' fun e w'' => e = .returned (.tuple #[]) ∧ Put b m w' w'') := by
    intro w' h'
    refine wR77 _ _ _ _ _ b l m w' h' ?_
    intro w'' h''
    rw [← hm]
    exact commit_put b v root x0 x1 x4 l w'' h'' hl hv hr
  rw [hm]
  clear hm
  obtain ⟨g, hg⟩ : ∃ g, gap m.length = g := ⟨_, rfl⟩
  have g63 : g < 63 := by rw [← hg]; exact gap_lt _
  have HM : Hid (∀ w', Calls Tryz.prog 159 #[.int .i64 (m.length : Int)] w' fun e w'' => e = .returned (.int .i64 (g : Int)) ∧ w' = w'') := by
    intro w'
    rw [← hg]
    exact missing_any _ _ (by omega)
  have HP : Hid (pad63 m = m ++ List.replicate g 0) := by show _ = _; rw [← hg]; rfl
  obtain ⟨q, hq⟩ : ∃ q, pad63 m = q := ⟨_, rfl⟩
  rw [hq] at HP ⊢
  clear hg hq
  go_enter Tryz.func199, Tryz.ntmps199
  go_wp2_with (first | (go_at_call 57; refine (HW.out _ ((h.alloc _).alloc _)).mono ?_; rintro e w2 ⟨rfl, hp2⟩) | (go_at_call 160; refine (len_any b m _ hp2.1).mono ?_; rintro e w3 ⟨rfl, rfl⟩) | (go_at_call 159; refine (HM.out _).mono ?_; rintro e w4 ⟨rfl, rfl⟩) | (go_at_call 158; refine (repeat_any g _ (by omega)).mono ?_; rintro e w5 ⟨t, rfl, ht, HT, hb5⟩) | (go_at_call 139; refine (ws_any b m t _ (hp2.1.below hb5) (by omega)).mono ?_; rintro e w6 ⟨rfl, hp6⟩))
  go_end0
  refine ⟨rfl, ?_⟩
  rw [HT.out, ← HP.out] at hp6
  exact ((((Put.refl h).alloc _).alloc _).trans (hp2.below hb5)).trans hp6

theorem commitRec_put (b : Nat) (v : Nat) (root : ByteArray) (x0 x1 x4 : Value) (l : List UInt8) (w : World) (h : Bld b l w) (hl : l.length ≤ 1000) (hv : v ≤ 1000000) (hr : root.size ≤ 32) :
    Calls Tryz.prog 144 #[.agg #[], .pointer (some ⟨b, 0, none⟩), .agg #[x0, x1, .int .i64 (v : Int), .string root, x4]] w fun e w' => e = .returned (.tuple #[]) ∧ Put b (l ++ pad63 (numTo 4 true v 4 ++ [UInt8.ofNat root.size] ++ root.data.toList) ++ [67]) w w' := by
  obtain ⟨m, hm⟩ : ∃ m, pad63 (numTo 4 true v 4 ++ [UInt8.ofNat root.size] ++ root.data.toList) = m := ⟨_, rfl⟩
  have hm2 : m.length ≤ 1000 := by
    rw [← hm, pad63_length]
    have := gap_lt (numTo 4 true v 4 ++ [UInt8.ofNat root.size] ++ root.data.toList).length
    have e : (numTo 4 true v 4 ++ [UInt8.ofNat root.size] ++ root.data.toList).length = 4 + 1 + root.size := by rw [List.length_append, List.length_append, numTo_length]; rfl
    omega
  have HW : Hid (∀ w', Calls Tryz.prog 30 #[.iface 215 (.agg #[.iface 219 (.agg #[])]), .agg #[x0, x1, .int .i64 (v : Int), .string root, x4]] w' fun e w'' => ∃ t : ByteArray, e = .returned (.string t) ∧ Hid (t.data.toList = m) ∧ Below w'.heap.size w' w'') := by
    intro w'
    refine written_R _ _ _ _ _ _ m w' ?_
    intro b' w'' h''
    refine wR75 _ _ _ _ _ b' [] m w'' h'' ?_
    intro w3 h3
    rw [← hm]
    exact padR_put b' v root x0 x1 x4 [] w3 h3 (by simp) hv hr
  rw [hm]
  clear hm
  go_enter Tryz.func144, Tryz.ntmps144
  have hlt := h.lt
  go_wp2_with fail
  obtain ⟨w1, hw1⟩ : ∃ w1, w1 = (w.alloc (.cells #[] 70)).alloc (.cells #[x0, x1, .int .i64 (v : Int), .string root, x4] 66) := ⟨_, rfl⟩
  have hp1 : Put b l w w1 := by rw [hw1]; exact ((Put.refl h).alloc _).alloc _
  have hn : w1.heap[w.heap.size + 1]? = some (.cells #[x0, x1, .int .i64 (v : Int), .string root, x4] 66) := by
    rw [hw1, show w.heap.size + 1 = (w.alloc (.cells #[] 70)).heap.size by simp]; exact heap_alloc_new _ _
  rw [← hw1]
  clear hw1
  have HS : ∀ W : World, W.heap[w.heap.size + 1]? = some (.cells #[x0, x1, .int .i64 (v : Int), .string root, x4] 66) → W.cell? ⟨w.heap.size + 1, 0, none⟩ = some x0 ∧ W.cell? ⟨w.heap.size + 1, 1, none⟩ = some x1 ∧ W.cell? ⟨w.heap.size + 1, 2, none⟩ = some (.int .i64 (v : Int)) ∧ W.cell? ⟨w.heap.size + 1, 3, none⟩ = some (.string root) ∧ W.cell? ⟨w.heap.size + 1, 4, none⟩ = some x4 :=
    fun W hW => ⟨Lib.cell_of_heap hW 0, Lib.cell_of_heap hW 1, Lib.cell_of_heap hW 2, Lib.cell_of_heap hW 3, Lib.cell_of_heap hW 4⟩
  have HSh : Hid (∀ W : World, W.heap[w.heap.size + 1]? = some (.cells #[x0, x1, .int .i64 (v : Int), .string root, x4] 66) → W.cell? ⟨w.heap.size + 1, 0, none⟩ = some x0 ∧ W.cell? ⟨w.heap.size + 1, 1, none⟩ = some x1 ∧ W.cell? ⟨w.heap.size + 1, 2, none⟩ = some (.int .i64 (v : Int)) ∧ W.cell? ⟨w.heap.size + 1, 3, none⟩ = some (.string root) ∧ W.cell? ⟨w.heap.size + 1, 4, none⟩ = some x4) := HS
  clear HS
  go_region_held3 (fun W => W.cell? ⟨w.heap.size + 1, 0, none⟩ = some x0 ∧ W.cell? ⟨w.heap.size + 1, 1, none⟩ = some x1 ∧ W.cell? ⟨w.heap.size + 1, 2, none⟩ = some (.int .i64 (v : Int)) ∧ W.cell? ⟨w.heap.size + 1, 3, none⟩ = some (.string root) ∧ W.cell? ⟨w.heap.size + 1, 4, none⟩ = some x4)
    (first | exact HSh.out _ hnC | exact HSh.out _ hnB | exact HSh.out _ hnA | exact HSh.out _ hn)
    (first | (go_at_call 146; refine (commitBody_any _).mono ?_; rintro e wA ⟨rfl, hbA'⟩; have hbA : Below w1.heap.size w1 wA := (Below.refl w1.heap.size w1).drew.trans hbA'; have hnA := below_cells hbA hn) | (go_at_call 30; refine (HW.out _).mono ?_; rintro e wB ⟨t, rfl, HT, hbB⟩; have hnB := below_cells hbB hnA; have hts : t.size ≤ 1000 := (by have : t.data.toList.length ≤ 1000 := (by rw [HT.out]; exact hm2); exact this)) | (go_at_call 135; refine (wsector 67 b t l _ (by omega) ((hp1.1.below hbA).below hbB) (by omega)).mono ?_; rintro e wC ⟨rfl, hpC⟩; have hnC := hpC.cells hnB (by omega) (by decide)))
  go_wp2
  go_end0
  rw [HT.out] at hpC
  exact ⟨rfl, ((hp1.below hbA).below hbB).trans hpC⟩
theorem four_numTo (n : Nat) : numTo 4 true n 4 = four n := by
  have e : ∀ x : Nat, UInt8.ofNat (x % 256) = UInt8.ofNat x := fun x => by apply UInt8.toNat.inj; simp
  simp only [numTo, numByte, four, e, List.nil_append, List.cons_append, if_true]
  simp
theorem pad63_size (s : List UInt8) : (pad63 s).length = 63 * ((s.length + 62) / 63) := by
  rw [pad63_length]; unfold gap; omega
theorem pad63_part (s : List UInt8) (q : Nat) (hq : q < (s.length + 62) / 63) : ((pad63 s).drop (63 * q)).take 63 = part63 s (63 * q) := by
  unfold pad63 part63
  rw [List.drop_append_of_le_length (by omega), List.take_append, List.length_drop, List.take_replicate]
  congr 2
  unfold gap; omega
theorem pad63_one (s : List UInt8) (h0 : 0 < s.length) (h : s.length ≤ 63) : pad63 s = part63 s 0 := by
  have := pad63_part s 0 (by omega)
  rw [← this, Nat.mul_zero, List.drop_zero, List.take_of_length_le (by rw [pad63_size]; omega)]
theorem marked_one (s f m : List UInt8) (h0 : 0 < s.length) (h : s.length ≤ 63) : marked s f m = pad63 s ++ f := by
  have e : (s.length + 62) / 63 = 1 := by omega
  rw [marked, e, markedTo, markedTo, pad63_one s h0 h]
  rfl
theorem extract63 (t : ByteArray) (a : Nat) : (t.extract a (a + 63)).data.toList = (t.data.toList.drop a).take 63 := by
  conv => lhs; rw [← T_of t, T_extract]
  rw [T_data, Nat.add_sub_cancel_left]
theorem wsec (c : UInt8) (b : Nat) (s : ByteArray) (p : List UInt8) (l : List UInt8) (w : World) (h : Bld b l w) (hl : l.length ≤ 70000) (hs : s.size ≤ 63) (hp : s.data.toList = p) :
    Calls Tryz.prog 135 #[.pointer (some ⟨b, 0, none⟩), .iface 193 (.agg #[.int .i64 (c.toNat : Int)]), .string s] w fun e w' => e = .returned (.tuple #[]) ∧ Put b (l ++ p ++ [c]) w w' := by
  have := wsector c.toNat b s l w (Nat.le_of_lt_succ c.toNat_lt) h (by omega)
  rw [hp] at this
  have e : UInt8.ofNat c.toNat = c := by simp
  rw [e] at this
  exact this

theorem nodeRec_put (b : Nat) (enc : ByteArray) (x0 x2 x3 x4 : Value) (l : List UInt8) (w : World) (h : Bld b l w) (hl : l.length ≤ 1000) (he : enc.size ≤ 4000) :
    Calls Tryz.prog 131 #[.agg #[], .pointer (some ⟨b, 0, none⟩), .agg #[x0, .string enc, x2, x3, x4]] w fun e w' => e = .returned (.tuple #[]) ∧ Put b (l ++ marked (four enc.size ++ enc.data.toList) [83] [77]) w w' := by
  obtain ⟨s, hs⟩ : ∃ s, four enc.size ++ enc.data.toList = s := ⟨_, rfl⟩
  have hsl : s.length = 4 + enc.size := by rw [← hs, List.length_append]; rfl
  obtain ⟨Q, hQ⟩ : ∃ Q, (s.length + 62) / 63 = Q := ⟨_, rfl⟩
  have hQ1 : 1 ≤ Q := by omega
  have hQ2 : Q ≤ 65 := by omega
  have HMK : Hid (marked s [83] [77] = markedTo s [83] [77] Q) := by show _ = _; rw [marked, hQ]
  have HW : Hid (∀ w', Calls Tryz.prog 133 #[.iface 189 (.agg #[.iface 206 (.agg #[.int .i64 4, .bool true])]), .string enc] w' fun e w'' => ∃ t : ByteArray, e = .returned (.string t) ∧ t.size = 63 * Q ∧ Hid (t.data.toList = pad63 s) ∧ Below w'.heap.size w' w'') := by
    intro w'
    refine (written_S _ enc (pad63 s) w' ?_).mono ?_
    · intro w'' h''
      have := wpadS 4 true w'.heap.size enc [] w'' (by omega) (by omega) h'' (by simp; omega)
      rw [List.nil_append, four_numTo, hs] at this
      exact this
    · rintro e w'' ⟨t, rfl, HT, hb⟩
      refine ⟨t, rfl, ?_, HT, hb⟩
      have e1 : t.data.toList.length = 63 * Q := by rw [HT.out, pad63_size, hQ]
      exact e1
  have HPT : Hid (∀ q, q < Q → ((pad63 s).drop (63 * q)).take 63 = part63 s (63 * q)) := fun q hq => pad63_part s q (by omega)
  have HLen : ∀ q, (markedTo s [83] [77] q).length ≤ 64 * q := markedTo_length s [83] [77] (by simp) (by simp)
  have HLn : Hid (∀ q, (markedTo s [83] [77] q).length ≤ 64 * q) := HLen
  rw [hs, HMK.out]
  clear hs hsl hQ HLen HMK
  have hlt := h.lt
  go_enter Tryz.func131, Tryz.ntmps131
  go_wp2_with fail
  obtain ⟨w1, hw1⟩ : ∃ w1, w1 = (w.alloc (.cells #[] 68)).alloc (.cells #[x0, .string enc, x2, x3, x4] 66) := ⟨_, rfl⟩
  have hp1 : Put b l w w1 := by rw [hw1]; exact ((Put.refl h).alloc _).alloc _
  have hn : w1.heap[w.heap.size + 1]? = some (.cells #[x0, .string enc, x2, x3, x4] 66) := by
    rw [hw1, show w.heap.size + 1 = (w.alloc (.cells #[] 68)).heap.size by simp]; exact heap_alloc_new _ _
  rw [← hw1]
  clear hw1
  have c1 : w1.cell? ⟨w.heap.size + 1, 1, none⟩ = some (.string enc) := Lib.cell_of_heap hn 1
  go_region_held3 (fun W => W.cell? ⟨w.heap.size + 1, 1, none⟩ = some (.string enc))
    (first | exact c1 | exact Lib.cell_of_heap hnA 1 | exact Lib.cell_of_heap hnB 1)
    (first | (go_at_call 134; refine (nodeBody_any _).mono ?_; rintro e wA ⟨rfl, hbA'⟩; have hbA : Below w1.heap.size w1 wA := (Below.refl w1.heap.size w1).drew.trans hbA'; have hnA := below_cells hbA hn) | (go_at_call 133; refine (HW.out _).mono ?_; rintro e wB ⟨t, rfl, hts, HT, hbB⟩; have hnB := below_cells hbB hnA))
  have hpB : Put b l w wB := (hp1.below hbA).below hbB
  have y1 : (63 : Int) ≤ (t.size : Int) := by omega
  have HSeg : Hid (∀ q, q < Q → (t.extract (63 * q) (63 * q + 63)).data.toList = part63 s (63 * q)) := fun q hq => by rw [extract63, HT.out]; exact HPT.out q hq
  have hx0 : (t.extract 0 63).data.toList = part63 s (63 * 0) := HSeg.out 0 (by omega)
  have hs0 : (t.extract 0 63).size ≤ 63 := by
    have : (t.extract 0 63).data.toList.length = 63 := by rw [hx0, part63_length]
    exact Nat.le_of_eq this
  have HX : Hid (∀ w', Bld b l w' → Calls Tryz.prog 135 #[.pointer (some ⟨b, 0, none⟩), .iface 193 (.agg #[.int .i64 83]), .string (t.extract 0 63)] w' fun e w'' => e = .returned (.tuple #[]) ∧ Put b (l ++ markedTo s [83] [77] 1) w' w'') := fun w' h' => by
    have := wsec 83 b (t.extract 0 63) _ l w' h' (by omega) hs0 hx0
    rw [List.append_assoc] at this
    exact this
  clear hx0 hs0
  go_wp2_with (first | (go_at_call 135; refine (HX.out _ hpB.1).mono ?_; rintro e wC ⟨rfl, hpC⟩))
  have hpW := hpB.trans hpC
  clear hpC hpB hbB hnB hnA hbA hbA' hn hp1 c1 HX HPT HT HW
  go_loopw [7] (fun t7 wr => ∃ q : Nat, q ≤ Q ∧ 1 ≤ q ∧ t7 = .int .i64 ((63 * q : Nat) : Int) ∧ Put b (l ++ markedTo s [83] [77] q) w wr) (fun t7 _ => 63 * Q + 63 - (intOf t7).toNat)
  case atStart => exact ⟨1, hQ1, Nat.le_refl _, rfl, hpW⟩
  case round =>
    obtain ⟨q, hq, hq1, rfl, hp⟩ := hrel
    have hlq := HLn.out q
    by_cases h1 : q < Q
    · have hxq := HSeg.out q h1
      have hsq : (t.extract (63 * q) (63 * q + 63)).size ≤ 63 := by
        have : (t.extract (63 * q) (63 * q + 63)).data.toList.length = 63 := by rw [hxq, part63_length]
        exact Nat.le_of_eq this
      obtain ⟨a, ha⟩ : ∃ a, 63 * q = a := ⟨_, rfl⟩
      have HX : Hid (∀ w', Bld b (l ++ markedTo s [83] [77] q) w' → Calls Tryz.prog 135 #[.pointer (some ⟨b, 0, none⟩), .iface 193 (.agg #[.int .i64 77]), .string (t.extract a (a + 63))] w' fun e w'' => e = .returned (.tuple #[]) ∧ Put b (l ++ markedTo s [83] [77] (q + 1)) w' w'') := fun w' h' => by
        rw [← ha]
        have := wsec 77 b (t.extract (63 * q) (63 * q + 63)) _ (l ++ markedTo s [83] [77] q) w' h' (by rw [List.length_append]; omega) hsq hxq
        rw [markedTo, if_neg (by omega), ← List.append_assoc, ← List.append_assoc]
        exact this
      clear hxq hsq
      rw [ha]
      have z1 : decide ((a : Int) < (t.size : Int)) = true := by simp; omega
      have z2 : IntKind.i64.wrap ((a : Int) + 63) = (a : Int) + 63 := wrap_i64_in _ (by omega) (by omega)
      have z3 : (0 : Int) ≤ (a : Int) := by omega
      have z4 : (a : Int) + 63 ≤ (t.size : Int) := by omega
      have z5 : (a : Int) ≤ (a : Int) + 63 := by omega
      go_wp2_with (first | (go_at_call 135; refine (HX.out _ hp.1).mono ?_; rintro e wD ⟨rfl, hpD⟩))
      refine ⟨⟨q + 1, by omega, by omega, congrArg (Value.int .i64) (by omega), hp.trans hpD⟩, ?_⟩
      show 63 * Q + 63 - ((a : Int) + 63).toNat < 63 * Q + 63 - ((a : Int)).toNat
      omega
    · have e : q = Q := by omega
      subst e
      have z1 : decide (((63 * q : Nat) : Int) < (t.size : Int)) = false := by simp; omega
      obtain ⟨a, ha⟩ : ∃ a, 63 * q = a := ⟨_, rfl⟩
      rw [ha] at z1 ⊢
      go_wp2
      go_end0
      exact ⟨rfl, hp⟩
end Go.Proofs.YtmfhfehemoeeeaaGreatDoor
