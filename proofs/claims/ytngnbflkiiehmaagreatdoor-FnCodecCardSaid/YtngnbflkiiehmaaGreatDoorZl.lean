import Derived.Test.YtngnbflkiiehmaaGreatDoorZi
import Derived.Test.YtngnbflkiiehmaaGreatDoorZh
import Derived.Test.YtngnbflkiiehmaaGreatDoorZk
namespace Go.Proofs.YtngnbflkiiehmaaGreatDoor
open Go.RowKit Go.Proofs.Sha

theorem wint4 (b : Nat) (v : Nat) (l : List UInt8) (w : World) (h : Bld b l w) (hl : l.length ≤ 90000) (hv : v ≤ 9223372036854775807) :
    Calls Tryz.prog 84 #[.pointer (some ⟨b, 0, none⟩), .iface 123 (.agg #[.int .i64 4, .bool true]), .int .i64 (v : Int)] w fun e w' => e = .returned (.tuple #[]) ∧ Put b (l ++ numTo 4 true v 4) w w' :=
  wint 4 true b v l w (by omega) (by omega) h hl hv
theorem wsized1 (b : Nat) (s : ByteArray) (l : List UInt8) (w : World) (h : Bld b l w) (hl : l.length + s.size ≤ 80000) :
    Calls Tryz.prog 82 #[.pointer (some ⟨b, 0, none⟩), .iface 125 (.agg #[.int .i64 1, .bool false]), .string s] w fun e w' => e = .returned (.tuple #[]) ∧ Put b (l ++ [UInt8.ofNat s.size] ++ s.data.toList) w w' := by
  have := wsized 1 false b s l w (by omega) (by omega) h hl
  have e : numTo 1 false s.size 1 = [UInt8.ofNat s.size] := by simp [numTo, numByte]
  rw [e] at this
  exact this

set_option maxRecDepth 100000 in
theorem commit_put (b : Nat) (v : Nat) (root : ByteArray) (x0 x1 x4 : Value) (l : List UInt8) (w : World) (h : Bld b l w) (hl : l.length ≤ 1000) (hv : v ≤ 1000000) (hr : root.size ≤ 32) :
    Calls Tryz.prog 151 #[.agg #[], .pointer (some ⟨b, 0, none⟩), .agg #[x0, x1, .int .i64 (v : Int), .string root, x4]] w fun e w' => e = .returned (.tuple #[]) ∧ Put b (l ++ numTo 4 true v 4 ++ [UInt8.ofNat root.size] ++ root.data.toList) w w' := by
  obtain ⟨m, hm⟩ : ∃ m, l ++ numTo 4 true v 4 = m := ⟨_, rfl⟩
  have hm2 : m.length ≤ 2000 := by rw [← hm, List.length_append, numTo_length]; omega
  have HI : Hid (∀ w', Bld b l w' → Calls Tryz.prog 84 #[.pointer (some ⟨b, 0, none⟩), .iface 123 (.agg #[.int .i64 4, .bool true]), .int .i64 (v : Int)] w' fun e w'' => e = .returned (.tuple #[]) ∧ Put b m w' w'') := fun w' h' => by rw [← hm]; exact wint4 b v l w' h' (by omega) (by omega)
  rw [hm]
  clear hm
  have hlt := h.lt
  go_enter Tryz.func151, Tryz.ntmps151
  go_wp2_with fail
  obtain ⟨w1, hw1⟩ : ∃ w1, w1 = (w.alloc (.cells #[] 147)).alloc (.cells #[x0, x1, .int .i64 (v : Int), .string root, x4] 36) := ⟨_, rfl⟩
  have hp1 : Put b l w w1 := by rw [hw1]; exact ((Put.refl h).alloc _).alloc _
  have hn : w1.heap[w.heap.size + 1]? = some (.cells #[x0, x1, .int .i64 (v : Int), .string root, x4] 36) := by
    rw [hw1, show w.heap.size + 1 = (w.alloc (.cells #[] 147)).heap.size by simp]; exact heap_alloc_new _ _
  rw [← hw1]
  clear hw1
  have c2 : w1.cell? ⟨w.heap.size + 1, 2, none⟩ = some (.int .i64 (v : Int)) := Lib.cell_of_heap hn 2
  go_region_held3 (fun W => W.cell? ⟨w.heap.size + 1, 2, none⟩ = some (.int .i64 (v : Int)))
    (first | exact c2 | exact Lib.cell_of_heap hnA 2 | exact Lib.cell_of_heap hnB 2)
    (first | (go_at_call 95; refine (recNum_any _).mono ?_; rintro e wA ⟨rfl, hbA'⟩; have hbA : Below w1.heap.size w1 wA := (Below.refl w1.heap.size w1).drew.trans hbA'; have hnA := below_cells hbA hn) | (go_at_call 84; refine (HI.out _ (hp1.1.below hbA)).mono ?_; rintro e wB ⟨rfl, hpB⟩; have hnB := hpB.cells hnA (by omega) (by decide); have c3 := Lib.cell_of_heap hnB 3))
  go_wp2_with (first | (go_at_call 82; refine (wsized1 b root m _ hpB.1 (by omega)).mono ?_; rintro e wC ⟨rfl, hpC⟩))
  go_end0
  exact ⟨rfl, ((hp1.below hbA).trans hpB).trans hpC⟩
end Go.Proofs.YtngnbflkiiehmaaGreatDoor
namespace Go.Proofs.YtngnbflkiiehmaaGreatDoor
open Go.RowKit Go.Proofs.Sha

theorem wR77 (v0 v1 v2 v3 v4 : Value) (b : Nat) (l m : List UInt8) (w : World) (h : Bld b l w)
    (HC : Hid (∀ w', Bld b l w' → Calls Tryz.prog 151 #[.agg #[], .pointer (some ⟨b, 0, none⟩), .agg #[v0, v1, v2, v3, v4]] w' fun e w'' => e = .returned (.tuple #[]) ∧ Put b m w' w'')) :
    Calls Tryz.prog 50 #[.pointer (some ⟨b, 0, none⟩), .iface 147 (.agg #[]), .agg #[v0, v1, v2, v3, v4]] w fun e w' => e = .returned (.tuple #[]) ∧ Put b m w w' := by
  have hmt : ∀ w : World, (method 292 147 (.agg #[]) "loop.example/s03048/impl.put").run Tryz.prog w = .ok (151, .agg #[]) w := fun _ => by kernel_rfl
  go_enter Tryz.func50, Tryz.ntmps50
  go_wp2_with (first | (go_at_call 151; refine (HC.out _ (h.alloc _)).mono ?_; rintro e w2 ⟨rfl, hp2⟩))
  go_end0
  exact ⟨rfl, ((Put.refl h).alloc _).trans hp2⟩

theorem wR75 (v0 v1 v2 v3 v4 : Value) (b : Nat) (l m : List UInt8) (w : World) (h : Bld b l w)
    (HC : Hid (∀ w', Bld b l w' → Calls Tryz.prog 117 #[.agg #[.iface 147 (.agg #[])], .pointer (some ⟨b, 0, none⟩), .agg #[v0, v1, v2, v3, v4]] w' fun e w'' => e = .returned (.tuple #[]) ∧ Put b m w' w'')) :
    Calls Tryz.prog 50 #[.pointer (some ⟨b, 0, none⟩), .iface 143 (.agg #[.iface 147 (.agg #[])]), .agg #[v0, v1, v2, v3, v4]] w fun e w' => e = .returned (.tuple #[]) ∧ Put b m w w' := by
  have hmt : ∀ w : World, (method 292 143 (.agg #[.iface 147 (.agg #[])]) "loop.example/s03048/impl.put").run Tryz.prog w = .ok (117, .agg #[.iface 147 (.agg #[])]) w := fun _ => by kernel_rfl
  go_enter Tryz.func50, Tryz.ntmps50
  go_wp2_with (first | (go_at_call 117; refine (HC.out _ (h.alloc _)).mono ?_; rintro e w2 ⟨rfl, hp2⟩))
  go_end0
  exact ⟨rfl, ((Put.refl h).alloc _).trans hp2⟩

theorem wR34 (v0 v1 v2 v3 v4 : Value) (b : Nat) (l m : List UInt8) (w : World) (h : Bld b l w)
    (HC : Hid (∀ w', Bld b l w' → Calls Tryz.prog 87 #[.agg #[], .pointer (some ⟨b, 0, none⟩), .agg #[v0, v1, v2, v3, v4]] w' fun e w'' => e = .returned (.tuple #[]) ∧ Put b m w' w'')) :
    Calls Tryz.prog 50 #[.pointer (some ⟨b, 0, none⟩), .iface 56 (.agg #[]), .agg #[v0, v1, v2, v3, v4]] w fun e w' => e = .returned (.tuple #[]) ∧ Put b m w w' := by
  have hmt : ∀ w : World, (method 292 56 (.agg #[]) "loop.example/s03048/impl.put").run Tryz.prog w = .ok (87, .agg #[]) w := fun _ => by kernel_rfl
  go_enter Tryz.func50, Tryz.ntmps50
  go_wp2_with (first | (go_at_call 87; refine (HC.out _ (h.alloc _)).mono ?_; rintro e w2 ⟨rfl, hp2⟩))
  go_end0
  exact ⟨rfl, ((Put.refl h).alloc _).trans hp2⟩

theorem wR33 (v0 v1 v2 v3 v4 : Value) (b : Nat) (l m : List UInt8) (w : World) (h : Bld b l w)
    (HC : Hid (∀ w', Bld b l w' → Calls Tryz.prog 91 #[.agg #[], .pointer (some ⟨b, 0, none⟩), .agg #[v0, v1, v2, v3, v4]] w' fun e w'' => e = .returned (.tuple #[]) ∧ Put b m w' w'')) :
    Calls Tryz.prog 50 #[.pointer (some ⟨b, 0, none⟩), .iface 58 (.agg #[]), .agg #[v0, v1, v2, v3, v4]] w fun e w' => e = .returned (.tuple #[]) ∧ Put b m w w' := by
  have hmt : ∀ w : World, (method 292 58 (.agg #[]) "loop.example/s03048/impl.put").run Tryz.prog w = .ok (91, .agg #[]) w := fun _ => by kernel_rfl
  go_enter Tryz.func50, Tryz.ntmps50
  go_wp2_with (first | (go_at_call 91; refine (HC.out _ (h.alloc _)).mono ?_; rintro e w2 ⟨rfl, hp2⟩))
  go_end0
  exact ⟨rfl, ((Put.refl h).alloc _).trans hp2⟩

set_option maxRecDepth 100000 in
set_option maxHeartbeats 1000000 in
theorem padR_put (b : Nat) (v : Nat) (root : ByteArray) (x0 x1 x4 : Value) (l : List UInt8) (w : World) (h : Bld b l w) (hl : l.length ≤ 1000) (hv : v ≤ 1000000) (hr : root.size ≤ 32) :
    Calls Tryz.prog 117 #[.agg #[.iface 147 (.agg #[])], .pointer (some ⟨b, 0, none⟩), .agg #[x0, x1, .int .i64 (v : Int), .string root, x4]] w fun e w' => e = .returned (.tuple #[]) ∧ Put b (pad63 (l ++ numTo 4 true v 4 ++ [UInt8.ofNat root.size] ++ root.data.toList)) w w' := by
  obtain ⟨m, hm⟩ : ∃ m, l ++ numTo 4 true v 4 ++ [UInt8.ofNat root.size] ++ root.data.toList = m := ⟨_, rfl⟩
  have hm2 : m.length ≤ 71000 := by rw [← hm, List.length_append, List.length_append, List.length_append, numTo_length]; show l.length + 4 + 1 + root.size ≤ _; omega
  have HW : Hid (∀ w', Bld b l w' → Calls Tryz.prog 50 #[.pointer (some ⟨b, 0, none⟩), .iface 147 (.agg #[]), .agg #[x0, x1, .int .i64 (v : Int), .string root, x4]] w' fun e w'' => e = .returned (.tuple #[]) ∧ Put b m w' w'') := by
    intro w' h'
    refine wR77 _ _ _ _ _ b l m w' h' ?_
    intro w'' h''
    rw [← hm]
    exact commit_put b v root x0 x1 x4 l w'' h'' hl hv hr
  rw [hm]
  clear hm
  obtain ⟨g, hg⟩ : ∃ g, gap m.length = g := ⟨_, rfl⟩
  have g63 : g < 63 := by rw [← hg]; exact gap_lt _
  have HM : Hid (∀ w', Calls Tryz.prog 120 #[.int .i64 (m.length : Int)] w' fun e w'' => e = .returned (.int .i64 (g : Int)) ∧ w' = w'') := by
    intro w'
    rw [← hg]
    exact missing_any _ _ (by omega)
  have HP : Hid (pad63 m = m ++ List.replicate g 0) := by show _ = _; rw [← hg]; rfl
  obtain ⟨q, hq⟩ : ∃ q, pad63 m = q := ⟨_, rfl⟩
  rw [hq] at HP ⊢
  clear hg hq
  go_enter Tryz.func117, Tryz.ntmps117
  go_wp2_with (first | (go_at_call 50; refine (HW.out _ ((h.alloc _).alloc _)).mono ?_; rintro e w2 ⟨rfl, hp2⟩) | (go_at_call 121; refine (len_any b m _ hp2.1).mono ?_; rintro e w3 ⟨rfl, rfl⟩) | (go_at_call 120; refine (HM.out _).mono ?_; rintro e w4 ⟨rfl, rfl⟩) | (go_at_call 119; refine (repeat_any g _ (by omega)).mono ?_; rintro e w5 ⟨t, rfl, ht, HT, hb5⟩) | (go_at_call 96; refine (ws_any b m t _ (hp2.1.below hb5) (by omega)).mono ?_; rintro e w6 ⟨rfl, hp6⟩))
  go_end0
  refine ⟨rfl, ?_⟩
  rw [HT.out, ← HP.out] at hp6
  exact ((((Put.refl h).alloc _).alloc _).trans (hp2.below hb5)).trans hp6

set_option maxRecDepth 100000 in
set_option maxHeartbeats 1000000 in
theorem commitRec_put (b : Nat) (v : Nat) (root : ByteArray) (x0 x1 x4 : Value) (l : List UInt8) (w : World) (h : Bld b l w) (hl : l.length ≤ 1000) (hv : v ≤ 1000000) (hr : root.size ≤ 32) :
    Calls Tryz.prog 87 #[.agg #[], .pointer (some ⟨b, 0, none⟩), .agg #[x0, x1, .int .i64 (v : Int), .string root, x4]] w fun e w' => e = .returned (.tuple #[]) ∧ Put b (l ++ pad63 (numTo 4 true v 4 ++ [UInt8.ofNat root.size] ++ root.data.toList) ++ [67]) w w' := by
  obtain ⟨m, hm⟩ : ∃ m, pad63 (numTo 4 true v 4 ++ [UInt8.ofNat root.size] ++ root.data.toList) = m := ⟨_, rfl⟩
  have hm2 : m.length ≤ 1000 := by
    rw [← hm, pad63_length]
    have := gap_lt (numTo 4 true v 4 ++ [UInt8.ofNat root.size] ++ root.data.toList).length
    have e : (numTo 4 true v 4 ++ [UInt8.ofNat root.size] ++ root.data.toList).length = 4 + 1 + root.size := by rw [List.length_append, List.length_append, numTo_length]; rfl
    omega
  have HW : Hid (∀ w', Calls Tryz.prog 32 #[.iface 143 (.agg #[.iface 147 (.agg #[])]), .agg #[x0, x1, .int .i64 (v : Int), .string root, x4]] w' fun e w'' => ∃ t : ByteArray, e = .returned (.string t) ∧ Hid (t.data.toList = m) ∧ Below w'.heap.size w' w'') := by
    intro w'
    refine written_R _ _ _ _ _ _ m w' ?_
    intro b' w'' h''
    refine wR75 _ _ _ _ _ b' [] m w'' h'' ?_
    intro w3 h3
    rw [← hm]
    exact padR_put b' v root x0 x1 x4 [] w3 h3 (by simp) hv hr
  rw [hm]
  clear hm
  go_enter Tryz.func87, Tryz.ntmps87
  have hlt := h.lt
  go_wp2_with fail
  obtain ⟨w1, hw1⟩ : ∃ w1, w1 = (w.alloc (.cells #[] 56)).alloc (.cells #[x0, x1, .int .i64 (v : Int), .string root, x4] 36) := ⟨_, rfl⟩
  have hp1 : Put b l w w1 := by rw [hw1]; exact ((Put.refl h).alloc _).alloc _
  have hn : w1.heap[w.heap.size + 1]? = some (.cells #[x0, x1, .int .i64 (v : Int), .string root, x4] 36) := by
    rw [hw1, show w.heap.size + 1 = (w.alloc (.cells #[] 56)).heap.size by simp]; exact heap_alloc_new _ _
  rw [← hw1]
  clear hw1
  have HS : ∀ W : World, W.heap[w.heap.size + 1]? = some (.cells #[x0, x1, .int .i64 (v : Int), .string root, x4] 36) → W.cell? ⟨w.heap.size + 1, 0, none⟩ = some x0 ∧ W.cell? ⟨w.heap.size + 1, 1, none⟩ = some x1 ∧ W.cell? ⟨w.heap.size + 1, 2, none⟩ = some (.int .i64 (v : Int)) ∧ W.cell? ⟨w.heap.size + 1, 3, none⟩ = some (.string root) ∧ W.cell? ⟨w.heap.size + 1, 4, none⟩ = some x4 :=
    fun W hW => ⟨Lib.cell_of_heap hW 0, Lib.cell_of_heap hW 1, Lib.cell_of_heap hW 2, Lib.cell_of_heap hW 3, Lib.cell_of_heap hW 4⟩
  have HSh : Hid (∀ W : World, W.heap[w.heap.size + 1]? = some (.cells #[x0, x1, .int .i64 (v : Int), .string root, x4] 36) → W.cell? ⟨w.heap.size + 1, 0, none⟩ = some x0 ∧ W.cell? ⟨w.heap.size + 1, 1, none⟩ = some x1 ∧ W.cell? ⟨w.heap.size + 1, 2, none⟩ = some (.int .i64 (v : Int)) ∧ W.cell? ⟨w.heap.size + 1, 3, none⟩ = some (.string root) ∧ W.cell? ⟨w.heap.size + 1, 4, none⟩ = some x4) := HS
  clear HS
  go_region_held3 (fun W => W.cell? ⟨w.heap.size + 1, 0, none⟩ = some x0 ∧ W.cell? ⟨w.heap.size + 1, 1, none⟩ = some x1 ∧ W.cell? ⟨w.heap.size + 1, 2, none⟩ = some (.int .i64 (v : Int)) ∧ W.cell? ⟨w.heap.size + 1, 3, none⟩ = some (.string root) ∧ W.cell? ⟨w.heap.size + 1, 4, none⟩ = some x4)
    (first | exact HSh.out _ hnC | exact HSh.out _ hnB | exact HSh.out _ hnA | exact HSh.out _ hn)
    (first | (go_at_call 89; refine (commitBody_any _).mono ?_; rintro e wA ⟨rfl, hbA'⟩; have hbA : Below w1.heap.size w1 wA := (Below.refl w1.heap.size w1).drew.trans hbA'; have hnA := below_cells hbA hn) | (go_at_call 32; refine (HW.out _).mono ?_; rintro e wB ⟨t, rfl, HT, hbB⟩; have hnB := below_cells hbB hnA; have hts : t.size ≤ 1000 := (by have : t.data.toList.length ≤ 1000 := (by rw [HT.out]; exact hm2); exact this)) | (go_at_call 82; refine (wsector 67 b t l _ (by omega) ((hp1.1.below hbA).below hbB) (by omega)).mono ?_; rintro e wC ⟨rfl, hpC⟩; have hnC := hpC.cells hnB (by omega) (by decide)))
  go_wp2
  go_end0
  rw [HT.out] at hpC
  exact ⟨rfl, ((hp1.below hbA).below hbB).trans hpC⟩
end Go.Proofs.YtngnbflkiiehmaaGreatDoor
namespace Go.Proofs.YtngnbflkiiehmaaGreatDoor
open Go.RowKit Go.Proofs.Sha

theorem four_numTo (n : Nat) : numTo 4 true n 4 = four n := by
  have e : ∀ x : Nat, UInt8.ofNat (x % 256) = UInt8.ofNat x := fun x => by apply UInt8.toNat.inj; simp
  simp only [numTo, numByte, four, e, List.nil_append, List.cons_append, if_true]
  simp
theorem pad63_size (s : List UInt8) : (pad63 s).length = 63 * ((s.length + 62) / 63) := by
  rw [pad63_length]; unfold gap; omega
theorem pad63_part (s : List UInt8) (q : Nat) (hq : q < (s.length + 62) / 63) : ((pad63 s).drop (63 * q)).take 63 = part63 s (63 * q) := by
  unfold pad63 part63
  rw [List.drop_append_of_le_length (by omega), List.take_append, List.length_drop, List.take_replicate]
  congr 2
  unfold gap; omega
theorem pad63_one (s : List UInt8) (h0 : 0 < s.length) (h : s.length ≤ 63) : pad63 s = part63 s 0 := by
  have := pad63_part s 0 (by omega)
  rw [← this, Nat.mul_zero, List.drop_zero, List.take_of_length_le (by rw [pad63_size]; omega)]
theorem marked_one (s f m : List UInt8) (h0 : 0 < s.length) (h : s.length ≤ 63) : marked s f m = pad63 s ++ f := by
  have e : (s.length + 62) / 63 = 1 := by omega
  rw [marked, e, markedTo, markedTo, pad63_one s h0 h]
  rfl
theorem extract_list (t : ByteArray) (a : Nat) : (t.extract a (a + 63)).data.toList = (t.data.toList.drop a).take 63 := by
  conv => lhs; rw [← T_of t, T_extract]
  rw [T_data, Nat.add_sub_cancel_left]
theorem wsec (c : UInt8) (b : Nat) (s : ByteArray) (p : List UInt8) (l : List UInt8) (w : World) (h : Bld b l w) (hl : l.length ≤ 70000) (hs : s.size ≤ 63) (hp : s.data.toList = p) :
    Calls Tryz.prog 82 #[.pointer (some ⟨b, 0, none⟩), .iface 141 (.agg #[.int .i64 (c.toNat : Int)]), .string s] w fun e w' => e = .returned (.tuple #[]) ∧ Put b (l ++ p ++ [c]) w w' := by
  have := wsector c.toNat b s l w (Nat.le_of_lt_succ c.toNat_lt) h (by omega)
  rw [hp] at this
  have e : UInt8.ofNat c.toNat = c := by simp
  rw [e] at this
  exact this

set_option maxRecDepth 100000 in
set_option maxHeartbeats 1000000 in
theorem nodeRec_put (b : Nat) (enc : ByteArray) (x0 x2 x3 x4 : Value) (l : List UInt8) (w : World) (h : Bld b l w) (hl : l.length ≤ 1000) (he : enc.size ≤ 4000) :
    Calls Tryz.prog 91 #[.agg #[], .pointer (some ⟨b, 0, none⟩), .agg #[x0, .string enc, x2, x3, x4]] w fun e w' => e = .returned (.tuple #[]) ∧ Put b (l ++ marked (four enc.size ++ enc.data.toList) [83] [77]) w w' := by
  obtain ⟨s, hs⟩ : ∃ s, four enc.size ++ enc.data.toList = s := ⟨_, rfl⟩
  have hsl : s.length = 4 + enc.size := by rw [← hs, List.length_append]; rfl
  obtain ⟨Q, hQ⟩ : ∃ Q, (s.length + 62) / 63 = Q := ⟨_, rfl⟩
  have hQ1 : 1 ≤ Q := by omega
  have hQ2 : Q ≤ 65 := by omega
  have HMK : Hid (marked s [83] [77] = markedTo s [83] [77] Q) := by show _ = _; rw [marked, hQ]
  have HW : Hid (∀ w', Calls Tryz.prog 93 #[.iface 150 (.agg #[.iface 125 (.agg #[.int .i64 4, .bool true])]), .string enc] w' fun e w'' => ∃ t : ByteArray, e = .returned (.string t) ∧ t.size = 63 * Q ∧ Hid (t.data.toList = pad63 s) ∧ Below w'.heap.size w' w'') := by
    intro w'
    refine (written_S _ enc (pad63 s) w' ?_).mono ?_
    · intro w'' h''
      have := wpadS 4 true w'.heap.size enc [] w'' (by omega) (by omega) h'' (by simp; omega)
      rw [List.nil_append, four_numTo, hs] at this
      exact this
    · rintro e w'' ⟨t, rfl, HT, hb⟩
      refine ⟨t, rfl, ?_, HT, hb⟩
      have e1 : t.data.toList.length = 63 * Q := by rw [HT.out, pad63_size, hQ]
      exact e1
  have HPT : Hid (∀ q, q < Q → ((pad63 s).drop (63 * q)).take 63 = part63 s (63 * q)) := fun q hq => pad63_part s q (by omega)
  have HLen : ∀ q, (markedTo s [83] [77] q).length ≤ 64 * q := markedTo_length s [83] [77] (by simp) (by simp)
  have HLn : Hid (∀ q, (markedTo s [83] [77] q).length ≤ 64 * q) := HLen
  rw [hs, HMK.out]
  clear hs hsl hQ HLen HMK
  have hlt := h.lt
  go_enter Tryz.func91, Tryz.ntmps91
  go_wp2_with fail
  obtain ⟨w1, hw1⟩ : ∃ w1, w1 = (w.alloc (.cells #[] 58)).alloc (.cells #[x0, .string enc, x2, x3, x4] 36) := ⟨_, rfl⟩
  have hp1 : Put b l w w1 := by rw [hw1]; exact ((Put.refl h).alloc _).alloc _
  have hn : w1.heap[w.heap.size + 1]? = some (.cells #[x0, .string enc, x2, x3, x4] 36) := by
    rw [hw1, show w.heap.size + 1 = (w.alloc (.cells #[] 58)).heap.size by simp]; exact heap_alloc_new _ _
  rw [← hw1]
  clear hw1
  have c1 : w1.cell? ⟨w.heap.size + 1, 1, none⟩ = some (.string enc) := Lib.cell_of_heap hn 1
  go_region_held3 (fun W => W.cell? ⟨w.heap.size + 1, 1, none⟩ = some (.string enc))
    (first | exact c1 | exact Lib.cell_of_heap hnA 1 | exact Lib.cell_of_heap hnB 1)
    (first | (go_at_call 94; refine (nodeBody_any _).mono ?_; rintro e wA ⟨rfl, hbA'⟩; have hbA : Below w1.heap.size w1 wA := (Below.refl w1.heap.size w1).drew.trans hbA'; have hnA := below_cells hbA hn) | (go_at_call 93; refine (HW.out _).mono ?_; rintro e wB ⟨t, rfl, hts, HT, hbB⟩; have hnB := below_cells hbB hnA))
  have hpB : Put b l w wB := (hp1.below hbA).below hbB
  have y1 : (63 : Int) ≤ (t.size : Int) := by omega
  have HSeg : Hid (∀ q, q < Q → (t.extract (63 * q) (63 * q + 63)).data.toList = part63 s (63 * q)) := fun q hq => by rw [extract_list, HT.out]; exact HPT.out q hq
  have hx0 : (t.extract 0 63).data.toList = part63 s (63 * 0) := HSeg.out 0 (by omega)
  have hs0 : (t.extract 0 63).size ≤ 63 := by
    have : (t.extract 0 63).data.toList.length = 63 := by rw [hx0, part63_length]
    exact Nat.le_of_eq this
  have HX : Hid (∀ w', Bld b l w' → Calls Tryz.prog 82 #[.pointer (some ⟨b, 0, none⟩), .iface 141 (.agg #[.int .i64 83]), .string (t.extract 0 63)] w' fun e w'' => e = .returned (.tuple #[]) ∧ Put b (l ++ markedTo s [83] [77] 1) w' w'') := fun w' h' => by
    have := wsec 83 b (t.extract 0 63) _ l w' h' (by omega) hs0 hx0
    rw [List.append_assoc] at this
    exact this
  clear hx0 hs0
  go_wp2_with (first | (go_at_call 82; refine (HX.out _ hpB.1).mono ?_; rintro e wC ⟨rfl, hpC⟩))
  have hpW := hpB.trans hpC
  clear hpC hpB hbB hnB hnA hbA hbA' hn hp1 c1 HX HPT HT HW
  go_loopw [7] (fun t7 wr => ∃ q : Nat, q ≤ Q ∧ 1 ≤ q ∧ t7 = .int .i64 ((63 * q : Nat) : Int) ∧ Put b (l ++ markedTo s [83] [77] q) w wr) (fun t7 _ => 63 * Q + 63 - (intOf t7).toNat)
  case atStart => exact ⟨1, hQ1, Nat.le_refl _, rfl, hpW⟩
  case round =>
    obtain ⟨q, hq, hq1, rfl, hp⟩ := hrel
    have hlq := HLn.out q
    by_cases h1 : q < Q
    · have hxq := HSeg.out q h1
      have hsq : (t.extract (63 * q) (63 * q + 63)).size ≤ 63 := by
        have : (t.extract (63 * q) (63 * q + 63)).data.toList.length = 63 := by rw [hxq, part63_length]
        exact Nat.le_of_eq this
      obtain ⟨a, ha⟩ : ∃ a, 63 * q = a := ⟨_, rfl⟩
      have HX : Hid (∀ w', Bld b (l ++ markedTo s [83] [77] q) w' → Calls Tryz.prog 82 #[.pointer (some ⟨b, 0, none⟩), .iface 141 (.agg #[.int .i64 77]), .string (t.extract a (a + 63))] w' fun e w'' => e = .returned (.tuple #[]) ∧ Put b (l ++ markedTo s [83] [77] (q + 1)) w' w'') := fun w' h' => by
        rw [← ha]
        have := wsec 77 b (t.extract (63 * q) (63 * q + 63)) _ (l ++ markedTo s [83] [77] q) w' h' (by rw [List.length_append]; omega) hsq hxq
        rw [markedTo, if_neg (by omega), ← List.append_assoc, ← List.append_assoc]
        exact this
      clear hxq hsq
      rw [ha]
      have z1 : decide ((a : Int) < (t.size : Int)) = true := by simp; omega
      have z2 : IntKind.i64.wrap ((a : Int) + 63) = (a : Int) + 63 := wrap_i64_in _ (by omega) (by omega)
      have z3 : (0 : Int) ≤ (a : Int) := by omega
      have z4 : (a : Int) + 63 ≤ (t.size : Int) := by omega
      have z5 : (a : Int) ≤ (a : Int) + 63 := by omega
      go_wp2_with (first | (go_at_call 82; refine (HX.out _ hp.1).mono ?_; rintro e wD ⟨rfl, hpD⟩))
      refine ⟨⟨q + 1, by omega, by omega, congrArg (Value.int .i64) (by omega), hp.trans hpD⟩, ?_⟩
      show 63 * Q + 63 - ((a : Int) + 63).toNat < 63 * Q + 63 - ((a : Int)).toNat
      omega
    · have e : q = Q := by omega
      subst e
      have z1 : decide (((63 * q : Nat) : Int) < (t.size : Int)) = false := by simp; omega
      obtain ⟨a, ha⟩ : ∃ a, 63 * q = a := ⟨_, rfl⟩
      rw [ha] at z1 ⊢
      go_wp2
      go_end0
      exact ⟨rfl, hp⟩
end Go.Proofs.YtngnbflkiiehmaaGreatDoor
namespace Go.Proofs.YtngnbflkiiehmaaGreatDoor
open Go.RowKit Go.Proofs.Sha


set_option maxRecDepth 100000 in
set_option maxHeartbeats 1000000 in
theorem nodeRec_impl (enc : ByteArray) (w : World) (hs : enc.size ≤ 1048576) :
    Calls Tryz.prog 13 #[.string enc] w fun e w' => ∃ t, e = .returned (.string t) ∧ Hid (t = nodeRec enc) ∧ Below w.heap.size w w' := by
  by_cases h : 1 ≤ enc.size ∧ enc.size ≤ 4000
  · have z1 : decide ((1 : Int) ≤ (enc.size : Int)) = true := by simp; omega
    have z2 : decide ((enc.size : Int) ≤ 4000) = true := by simp; omega
    have HC : Hid (∀ w', Calls Tryz.prog 32 #[.iface 58 (.agg #[]), .agg #[.int .i64 0, .string enc, .int .i64 0, .string ⟨#[]⟩, .int .i64 0]] w' fun e w'' => ∃ t : ByteArray, e = .returned (.string t) ∧ Hid (t.data.toList = marked (four enc.size ++ enc.data.toList) [83] [77]) ∧ Below w'.heap.size w' w'') := by
      intro w'
      refine written_R _ _ _ _ _ _ _ w' ?_
      intro b' w'' h''
      refine wR33 _ _ _ _ _ b' [] _ w'' h'' ?_
      intro w3 h3
      exact nodeRec_put b' enc _ _ _ _ [] w3 h3 (by simp) h.2
    have HR : Hid (nodeRec enc = T (marked (four enc.size ++ enc.data.toList) [83] [77])) := by show nodeRec enc = _; rw [nodeRec, if_pos h]
    obtain ⟨m, hm⟩ : ∃ m, marked (four enc.size ++ enc.data.toList) [83] [77] = m := ⟨_, rfl⟩
    rw [hm] at HC HR
    clear hm
    go_enter Tryz.func13, Tryz.ntmps13
    go_wp2_with (first | (go_at_call 32; refine (HC.out _).mono ?_; rintro e w2 ⟨t, rfl, HT, hb2⟩) | go_in)
    go_ret
    exact ⟨t, rfl, (of_list HT.out).trans HR.out.symm, hb2⟩
  · have HR : Hid (nodeRec enc = ⟨#[]⟩) := by show nodeRec enc = _; rw [nodeRec, if_neg h]
    by_cases h1 : 1 ≤ enc.size
    · have z1 : decide ((1 : Int) ≤ (enc.size : Int)) = true := by simp; omega
      have z2 : decide ((enc.size : Int) ≤ 4000) = false := by simp; omega
      go_enter Tryz.func13, Tryz.ntmps13
      go_wp2
      go_ret
      exact ⟨_, rfl, HR.out.symm, Below.refl _ _⟩
    · have z1 : decide ((1 : Int) ≤ (enc.size : Int)) = false := by simp; omega
      go_enter Tryz.func13, Tryz.ntmps13
      go_wp2
      go_ret
      exact ⟨_, rfl, HR.out.symm, Below.refl _ _⟩

set_option maxRecDepth 100000 in
set_option maxHeartbeats 1000000 in
theorem commitRec_impl (v : Int) (root : ByteArray) (w : World) (hs : root.size ≤ 1048576) :
    Calls Tryz.prog 11 #[.int .i64 v, .string root] w fun e w' => ∃ t, e = .returned (.string t) ∧ Hid (t = commitRec v root) ∧ Below w.heap.size w w' := by
  by_cases h : 1 ≤ v ∧ v ≤ 1000000 ∧ root.size ≤ 32
  · obtain ⟨n, rfl⟩ := Int.eq_ofNat_of_zero_le (show 0 ≤ v by omega)
    have z1 : decide ((1 : Int) ≤ (n : Int)) = true := by simp; omega
    have z2 : decide ((n : Int) ≤ 1000000) = true := by simp; omega
    have z3 : decide ((root.size : Int) ≤ 32) = true := by simp; omega
    obtain ⟨m, hm⟩ : ∃ m, marked (four n ++ [UInt8.ofNat root.size] ++ root.data.toList) [67] [] = m := ⟨_, rfl⟩
    have HC : Hid (∀ w', Calls Tryz.prog 32 #[.iface 56 (.agg #[]), .agg #[.int .i64 0, .string ⟨#[]⟩, .int .i64 (n : Int), .string root, .int .i64 0]] w' fun e w'' => ∃ t : ByteArray, e = .returned (.string t) ∧ Hid (t.data.toList = m) ∧ Below w'.heap.size w' w'') := by
      intro w'
      refine written_R _ _ _ _ _ _ _ w' ?_
      intro b' w'' h''
      refine wR34 _ _ _ _ _ b' [] _ w'' h'' ?_
      intro w3 h3
      have := commitRec_put b' n root (.int .i64 0) (.string ⟨#[]⟩) (.int .i64 0) [] w3 h3 (by simp) (by omega) h.2.2
      have hlen : (four n ++ [UInt8.ofNat root.size] ++ root.data.toList).length = 5 + root.size := by rw [List.length_append, List.length_append]; rfl
      rw [List.nil_append, four_numTo, ← marked_one _ _ [] (by omega) (by omega), hm] at this
      exact this
    have HR : Hid (commitRec (n : Int) root = T m) := by show commitRec _ root = _; rw [commitRec, if_pos h, Int.toNat_natCast, hm]
    clear hm
    go_enter Tryz.func11, Tryz.ntmps11
    go_wp2_with (first | (go_at_call 32; refine (HC.out _).mono ?_; rintro e w2 ⟨t, rfl, HT, hb2⟩) | go_in)
    go_ret
    exact ⟨t, rfl, (of_list HT.out).trans HR.out.symm, hb2⟩
  · have HR : Hid (commitRec v root = ⟨#[]⟩) := by show commitRec v root = _; rw [commitRec, if_neg h]
    by_cases h1 : 1 ≤ v
    · have z1 : decide ((1 : Int) ≤ v) = true := by simp; omega
      by_cases h2 : v ≤ 1000000
      · have z2 : decide (v ≤ 1000000) = true := by simp; omega
        have z3 : decide ((root.size : Int) ≤ 32) = false := by simp; omega
        go_enter Tryz.func11, Tryz.ntmps11
        go_wp2
        go_ret
        exact ⟨_, rfl, HR.out.symm, Below.refl _ _⟩
      · have z2 : decide (v ≤ 1000000) = false := by simp; omega
        go_enter Tryz.func11, Tryz.ntmps11
        go_wp2
        go_ret
        exact ⟨_, rfl, HR.out.symm, Below.refl _ _⟩
    · have z1 : decide ((1 : Int) ≤ v) = false := by simp; omega
      go_enter Tryz.func11, Tryz.ntmps11
      go_wp2
      go_ret
      exact ⟨_, rfl, HR.out.symm, Below.refl _ _⟩

end Go.Proofs.YtngnbflkiiehmaaGreatDoor
namespace Go.Proofs.YtngnbflkiiehmaaGreatDoor
open Go.RowKit Go.Proofs.Sha

/-- A sector with its mark is read. -/
def CX (mk : Nat) (s : ByteArray) (a : Nat) (f : Bool) (t : ByteArray) (a' : Nat) (f' : Bool) : Prop :=
  (f = false ∧ a + 64 ≤ s.size ∧ (s.data.toList.getD (a + 63) 0).toNat = mk ∧ t = s.extract a (a + 63) ∧ a' = a + 64 ∧ f' = false) ∨
  ((f = true ∨ ¬ (a + 64 ≤ s.size ∧ (s.data.toList.getD (a + 63) 0).toNat = mk)) ∧ f' = true)

theorem CX_of {mk : Nat} {s : ByteArray} {a : Nat} {f : Bool} {t : ByteArray} {a1 : Nat} {f1 : Bool} {t2 : ByteArray} {a2 : Nat} {f2 : Bool} {v : Nat} (_hmk : 1 ≤ mk) (h1 : NX s a f 63 t a1 f1) (h2 : NX s a1 f1 1 t2 a2 f2) (hv : v = valTo 1 false (byteAt t2) t2.size) :
    (v = mk → CX mk s a f t a2 f2) ∧ (¬ v = mk → CX mk s a f t a2 true) := by
  rcases h1 with ⟨hf, hle, ht, ha1, hf1⟩ | ⟨hf, _, ha1, hf1⟩
  · subst ha1
    rcases NX1 h2 with ⟨_, hle2, hv2, ha2, hf2⟩ | ⟨hno, hf2⟩
    · rw [hv2] at hv
      refine ⟨fun e => .inl ⟨hf, by omega, by rw [← hv]; exact e, ht, by omega, hf2⟩, fun e => .inr ⟨.inr fun hh => e ?_, rfl⟩⟩
      rw [hv]; exact hh.2
    · have hn : ¬ a + 64 ≤ s.size := by
        rcases hno with g | g
        · rw [hf1] at g; cases g
        · omega
      exact ⟨fun _ => .inr ⟨.inr fun hh => hn hh.1, hf2⟩, fun _ => .inr ⟨.inr fun hh => hn hh.1, rfl⟩⟩
  · have hf2 : f2 = true := by
      rcases h2 with ⟨g, _⟩ | ⟨_, _, _, g⟩
      · rw [hf1] at g; cases g
      · exact g
    have hn : f = true ∨ ¬ (a + 64 ≤ s.size ∧ (s.data.toList.getD (a + 63) 0).toNat = mk) := by
      rcases hf with g | g
      · exact .inl g
      · exact .inr fun hh => g (by omega)
    exact ⟨fun _ => .inr ⟨hn, hf2⟩, fun _ => .inr ⟨hn, rfl⟩⟩

set_option maxRecDepth 100000 in
theorem sec_take (mk : Nat) (r : Nat) (s : ByteArray) (a : Nat) (f : Bool) (w : World) (h : Rd r s a f w) (ha : a ≤ s.size) (hs : s.size ≤ 1048576) (_hmk : mk ≤ 255) (hmk1 : 1 ≤ mk) :
    Calls Tryz.prog 116 #[.agg #[.int .i64 (mk : Int)], .pointer (some ⟨r, 0, none⟩)] w fun e w' => ∃ (t : ByteArray) (a' : Nat) (f' : Bool), e = .returned (.string t) ∧ Hid (CX mk s a f t a' f') ∧ a' ≤ s.size ∧ t.size ≤ s.size ∧ Rd r s a' f' w' ∧ Mv r w w' := by
  have HN : Hid (∀ w', Rd r s a f w' → Calls Tryz.prog 108 #[.pointer (some ⟨r, 0, none⟩), .int .i64 63] w' fun e w'' => ∃ t a' f', e = .returned (.string t) ∧ Hid (NX s a f 63 t a' f') ∧ a' ≤ s.size ∧ t.size ≤ s.size ∧ Rd r s a' f' w'' ∧ Mv r w' w'') := fun w' h' => next_any r s a f 63 w' h' ha hs (by omega)
  have HI : Hid (∀ (a : Nat) (f : Bool) w', a ≤ s.size → Rd r s a f w' → Calls Tryz.prog 86 #[.pointer (some ⟨r, 0, none⟩), .iface 123 (.agg #[.int .i64 1, .bool false])] w' fun e w'' => ∃ (v : Nat) (t : ByteArray) (a' : Nat) (f' : Bool), e = .returned (.int .i64 (v : Int)) ∧ Hid (NX s a f 1 t a' f') ∧ Hid (v = valTo 1 false (byteAt t) t.size) ∧ a' ≤ s.size ∧ v < 4294967296 ∧ Rd r s a' f' w'' ∧ Mv r w' w'') := fun a f w' ha' h' => rint1 r s a f w' h' ha' hs
  have hlt := h.lt
  obtain ⟨fb, hfb⟩ : ∃ fb, w.heap.size = fb := ⟨_, rfl⟩
  go_enter Tryz.func116, Tryz.ntmps116
  go_wp2_with fail
  refine (HN.out _ (h.alloc _)).mono ?_
  rintro e w1 ⟨t, a1, f1, rfl, HX, ha1, ht, hr1, hm1⟩
  have hn1 : w1.heap[fb]? = some (.cells #[.int .i64 (mk : Int)] 141) := by rw [← hfb]; exact hm1.cells (heap_alloc_new _ _) (by omega)
  have hmw : Mv r w w1 := ((Mv.refl r w).alloc _).trans hm1
  have c0 : w1.cell? ⟨fb, 0, none⟩ = some (.int .i64 (mk : Int)) := Lib.cell_of_heap hn1 0
  clear hm1 HN
  go_wp2_with fail
  go_region_held3 (fun W => W.cell? ⟨fb, 0, none⟩ = some (.int .i64 (mk : Int))) (first | exact c0 | exact Lib.cell_of_heap hn2 0)
    (first | (go_at_call 86; refine (HI.out a1 f1 _ ha1 hr1.drew).mono ?_; rintro e w2 ⟨v, t2, a2, f2, rfl, HX2, HV, ha2, hv, hr2, hm2⟩; have hn2 := hm2.cells (show w1.drew.heap[fb]? = _ from hn1) (by omega)))
  have hmw2 : Mv r w w2 := hmw.drew.trans hm2
  have HCX := CX_of hmk1 HX.out HX2.out HV.out
  by_cases hvm : v = mk
  · have z1 : ((v : Int) == (mk : Int)) = true := by rw [hvm]; simp
    have HC : Hid (CX mk s a f t a2 f2) := HCX.1 hvm
    clear HCX hvm HX HX2 HV
    go_wp2_with fail
    go_ret
    exact ⟨t, a2, f2, rfl, HC, ha2, ht, hr2, hmw2⟩
  · have z1 : ((v : Int) == (mk : Int)) = false := by rw [beq_eq_false_iff_ne]; omega
    have HC : Hid (CX mk s a f t a2 true) := HCX.2 hvm
    clear HCX hvm HX HX2 HV
    go_wp2_with (first | (go_at_call 52; refine (fail_any r s a2 f2 _ hr2).mono ?_; rintro e w3 ⟨rfl, hr3, hm3⟩))
    go_ret
    exact ⟨t, a2, true, rfl, HC, ha2, ht, hr3, hmw2.trans hm3⟩

theorem CX.fault {mk : Nat} {s : ByteArray} {a : Nat} {f : Bool} {t : ByteArray} {a' : Nat} (h : CX mk s a f t a' true) (t' : ByteArray) : CX mk s a f t' a' true := by
  rcases h with ⟨_, _, _, _, _, h⟩ | h
  · cases h
  · exact .inr h

set_option maxRecDepth 100000 in
theorem rsec (mk : Nat) (r : Nat) (s : ByteArray) (a : Nat) (f : Bool) (w : World) (h : Rd r s a f w) (ha : a ≤ s.size) (hs : s.size ≤ 1048576) (hmk : mk ≤ 255) (hmk1 : 1 ≤ mk) :
    Calls Tryz.prog 85 #[.pointer (some ⟨r, 0, none⟩), .iface 141 (.agg #[.int .i64 (mk : Int)])] w fun e w' => ∃ (t : ByteArray) (a' : Nat) (f' : Bool), e = .returned (.string t) ∧ Hid (CX mk s a f t a' f') ∧ (f' = true → t = ⟨#[]⟩) ∧ a' ≤ s.size ∧ t.size ≤ s.size ∧ Rd r s a' f' w' ∧ Mv r w w' := by
  have hmt : ∀ w : World, (method 292 141 (.agg #[.int .i64 (mk : Int)]) "loop.example/s03048/impl.take").run Tryz.prog w = .ok (116, .agg #[.int .i64 (mk : Int)]) w := fun _ => by kernel_rfl
  have HCh : Hid (Calls Tryz.prog 116 #[.agg #[.int .i64 (mk : Int)], .pointer (some ⟨r, 0, none⟩)] w fun e w' => ∃ (t : ByteArray) (a' : Nat) (f' : Bool), e = .returned (.string t) ∧ Hid (CX mk s a f t a' f') ∧ a' ≤ s.size ∧ t.size ≤ s.size ∧ Rd r s a' f' w' ∧ Mv r w w') := sec_take mk r s a f w h ha hs hmk hmk1
  go_enter Tryz.func85, Tryz.ntmps85
  go_wp2_with (first | (go_at_call 116; refine HCh.out.mono ?_; rintro e w1 ⟨t, a', f', rfl, HX, ha', ht, hr1, hm1⟩; have c2 : w1.cell? ⟨r, 2, none⟩ = some (.bool f') := Lib.cell_of_heap hr1 2))
  · rename_i hf
    go_ret
    subst hf
    exact ⟨⟨#[]⟩, a', true, rfl, HX.out.fault _, fun _ => rfl, ha', Nat.zero_le _, hr1, hm1⟩
  · rename_i hf
    go_ret
    exact ⟨t, a', f', rfl, HX, fun h => absurd h (by simpa using hf), ha', ht, hr1, hm1⟩
end Go.Proofs.YtngnbflkiiehmaaGreatDoor
namespace Go.Proofs.YtngnbflkiiehmaaGreatDoor
open Go.RowKit Go.Proofs.Sha

/-- All its bytes are zero. -/
def zeroT (t : ByteArray) : Bool := t.data.toList.all (· == 0)
theorem dw_empty (p : UInt8 → Bool) : ∀ l : List UInt8, (l.dropWhile p).isEmpty = l.all p
  | [] => rfl
  | a :: r => by
    rw [List.dropWhile_cons, List.all_cons]
    cases h : p a
    · rfl
    · simp [dw_empty p r]
theorem dw_all (p : UInt8 → Bool) : ∀ l : List UInt8, (l.dropWhile p).all p = l.all p
  | [] => rfl
  | a :: r => by
    rw [List.dropWhile_cons]
    cases h : p a
    · simp [h]
    · simp [h, dw_all p r]
theorem trim_zero (l : List UInt8) : (Lib.trimB l 0).isEmpty = l.all (· == 0) := by
  unfold Lib.trimB Lib.trimLeftB Lib.trimRightB
  rw [dw_empty, List.all_reverse, dw_all, List.all_reverse]
theorem trim_any (t : ByteArray) (w : World) (ht : t.size ≤ 1048576) :
    Calls Tryz.prog 122 #[.string t, .string ⟨#[0]⟩] w fun e w' => ∃ y : ByteArray, e = .returned (.string y) ∧ Hid (y.toList.isEmpty = zeroT t) ∧ Below w.heap.size w w' := by
  refine (Tryz.strings_Trim_one t 0 (by decide) w (by omega)).mono ?_
  rintro e w' ⟨rfl, hw⟩
  refine ⟨_, rfl, ?_, ?_⟩
  · show (_ : Bool) = _
    rw [ByteArray.toList_eq]
    exact trim_zero t.data.toList
  · rcases hw with rfl | rfl
    · exact Below.refl _ _
    · exact (Below.refl _ _).drew

/-- A text with its size in four bytes ahead and zeros behind is read. -/
def PX (s : ByteArray) (a : Nat) (f : Bool) (t : ByteArray) (a' : Nat) (f' : Bool) : Prop :=
  ∃ (a1 : Nat) (f1 : Bool) (t2 : ByteArray) (f2 : Bool), SX 4 true s a f t a1 f1 ∧ a1 ≤ s.size ∧ NX s a1 f1 (gap a1) t2 a' f2 ∧ f' = (f2 || !zeroT t2)

set_option maxRecDepth 100000 in
set_option maxHeartbeats 1000000 in
theorem padS_take (r : Nat) (s : ByteArray) (a : Nat) (f : Bool) (w : World) (h : Rd r s a f w) (ha : a ≤ s.size) (hs : s.size ≤ 90000) :
    Calls Tryz.prog 154 #[.agg #[.iface 125 (.agg #[.int .i64 4, .bool true])], .pointer (some ⟨r, 0, none⟩)] w fun e w' => ∃ (t : ByteArray) (a' : Nat) (f' : Bool), e = .returned (.string t) ∧ Hid (PX s a f t a' f') ∧ a' ≤ s.size ∧ t.size ≤ s.size ∧ Rd r s a' f' w' ∧ Mv r w w' := by
  have HS : Hid (∀ w', Rd r s a f w' → Calls Tryz.prog 85 #[.pointer (some ⟨r, 0, none⟩), .iface 125 (.agg #[.int .i64 4, .bool true])] w' fun e w'' => ∃ (t : ByteArray) (a' : Nat) (f' : Bool), e = .returned (.string t) ∧ Hid (SX 4 true s a f t a' f') ∧ a' ≤ s.size ∧ t.size ≤ s.size ∧ Rd r s a' f' w'' ∧ Mv r w' w'') := fun w' h' => rsized 4 true r s a f w' h' ha (by omega) (by omega) (by omega)
  have hlt := h.lt
  go_enter Tryz.func154, Tryz.ntmps154
  go_wp2_with fail
  refine (HS.out _ (h.alloc _)).mono ?_
  rintro e w1 ⟨t, a1, f1, rfl, HX, ha1, ht, hr1, hm1⟩
  have hmw : Mv r w w1 := ((Mv.refl r w).alloc _).trans hm1
  obtain ⟨g, hg⟩ : ∃ g, gap a1 = g := ⟨_, rfl⟩
  have g63 : g < 63 := by rw [← hg]; exact gap_lt _
  have HM : Hid (∀ w', Calls Tryz.prog 120 #[.int .i64 (a1 : Int)] w' fun e w'' => e = .returned (.int .i64 (g : Int)) ∧ w' = w'') := fun w' => by rw [← hg]; exact missing_any a1 w' (by omega)
  have HN : Hid (∀ w', Rd r s a1 f1 w' → Calls Tryz.prog 108 #[.pointer (some ⟨r, 0, none⟩), .int .i64 (g : Int)] w' fun e w'' => ∃ t a' f', e = .returned (.string t) ∧ Hid (NX s a1 f1 g t a' f') ∧ a' ≤ s.size ∧ t.size ≤ s.size ∧ Rd r s a' f' w'' ∧ Mv r w' w'') := fun w' h' => next_any r s a1 f1 g w' h' ha1 (by omega) (by omega)
  have HG : Hid (gap a1 = g) := hg
  have c1 : w1.cell? ⟨r, 1, none⟩ = some (.int .i64 (a1 : Int)) := Lib.cell_of_heap hr1 1
  clear hm1 HS hg
  go_wp2_with fail
  refine (HM.out _).mono ?_
  rintro e w2 ⟨rfl, rfl⟩
  go_wp2_with fail
  refine (HN.out _ hr1).mono ?_
  rintro e w2 ⟨t2, a2, f2, rfl, HX2, ha2, ht2, hr2, hm2⟩
  go_wp2_with fail
  refine (trim_any t2 _ (by omega)).mono ?_
  rintro e w3 ⟨y, rfl, HY, hb3⟩
  have hr3 := hr2.below hb3
  have hmw3 : Mv r w w3 := (hmw.trans hm2).trans (Mv.of_below r hb3)
  have HP : Hid (∀ f', f' = (f2 || !zeroT t2) → PX s a f t a2 f') := fun f' hf' => ⟨a1, f1, t2, f2, HX.out, ha1, by rw [HG.out]; exact HX2.out, hf'⟩
  clear hb3 hm2 hmw hr2 hr1 c1 HX HX2 HM HN
  obtain ⟨z, hz⟩ : ∃ z, zeroT t2 = z := ⟨_, rfl⟩
  have ye : y.toList.isEmpty = z := by rw [HY.out, hz]
  rw [hz] at HP
  clear HY hz
  cases z
  · go_wp2_with (first | (go_at_call 52; refine (fail_any r s a2 f2 _ hr3).mono ?_; rintro e w4 ⟨rfl, hr4, hm4⟩))
    go_ret
    exact ⟨t, a2, true, rfl, HP.out true (by simp), ha2, ht, hr4, hmw3.trans hm4⟩
  · go_wp2_with fail
    go_ret
    exact ⟨t, a2, f2, rfl, HP.out f2 (by simp), ha2, ht, hr3, hmw3⟩

set_option maxRecDepth 100000 in
theorem rpadS (r : Nat) (s : ByteArray) (a : Nat) (f : Bool) (w : World) (h : Rd r s a f w) (ha : a ≤ s.size) (hs : s.size ≤ 90000) :
    Calls Tryz.prog 85 #[.pointer (some ⟨r, 0, none⟩), .iface 150 (.agg #[.iface 125 (.agg #[.int .i64 4, .bool true])])] w fun e w' => ∃ (t t' : ByteArray) (a' : Nat) (f' : Bool), e = .returned (.string t') ∧ Hid (PX s a f t a' f') ∧ t' = (if f' = true then ⟨#[]⟩ else t) ∧ a' ≤ s.size ∧ t.size ≤ s.size ∧ Rd r s a' f' w' ∧ Mv r w w' := by
  have hmt : ∀ w : World, (method 292 150 (.agg #[.iface 125 (.agg #[.int .i64 4, .bool true])]) "loop.example/s03048/impl.take").run Tryz.prog w = .ok (154, .agg #[.iface 125 (.agg #[.int .i64 4, .bool true])]) w := fun _ => by kernel_rfl
  have HCh : Hid (Calls Tryz.prog 154 #[.agg #[.iface 125 (.agg #[.int .i64 4, .bool true])], .pointer (some ⟨r, 0, none⟩)] w fun e w' => ∃ (t : ByteArray) (a' : Nat) (f' : Bool), e = .returned (.string t) ∧ Hid (PX s a f t a' f') ∧ a' ≤ s.size ∧ t.size ≤ s.size ∧ Rd r s a' f' w' ∧ Mv r w w') := padS_take r s a f w h ha hs
  go_enter Tryz.func85, Tryz.ntmps85
  go_wp2_with (first | (go_at_call 154; refine HCh.out.mono ?_; rintro e w1 ⟨t, a', f', rfl, HX, ha', ht, hr1, hm1⟩; have c2 : w1.cell? ⟨r, 2, none⟩ = some (.bool f') := Lib.cell_of_heap hr1 2))
  · rename_i hf
    go_ret
    subst hf
    exact ⟨t, ⟨#[]⟩, a', true, rfl, HX, rfl, ha', ht, hr1, hm1⟩
  · rename_i hf
    go_ret
    refine ⟨t, t, a', f', rfl, HX, ?_, ha', ht, hr1, hm1⟩
    rw [if_neg (by simpa using hf)]

set_option maxRecDepth 100000 in
theorem whole_S (s : ByteArray) (w : World) (hs : s.size ≤ 90000) :
    Calls Tryz.prog 98 #[.string s, .iface 150 (.agg #[.iface 125 (.agg #[.int .i64 4, .bool true])])] w fun e w' => ∃ (t t' : ByteArray) (a' : Nat) (f' b : Bool), e = .returned (.tuple #[.string t', .bool b]) ∧ Hid (PX s 0 false t a' f') ∧ Hid (b = decide (f' = false ∧ a' = s.size)) ∧ t' = (if b = true then t else ⟨#[]⟩) ∧ a' ≤ s.size ∧ t.size ≤ s.size ∧ Below w.heap.size w w' := by
  obtain ⟨fb, hfb⟩ : ∃ fb, w.heap.size = fb := ⟨_, rfl⟩
  go_enter Tryz.func98, Tryz.ntmps98
  go_wp2_with fail
  have hr0 : Rd fb s 0 false (w.alloc (.cells #[.string s, .int .i64 0, .bool false] 61)) := by unfold Rd; rw [← hfb]; exact heap_alloc_new _ _
  refine (rpadS fb s 0 false _ hr0 (by omega) hs).mono ?_
  rintro e w1 ⟨t, t', a', f', rfl, HX, ht', ha', ht, hr1, hm1⟩
  have hbw : Below w.heap.size w w1 := ((Below.refl _ w).alloc (Nat.le_refl _) _).trans (hm1.to_below (by simp) (by omega))
  have c1 : w1.cell? ⟨fb, 1, none⟩ = some (.int .i64 (a' : Int)) := Lib.cell_of_heap hr1 1
  have c2 : w1.cell? ⟨fb, 2, none⟩ = some (.bool f') := Lib.cell_of_heap hr1 2
  clear hr1 hm1 hr0
  cases f'
  · have ht2 : t' = t := by rw [ht', if_neg (by simp)]
    subst ht2
    clear ht'
    by_cases hlt : a' < s.size
    · have z1 : decide ((a' : Int) < (s.size : Int)) = true := by simp; omega
      go_wp2_with fail
      go_ret2
      exact ⟨t', ⟨#[]⟩, a', false, false, rfl, HX, by show false = _; rw [decide_eq_false (by omega)], rfl, ha', ht, hbw⟩
    · have z1 : decide ((a' : Int) < (s.size : Int)) = false := by simp; omega
      go_wp2_with fail
      go_ret2
      exact ⟨t', t', a', false, true, rfl, HX, by show true = _; rw [decide_eq_true ⟨rfl, by omega⟩], rfl, ha', ht, hbw⟩
  · clear ht'
    go_wp2_with fail
    go_ret2
    exact ⟨t, ⟨#[]⟩, a', true, false, rfl, HX, by show false = _; rw [decide_eq_false (by simp)], rfl, ha', ht, hbw⟩
end Go.Proofs.YtngnbflkiiehmaaGreatDoor
namespace Go.Proofs.YtngnbflkiiehmaaGreatDoor
open Go.RowKit Go.Proofs.Sha

theorem Bld.mv {b r : Nat} {l : List UInt8} {w w' : World} {s : ByteArray} {a : Nat} {f : Bool} (h : Bld b l w) (hm : Mv r w w') (hr : Rd r s a f w) : Bld b l w' := by
  have H : ∀ p, Lib.BuilderAtF 70 5 b b p (Lib.byteCells l) w → Lib.BuilderAtF 70 5 b b p (Lib.byteCells l) w' := by
    rintro p ⟨h1, v, h2, h3, h4⟩
    have l2 := (Array.getElem?_eq_some_iff.1 h2).1
    have hbr : b ≠ r := by
      intro e; rw [e] at h2; rw [Rd] at hr; rw [hr] at h2; simp at h2
    refine ⟨h1, v, (hm.block b l2 hbr).trans h2, ⟨h3.1, ?_⟩, h4⟩
    rcases h3.2 with hn | ⟨g, cap, cur, fz, hv, hbg, hg, rest⟩
    · exact .inl hn
    · have hgr : g ≠ r := by
        intro e; rw [e] at hg; rw [Rd] at hr; rw [hr] at hg; simp at hg
      exact .inr ⟨g, cap, cur, fz, hv, hbg, (hm.block g (Array.getElem?_eq_some_iff.1 hg).1 hgr).trans hg, rest⟩
  rcases h with h | h
  · exact .inl (H _ h)
  · exact .inr (H _ h)
theorem Rd.put {b r : Nat} {l : List UInt8} {w w' : World} {s : ByteArray} {a : Nat} {f : Bool} (h : Rd r s a f w) (hp : Put b l w w') (hne : r ≠ b) : Rd r s a f w' := hp.cells h hne (by decide)
theorem Mv.put {b r : Nat} {l : List UInt8} {w w' w'' : World} (h : Mv r w w') (hp : Put b l w' w'') (hb : w.heap.size ≤ b) : Mv r w w'' :=
  ⟨hp.2.1.os.trans h.os, hp.2.1.tape.trans h.tape, hp.2.1.output.trans h.output, Nat.le_trans h.size hp.2.1.size, fun k hk hr => (hp.2.1.block k (by omega)).trans (h.block k hk hr)⟩

theorem secsFor_any (n : Nat) (w : World) (hn : n ≤ 100000) :
    Calls Tryz.prog 97 #[.int .i64 (n : Int)] w fun e w' => e = .returned (.int .i64 (((n + 62) / 63 : Nat) : Int)) ∧ w = w' := by
  go_enter Tryz.func97, Tryz.ntmps97
  go_wp2
  go_ret
  exact ⟨congrArg Ending.returned (congrArg (Value.int .i64) (by omega)), rfl⟩
theorem vsize_any (n : Nat) (w : World) : Calls Tryz.prog 35 #[.int .i64 (n : Int)] w fun e w' => e = .returned (.bool (decide (1 ≤ n ∧ n ≤ 4000))) ∧ w = w' := by
  by_cases h1 : 1 ≤ n
  · by_cases h2 : n ≤ 4000
    · have z1 : decide ((1 : Int) ≤ (n : Int)) = true := by simp; omega
      have z2 : decide ((n : Int) ≤ 4000) = true := by simp; omega
      rw [decide_eq_true ⟨h1, h2⟩]
      go_enter Tryz.func35, Tryz.ntmps35
      go_wp2
      go_ret
      exact ⟨rfl, rfl⟩
    · have z1 : decide ((1 : Int) ≤ (n : Int)) = true := by simp; omega
      have z2 : decide ((n : Int) ≤ 4000) = false := by simp; omega
      rw [decide_eq_false (by omega)]
      go_enter Tryz.func35, Tryz.ntmps35
      go_wp2
      go_ret
      exact ⟨rfl, rfl⟩
  · have z1 : decide ((1 : Int) ≤ (n : Int)) = false := by simp; omega
    rw [decide_eq_false (by omega)]
    go_enter Tryz.func35, Tryz.ntmps35
    go_wp2
    go_ret
    exact ⟨rfl, rfl⟩

theorem num_first {s : ByteArray} {a : Nat} {t1 : ByteArray} {a1 : Nat} {f1 : Bool} {t3 : ByteArray} {a3 : Nat} {f3 : Bool} {N : Nat} (h1 : CX 83 s a false t1 a1 f1) (hf1 : f1 = true → t1 = ⟨#[]⟩) (h3 : NX t1 0 false 4 t3 a3 f3) (hN : N = valTo 4 true (byteAt t3) t3.size) :
    ((a + 64 ≤ s.size ∧ (s.data.toList.getD (a + 63) 0).toNat = 83) → f1 = false ∧ t1 = s.extract a (a + 63) ∧ a1 = a + 64 ∧ N = numAt s a) ∧ (1 ≤ N → a + 64 ≤ s.size ∧ (s.data.toList.getD (a + 63) 0).toNat = 83) := by
  rcases h1 with ⟨_, hle, hmk, ht1, ha1, hf⟩ | ⟨hno, hf⟩
  · refine ⟨fun _ => ⟨hf, ht1, ha1, ?_⟩, fun _ => ⟨hle, hmk⟩⟩
    have hs1 : t1.size = 63 := by rw [ht1]; exact ex_size s a 63 (by omega)
    rcases h3 with ⟨_, _, ht3, _, _⟩ | ⟨g, _⟩
    · rw [hN, ht3, ex_size t1 0 4 (by omega), val4 _ (byteAt_lt _), byteAt_ex t1 0 4 0 (by omega), byteAt_ex t1 0 4 1 (by omega), byteAt_ex t1 0 4 2 (by omega), byteAt_ex t1 0 4 3 (by omega)]
      have hb : ∀ j, j < 63 → (t1.data.toList.getD (0 + j) 0).toNat = (s.data.toList.getD (a + j) 0).toNat := fun j hj => by
        rw [ht1, ex_list, List.getD_eq_getElem?_getD, List.getD_eq_getElem?_getD, List.getElem?_take_of_lt (by omega), List.getElem?_drop, Nat.zero_add]
      rw [hb 0 (by omega), hb 1 (by omega), hb 2 (by omega), hb 3 (by omega)]
      rfl
    · rcases g with g | g
      · cases g
      · omega
  · refine ⟨fun hh => ?_, fun h1 => ?_⟩
    · rcases hno with g | g
      · cases g
      · exact absurd hh g
    · have ht : t1 = ⟨#[]⟩ := hf1 hf
      have ht3 : t3 = ⟨#[]⟩ := by
        rcases h3 with ⟨_, g, _⟩ | ⟨_, g, _⟩
        · rw [ht] at g; exact absurd g (by decide)
        · exact g
      rw [hN, ht3] at h1
      exact absurd h1 (by decide)

/-- What a node record's reading answers and leaves. -/
def NodeR (s : ByteArray) (a : Nat) (k : Int) (enc : ByteArray) (v : Int) (root : ByteArray) (nx : Int) (a' : Nat) (f' : Bool) : Prop :=
  (f' = false ∧ IsNode s a enc ∧ a' = a + 64 * secs enc.size ∧ k = 1 ∧ v = 0 ∧ root = ⟨#[]⟩ ∧ nx = 0) ∨ (f' = true ∧ ∀ enc', ¬ IsNode s a enc')

/-- A record's block. -/
def RB (g : Nat) (k : Int) (enc : ByteArray) (v : Int) (root : ByteArray) (nx : Int) (w : World) : Prop := w.heap[g]? = some (.cells #[.int .i64 k, .string enc, .int .i64 v, .string root, .int .i64 nx] 36)
theorem RB.at {g : Nat} {k : Int} {enc : ByteArray} {v : Int} {root : ByteArray} {nx : Int} {w : World} (h : RB g k enc v root nx w) : RecAt w g k enc v root nx :=
  ⟨Lib.cell_of_heap h 0, Lib.cell_of_heap h 1, Lib.cell_of_heap h 2, Lib.cell_of_heap h 3, Lib.cell_of_heap h 4, frozen_of_heap h, frozen_of_heap h, frozen_of_heap h, frozen_of_heap h, frozen_of_heap h⟩
theorem retRec {fn : Func} {w : World} {g : Nat} {k : Int} {enc : ByteArray} {v : Int} {root : ByteArray} {nx : Int} (hres : fn.results = #[.cell 4 36]) (h : RecAt w g k enc v root nx) {a : Act} {R : Ending → World → Prop} (h4 : a.tmps.getD 4 undef = .pointer (some ⟨g, 0, none⟩)) (hd : a.defers = [])
    (hR : R (.returned (recV k enc v root nx)) w) : bodyPost Tryz.prog fn R .ret a w := by
  obtain ⟨c0, c1, c2, c3, c4, f0, f1, f2, f3, f4⟩ := h
  have h4' : a.tmps[4]?.getD undef = .pointer (some ⟨g, 0, none⟩) := by simpa using h4
  exact bodyPost_ret (v := recV k enc v root nx) (by simp [results, hres, go_sem, h4', asAddr, c0, c1, c2, c3, c4]) hd hR
theorem fin5 {w W : World} {fb g r : Nat} {s : ByteArray} {a : Nat} {f : Bool} (hr : Rd r s a f W) (hm : Mv r w W) (hsz : w.heap.size = fb) (hg : fb ≤ g) (hl : r < fb) (x0 x1 x2 x3 x4 : Value) :
    Rd r s a f (((((W.setCell ⟨g, 0, none⟩ x0).setCell ⟨g, 1, none⟩ x1).setCell ⟨g, 2, none⟩ x2).setCell ⟨g, 3, none⟩ x3).setCell ⟨g, 4, none⟩ x4) ∧
    Mv r w (((((W.setCell ⟨g, 0, none⟩ x0).setCell ⟨g, 1, none⟩ x1).setCell ⟨g, 2, none⟩ x2).setCell ⟨g, 3, none⟩ x3).setCell ⟨g, 4, none⟩ x4) :=
  ⟨((((hr.other (by omega)).other (by omega)).other (by omega)).other (by omega)).other (by omega), ((((hm.other hsz hg).other hsz hg).other hsz hg).other hsz hg).other hsz hg⟩

/-- The sectors behind the first, up to number i, bear their marks. -/
def good (s : ByteArray) (a i : Nat) : Prop := ∀ j, 1 ≤ j → j ≤ i → a + 64 * j + 64 ≤ s.size ∧ (s.data.toList.getD (a + 64 * j + 63) 0).toNat = 77
def MI (s : ByteArray) (a i a' : Nat) (f' : Bool) (l : List UInt8) : Prop :=
  (f' = false ∧ good s a i ∧ a' = a + 64 * (i + 1) ∧ l = unTo s a (i + 1)) ∨ (¬ good s a i ∧ f' = true)
theorem MI.step {s : ByteArray} {a i a' : Nat} {f' : Bool} {l : List UInt8} {t : ByteArray} {a'' : Nat} {f'' : Bool} (h : MI s a i a' f' l) (hc : CX 77 s a' f' t a'' f'') : MI s a (i + 1) a'' f'' (l ++ t.data.toList) := by
  rcases h with ⟨hf, hg, ha, hl⟩ | ⟨hg, hf⟩
  · subst ha
    rcases hc with ⟨_, hle, hmk, ht, ha'', hf''⟩ | ⟨hno, hf''⟩
    · refine .inl ⟨hf'', fun j h1 h2 => ?_, by omega, by rw [unTo, hl, ht]⟩
      by_cases hj : j ≤ i
      · exact hg j h1 hj
      · have : j = i + 1 := by omega
        subst this
        exact ⟨hle, hmk⟩
    · refine .inr ⟨fun hg' => ?_, hf''⟩
      rcases hno with g | g
      · rw [hf] at g; cases g
      · exact g (hg' (i + 1) (by omega) (Nat.le_refl _))
  · refine .inr ⟨fun hg' => hg fun j h1 h2 => hg' j h1 (by omega), ?_⟩
    rcases hc with ⟨g, _⟩ | ⟨_, g⟩
    · rw [hf] at g; cases g
    · exact g
theorem CX.small {mk : Nat} {s : ByteArray} {a : Nat} {f : Bool} {t : ByteArray} {a' : Nat} {f' : Bool} (h : CX mk s a f t a' f') (hf : f' = true → t = ⟨#[]⟩) : t.size ≤ 63 := by
  rcases h with ⟨_, hle, _, ht, _, _⟩ | ⟨_, g⟩
  · rw [ht, ByteArray.size_extract]; omega
  · rw [hf g]; exact Nat.zero_le _

/-- What stands while a node record is read. -/
structure BS (w : World) (fb r b : Nat) (s : ByteArray) (a : Nat) (f : Bool) (l : List UInt8) (W : World) : Prop where
  sz : w.heap.size = fb
  lt : r < fb
  bb : fb + 1 < b
  bld : Bld b l W
  rd : Rd r s a f W
  mv : Mv r w W
  rb : RB (fb + 1) 0 ⟨#[]⟩ 0 ⟨#[]⟩ 0 W
section
variable {w : World} {fb r b : Nat} {s : ByteArray} {a : Nat} {f : Bool} {l : List UInt8} {W W' : World}
theorem BS.below (h : BS w fb r b s a f l W) (hb : Below W.heap.size W W') : BS w fb r b s a f l W' :=
  ⟨h.sz, h.lt, h.bb, h.bld.below hb, h.rd.below hb, h.mv.trans (Mv.of_below r hb), below_cells hb h.rb⟩
theorem BS.put (h : BS w fb r b s a f l W) {l' : List UInt8} (hp : Put b l' W W') : BS w fb r b s a f l' W' :=
  have h1 := h.lt; have h2 := h.bb; have h3 := h.sz
  ⟨h.sz, h.lt, h.bb, hp.1, h.rd.put hp (by omega), h.mv.put hp (by omega), hp.cells h.rb (by omega) (by decide)⟩
theorem BS.move (h : BS w fb r b s a f l W) {a' : Nat} {f' : Bool} (hr : Rd r s a' f' W') (hm : Mv r W W') : BS w fb r b s a' f' l W' :=
  have h1 := h.lt
  ⟨h.sz, h.lt, h.bb, h.bld.mv hm h.rd, hr, h.mv.trans hm, hm.cells h.rb (by omega)⟩
end
theorem wsb (b : Nat) (l : List UInt8) (s : ByteArray) (w : World) (h : Bld b l w) (hl : l.length + s.size ≤ 100000) :
    Calls Tryz.prog 96 #[.pointer (some ⟨b, 0, none⟩), .string s] w fun e w' => ∃ x, e = .returned x ∧ Put b (l ++ s.data.toList) w w' := (ws_any b l s w h hl).mono (by rintro e w' ⟨rfl, hp⟩; exact ⟨_, rfl, hp⟩)

end Go.Proofs.YtngnbflkiiehmaaGreatDoor
