import Derived.Test.YtibjhkpgaaapaaaGreatDoorZgai
import Derived.Deep.QuietTactic
import Derived.BigQuiet
import Derived.OwnWalk
import Derived.Test.YtibjhkpgaaapaaaGreatDoorZgag
set_option maxRecDepth 100000
set_option maxHeartbeats 2000000
namespace Go.Proofs.YtibjhkpgaaapaaaGreatDoor
open Go.RowKit Go.Proofs.Sha

theorem empty_iff (l : ByteArray) : l.toList.isEmpty = decide (l.size = 0) := by
  rw [ByteArray.toList_eq]
  have : l.data.toList.length = l.size := rfl
  cases h : l.data.toList with
  | nil =>
    rw [h, List.length_nil] at this
    simp [← this]
  | cons a t =>
    rw [h, List.length_cons] at this
    have h0 : ¬ l.size = 0 := by omega
    simp [h0]
theorem flags_any (k v l r : ByteArray) (w : World) :
    Calls Tryz.prog 248 #[.agg #[.string k, .string v, .string l, .string r]] w fun e w' => e = .returned (.int .i64 (flagOf l.size r.size : Int)) ∧ Below w.heap.size w w' := by
  have hb : Below w.heap.size w (w.alloc (.cells #[.string k, .string v, .string l, .string r] 73)) := (Below.refl _ _).alloc (Nat.le_refl _) _
  by_cases h1 : l.size = 0
  all_goals by_cases h2 : r.size = 0
  all_goals
    have HF : Hid (∃ f, flagOf l.size r.size = f ∧ f = (if l.size = 0 then 0 else 1) + (if r.size = 0 then 0 else 2)) := ⟨_, rfl, rfl⟩
    have e1 := empty_iff l
    have e2 := empty_iff r
    simp only [h1, h2, decide_true, decide_false] at e1 e2
    clear h1 h2
    go_enter Tryz.func248, Tryz.ntmps248
    go_wp2
    go_ret
    obtain ⟨f, hf, hf2⟩ := HF.out
    refine ⟨?_, hb⟩
    rw [hf, hf2]
    rw [empty_iff] at e1 e2
    simp at e1 e2
    simp [e1, e2]
theorem kept_any (w : World) : Calls Tryz.prog 170 #[] w fun e w' => e = .returned (.agg #[.int .i64 2, .bool false]) ∧ Below w.heap.size w w' := by
  go_enter Tryz.func170, Tryz.ntmps170
  go_wp2
  have c0 := Lib.cell_of_heap (heap_alloc_new w (.cells #[.int .i64 2, .bool false] 261)) 0
  have c1 := Lib.cell_of_heap (heap_alloc_new w (.cells #[.int .i64 2, .bool false] 261)) 1
  refine bodyPost_ret (v := .agg #[.int .i64 2, .bool false]) ?_ rfl ⟨rfl, (Below.refl _ _).alloc (Nat.le_refl _) _⟩
  simp [results, Tryz.results170, go_sem, asAddr, c0, c1]
theorem link_any (n f : Int) (w : World) : Calls Tryz.prog 245 #[.agg #[.int .i64 n], .int .i64 f] w fun e w' => e = .returned (.agg #[.int .i64 (if f = 0 then 0 else n)]) ∧ Below w.heap.size w w' := by
  have hb : ∀ x, Below w.heap.size w ((w.alloc (.cells #[.int .i64 n] 285)).alloc (.cells #[.int .i64 x] 214)) := fun x => ((Below.refl _ _).alloc (Nat.le_refl _) _).alloc (by simp) _
  have c0 : ∀ x, ((w.alloc (.cells #[.int .i64 n] 285)).alloc (.cells #[.int .i64 x] 214)).cell? ⟨w.heap.size + 1, 0, none⟩ = some (.int .i64 x) := fun x => by
    have := Lib.cell_of_heap (heap_alloc_new (w.alloc (.cells #[.int .i64 n] 285)) (.cells #[.int .i64 x] 214)) 0
    rw [show (w.alloc (.cells #[.int .i64 n] 285)).heap.size = w.heap.size + 1 by simp] at this
    exact this
  by_cases h : f = 0
  · rw [if_pos h]
    subst h
    go_enter Tryz.func245, Tryz.ntmps245
    go_wp2
    refine bodyPost_ret (v := .agg #[.int .i64 0]) ?_ rfl ⟨rfl, hb _⟩
    simp [results, Tryz.results245, go_sem, asAddr]
  · rw [if_neg h]
    go_enter Tryz.func245, Tryz.ntmps245
    go_wp2
    refine bodyPost_ret (v := .agg #[.int .i64 n]) ?_ rfl ⟨rfl, hb _⟩
    simp [results, Tryz.results245, go_sem, asAddr]

theorem wsized2 (b : Nat) (s : ByteArray) (l : List UInt8) (w : World) (h : Bld b l w) (hl : l.length + s.size ≤ 8000000) :
    Calls Tryz.prog 224 #[.pointer (some ⟨b, 0, none⟩), .iface 261 (.agg #[.int .i64 2, .bool false]), .string s] w fun e w' => e = .returned (.tuple #[]) ∧ Put b (l ++ sized s.data.toList) w w' := by
  have := wsized 2 false b s l w (by omega) (by omega) h hl
  have e0 : ∀ x : Nat, UInt8.ofNat (x % 256) = UInt8.ofNat x := fun x => by apply UInt8.toNat.inj; simp
  have e : numTo 2 false s.size 2 = [UInt8.ofNat (s.size / 256), UInt8.ofNat (s.size % 256)] := by simp [numTo, numByte, e0]
  rw [e, List.append_assoc] at this
  exact this

theorem link_ex (n f : Int) (w : World) : Calls Tryz.prog 245 #[.agg #[.int .i64 n], .int .i64 f] w fun e w' => ∃ p, e = .returned (.agg #[.int .i64 p]) ∧ Below w.heap.size w w' :=
  (link_any n f w).mono (by rintro e w' ⟨rfl, hb⟩; exact ⟨_, rfl, hb⟩)
theorem node_put_f (f : Nat) (F : Int) (hFf : F = (f : Int)) (hf : F = 0 ∨ F = 1 ∨ F = 2 ∨ F = 3) (b : Nat) (n : Int) (k v l r : ByteArray) (q : List UInt8) (w : World) (h : Bld b q w) (hq : q.length ≤ 1000) (hk : k.size ≤ 256) (hv : v.size ≤ 2000) (hl : l.size ≤ 32) (hr : r.size ≤ 32)
    (HF : Hid (∀ w', Calls Tryz.prog 248 #[.agg #[.string k, .string v, .string l, .string r]] w' fun e w'' => e = .returned (.int .i64 F) ∧ Below w'.heap.size w' w'')) :
    Calls Tryz.prog 246 #[.agg #[.int .i64 n], .pointer (some ⟨b, 0, none⟩), .agg #[.string k, .string v, .string l, .string r]] w fun e w' => e = .returned (.tuple #[]) ∧ Put b (q ++ sized k.data.toList ++ sized v.data.toList ++ [UInt8.ofNat f] ++ l.data.toList ++ r.data.toList) w w' := by
  have hlt := h.lt
  obtain ⟨m1, hm1⟩ : ∃ m, q ++ sized k.data.toList = m := ⟨_, rfl⟩
  have z1 : m1.length ≤ 2000 := by rw [← hm1, List.length_append]; show q.length + (k.size + 1 + 1) ≤ _; omega
  obtain ⟨m2, hm2⟩ : ∃ m, m1 ++ sized v.data.toList = m := ⟨_, rfl⟩
  have z2 : m2.length ≤ 5000 := by rw [← hm2, List.length_append]; show m1.length + (v.size + 1 + 1) ≤ _; omega
  obtain ⟨m3, hm3⟩ : ∃ m, m2 ++ [UInt8.ofNat f] = m := ⟨_, rfl⟩
  have z3 : m3.length ≤ 5001 := by rw [← hm3, List.length_append]; show m2.length + 1 ≤ _; omega
  obtain ⟨m4, hm4⟩ : ∃ m, m3 ++ l.data.toList = m := ⟨_, rfl⟩
  have z4 : m4.length ≤ 6000 := by rw [← hm4, List.length_append]; show m3.length + l.size ≤ _; omega
  have HA : Hid (∀ w', Bld b q w' → Calls Tryz.prog 224 #[.pointer (some ⟨b, 0, none⟩), .iface 261 (.agg #[.int .i64 2, .bool false]), .string k] w' fun e w'' => e = .returned (.tuple #[]) ∧ Put b m1 w' w'') := fun w' h' => by rw [← hm1]; exact wsized2 b k q w' h' (by omega)
  have HB : Hid (∀ w', Bld b m1 w' → Calls Tryz.prog 224 #[.pointer (some ⟨b, 0, none⟩), .iface 261 (.agg #[.int .i64 2, .bool false]), .string v] w' fun e w'' => e = .returned (.tuple #[]) ∧ Put b m2 w' w'') := fun w' h' => by rw [← hm2]; exact wsized2 b v m1 w' h' (by omega)
  have HC : Hid (∀ w', Bld b m2 w' → Calls Tryz.prog 223 #[.pointer (some ⟨b, 0, none⟩), .iface 208 (.agg #[.int .i64 1, .bool false]), .int .i64 F] w' fun e w'' => e = .returned (.tuple #[]) ∧ Put b m3 w' w'') := fun w' h' => by rw [← hm3, hFf]; exact wint1 b f m2 w' h' (by omega) (by omega)
  have HD : Hid (∀ p w', Bld b m3 w' → Calls Tryz.prog 224 #[.pointer (some ⟨b, 0, none⟩), .iface 214 (.agg #[.int .i64 p]), .string l] w' fun e w'' => e = .returned (.tuple #[]) ∧ Put b m4 w' w'') := fun p w' h' => by rw [← hm4]; exact wplain p b l m3 w' h' (by omega)
  have HE : Hid (∀ p w', Bld b m4 w' → Calls Tryz.prog 224 #[.pointer (some ⟨b, 0, none⟩), .iface 214 (.agg #[.int .i64 p]), .string r] w' fun e w'' => e = .returned (.tuple #[]) ∧ Put b (m4 ++ r.data.toList) w' w'') := fun p w' h' => wplain p b r m4 w' h' (by omega)
  rw [hm1, hm2, hm3, hm4]
  clear hm1 hm2 hm3 hm4
  have HL : Hid (∀ p w', Calls Tryz.prog 245 #[.agg #[.int .i64 n], .int .i64 p] w' fun e w'' => ∃ p, e = .returned (.agg #[.int .i64 p]) ∧ Below w'.heap.size w' w'') := fun p w' => link_ex n p w'
  obtain ⟨m5, hm5⟩ : ∃ m, m4 ++ r.data.toList = m := ⟨_, rfl⟩
  rw [hm5] at HE ⊢
  clear hm5 hk hv hl hr hq z1 z2 z3 z4 hFf
  rcases hf with rfl | rfl | rfl | rfl
  all_goals
    go_enter Tryz.func246, Tryz.ntmps246
    go_wp2_with (first | (go_at_call 248; refine (HF.out _).mono ?_; rintro e w1 ⟨rfl, hb1⟩))
    have hp1 : Put b q w w1 := (((Put.refl h).alloc (.cells #[.int .i64 n] 285)).alloc (.cells #[.string k, .string v, .string l, .string r] 73)).below hb1
    have hf1 : w1.heap[w.heap.size]? = some (.cells #[.int .i64 n] 285) := below_cells hb1 (below_cells ((Below.refl _ _).alloc (Nat.le_refl _) _) (heap_alloc_new w (.cells #[.int .i64 n] 285)))
    have hn1 : w1.heap[w.heap.size + 1]? = some (.cells #[.string k, .string v, .string l, .string r] 73) := below_cells hb1 (by
      rw [show w.heap.size + 1 = (w.alloc (.cells #[.int .i64 n] 285)).heap.size by simp]; exact heap_alloc_new _ _)
    clear hb1
    have c0 : w1.cell? ⟨w.heap.size + 1, 0, none⟩ = some (.string k) := Lib.cell_of_heap hn1 0
    go_wp2_with fail
    go_region_held3 (fun W => W.cell? ⟨w.heap.size + 1, 0, none⟩ = some (.string k))
      (first | exact c0 | exact Lib.cell_of_heap hnA 0 | exact Lib.cell_of_heap hn2 0)
      (first | (go_at_call 170; refine (kept_any _).mono ?_; rintro e wA ⟨rfl, hbA'⟩; have hbA : Below w1.heap.size w1 wA := (Below.refl w1.heap.size w1).drew.trans hbA'; have hnA := below_cells hbA hn1) | (go_at_call 224; refine (HA.out _ (hp1.1.below hbA)).mono ?_; rintro e w2 ⟨rfl, hpA⟩; have hn2 := hpA.cells hnA (by omega) (by decide); have hf2 := hpA.cells (below_cells hbA hf1) (by omega) (by decide)))
    have hp2 := (hp1.below hbA).trans hpA
    clear hpA hbA' hbA hnA hp1 hn1 hf1 c0
    have c1 : w2.cell? ⟨w.heap.size + 1, 1, none⟩ = some (.string v) := Lib.cell_of_heap hn2 1
    go_wp2_with fail
    go_region_held3 (fun W => W.cell? ⟨w.heap.size + 1, 1, none⟩ = some (.string v))
      (first | exact c1 | exact Lib.cell_of_heap hnB 1 | exact Lib.cell_of_heap hn3 1)
      (first | (go_at_call 170; refine (kept_any _).mono ?_; rintro e wB ⟨rfl, hbB'⟩; have hbB : Below w2.heap.size w2 wB := (Below.refl w2.heap.size w2).drew.trans hbB'; have hnB := below_cells hbB hn2) | (go_at_call 224; refine (HB.out _ (hp2.1.below hbB)).mono ?_; rintro e w3 ⟨rfl, hpB⟩; have hn3 := hpB.cells hnB (by omega) (by decide); have hf3 := hpB.cells (below_cells hbB hf2) (by omega) (by decide)))
    have hp3 := (hp2.below hbB).trans hpB
    clear hpB hbB' hbB hnB hp2 hn2 hf2 c1
    go_wp2_with (first | (go_at_call 223; refine (HC.out _ hp3.1).mono ?_; rintro e w4 ⟨rfl, hpC⟩))
    have hn4 := hpC.cells hn3 (by omega) (by decide)
    have hf4 := hpC.cells hf3 (by omega) (by decide)
    have hp4 := hp3.trans hpC
    clear hpC hp3 hn3 hf3
    have c2 : w4.cell? ⟨w.heap.size + 1, 2, none⟩ = some (.string l) := Lib.cell_of_heap hn4 2
    have d2 : w4.cell? ⟨w.heap.size, 0, none⟩ = some (.int .i64 n) := Lib.cell_of_heap hf4 0
    go_region_held3 (fun W => W.cell? ⟨w.heap.size + 1, 2, none⟩ = some (.string l) ∧ W.cell? ⟨w.heap.size, 0, none⟩ = some (.int .i64 n))
      (first | exact ⟨c2, d2⟩ | exact ⟨Lib.cell_of_heap hnD 2, Lib.cell_of_heap hfD 0⟩ | exact ⟨Lib.cell_of_heap hn5 2, Lib.cell_of_heap hf5 0⟩)
      (first | (go_at_call 245; refine (HL.out _ _).mono ?_; rintro e wD ⟨p, rfl, hbD'⟩; have hbD : Below w4.heap.size w4 wD := (Below.refl w4.heap.size w4).drew.trans hbD'; have hnD := below_cells hbD hn4; have hfD := below_cells hbD hf4) | (go_at_call 224; refine (HD.out _ _ (hp4.1.below hbD)).mono ?_; rintro e w5 ⟨rfl, hpD⟩; have hn5 := hpD.cells hnD (by omega) (by decide); have hf5 := hpD.cells hfD (by omega) (by decide)))
    have hp5 := (hp4.below hbD).trans hpD
    clear hpD hbD' hbD hnD hp4 hn4 hf4 c2 d2 hfD
    have c3 : w5.cell? ⟨w.heap.size + 1, 3, none⟩ = some (.string r) := Lib.cell_of_heap hn5 3
    have d3 : w5.cell? ⟨w.heap.size, 0, none⟩ = some (.int .i64 n) := Lib.cell_of_heap hf5 0
    go_wp2_with fail
    go_region_held3 (fun W => W.cell? ⟨w.heap.size + 1, 3, none⟩ = some (.string r) ∧ W.cell? ⟨w.heap.size, 0, none⟩ = some (.int .i64 n))
      (first | exact ⟨c3, d3⟩ | exact ⟨Lib.cell_of_heap hnE 3, Lib.cell_of_heap hfE 0⟩ | exact ⟨Lib.cell_of_heap hn6 3, Lib.cell_of_heap hf6 0⟩)
      (first | (go_at_call 245; refine (HL.out _ _).mono ?_; rintro e wE ⟨p2, rfl, hbE'⟩; have hbE : Below w5.heap.size w5 wE := (Below.refl w5.heap.size w5).drew.trans hbE'; have hnE := below_cells hbE hn5; have hfE := below_cells hbE hf5) | (go_at_call 224; refine (HE.out _ _ (hp5.1.below hbE)).mono ?_; rintro e w6 ⟨rfl, hpE⟩; have hn6 := hpE.cells hnE (by omega) (by decide); have hf6 := hpE.cells hfE (by omega) (by decide)))
    go_wp2
    go_end0
    exact ⟨rfl, (hp5.below hbE).trans hpE⟩
/-- The size that stands at a place of a text, in two bytes. -/
def szAt (s : ByteArray) (a : Nat) : Nat := (s.data.toList.getD a 0).toNat * 256 + (s.data.toList.getD (a + 1) 0).toNat
theorem szAt_le (s : ByteArray) (a : Nat) : szAt s a ≤ 65535 := by
  unfold szAt
  have h1 := (s.data.toList.getD a 0).toNat_lt
  have h2 := (s.data.toList.getD (a + 1) 0).toNat_lt
  omega
theorem szAt_w (s : ByteArray) (a : Nat) (h1 : a < s.size) (h2 : a + 1 < s.size) : wrap64 (wrap64 (wrap64 (s[a].toNat : Int) * 256) + wrap64 (s[a + 1].toNat : Int)) = (szAt s a : Int) := by
  rw [bget s _ h1, bget s _ h2]
  unfold szAt
  have h3 := (s.data.toList.getD a 0).toNat_lt
  have h4 := (s.data.toList.getD (a + 1) 0).toNat_lt
  unfold wrap64
  omega
def pieceOk (s : ByteArray) (a : Nat) : Prop := a + 2 ≤ s.size ∧ a + 2 + szAt s a ≤ s.size

theorem piece_short (s : ByteArray) (a : Nat) (w : World) (_hs : s.size ≤ 1048576) (ha : a ≤ 2097152) (h1 : s.size < a + 2) :
    Calls Tryz.prog 138 #[.string s, .int .i64 (a : Int)] w fun e w' => e = .returned (.tuple #[.string ⟨#[]⟩, .int .i64 0, .bool false]) ∧ Below w.heap.size w w' := by
  have z0 : ¬ ((a : Int) < 0) := by omega
  have z1 : IntKind.i64.wrap ((a : Int) + 2) = (a : Int) + 2 := wrap_i64_in _ (by omega) (by omega)
  have z2 : decide ((s.size : Int) < (a : Int) + 2) = true := by simp; omega
  go_enter Tryz.func138, Tryz.ntmps138
  go_wp2_with fail
  go_ret3
  exact ⟨rfl, Below.refl _ _⟩

theorem piece_over (s : ByteArray) (a : Nat) (w : World) (hs : s.size ≤ 1048576) (h1 : a + 2 ≤ s.size) (h2 : s.size < a + 2 + szAt s a) :
    Calls Tryz.prog 138 #[.string s, .int .i64 (a : Int)] w fun e w' => e = .returned (.tuple #[.string ⟨#[]⟩, .int .i64 0, .bool false]) ∧ Below w.heap.size w w' := by
  have z0 : ¬ ((a : Int) < 0) := by omega
  have z1 : IntKind.i64.wrap ((a : Int) + 2) = (a : Int) + 2 := wrap_i64_in _ (by omega) (by omega)
  have z2 : decide ((s.size : Int) < (a : Int) + 2) = false := by simp; omega
  have z3 : (0 : Int) ≤ (a : Int) := by omega
  have z4 : (a : Int) < (s.size : Int) := by omega
  have z5 : IntKind.i64.wrap ((a : Int) + 1) = (a : Int) + 1 := wrap_i64_in _ (by omega) (by omega)
  have z6 : (0 : Int) ≤ (a : Int) + 1 := by omega
  have z7 : (a : Int) + 1 < (s.size : Int) := by omega
  go_enter Tryz.func138, Tryz.ntmps138
  go_wp2_with fail
  go_region
  rw [szAt_w s a (by omega) (by omega)]
  obtain ⟨m, hm⟩ : ∃ m, szAt s a = m := ⟨_, rfl⟩
  have hm' := szAt_le s a
  rw [hm] at h2 hm' ⊢
  have y1 : IntKind.i64.wrap ((a : Int) + 2 + (m : Int)) = (a : Int) + 2 + (m : Int) := wrap_i64_in _ (by omega) (by omega)
  have y2 : decide ((s.size : Int) < (a : Int) + 2 + (m : Int)) = true := by simp; omega
  go_wp2_with fail
  go_ret3
  exact ⟨rfl, (Below.refl _ _).drew⟩

theorem piece_ok (s : ByteArray) (a : Nat) (w : World) (hs : s.size ≤ 1048576) (h2 : a + 2 + szAt s a ≤ s.size) :
    Calls Tryz.prog 138 #[.string s, .int .i64 (a : Int)] w fun e w' => ∃ t, e = .returned (.tuple #[.string t, .int .i64 ((a + 2 + szAt s a : Nat) : Int), .bool true]) ∧ Hid (t = s.extract (a + 2) (a + 2 + szAt s a)) ∧ Below w.heap.size w w' := by
  have z0 : ¬ ((a : Int) < 0) := by omega
  have z1 : IntKind.i64.wrap ((a : Int) + 2) = (a : Int) + 2 := wrap_i64_in _ (by omega) (by omega)
  have z2 : decide ((s.size : Int) < (a : Int) + 2) = false := by simp; omega
  have z3 : (0 : Int) ≤ (a : Int) := by omega
  have z4 : (a : Int) < (s.size : Int) := by omega
  have z5 : IntKind.i64.wrap ((a : Int) + 1) = (a : Int) + 1 := wrap_i64_in _ (by omega) (by omega)
  have z6 : (0 : Int) ≤ (a : Int) + 1 := by omega
  have z7 : (a : Int) + 1 < (s.size : Int) := by omega
  go_enter Tryz.func138, Tryz.ntmps138
  go_wp2_with fail
  go_region
  rw [szAt_w s a (by omega) (by omega)]
  obtain ⟨m, hm⟩ : ∃ m, szAt s a = m := ⟨_, rfl⟩
  rw [hm] at h2 ⊢
  have HM : Hid (szAt s a = m) := hm
  clear hm
  have y1 : IntKind.i64.wrap ((a : Int) + 2 + (m : Int)) = (a : Int) + 2 + (m : Int) := wrap_i64_in _ (by omega) (by omega)
  have y2 : decide ((s.size : Int) < (a : Int) + 2 + (m : Int)) = false := by simp; omega
  have y3 : (0 : Int) ≤ (a : Int) + 2 := by omega
  have y4 : (a : Int) + 2 ≤ (a : Int) + 2 + (m : Int) := by omega
  have y5 : (a : Int) + 2 + (m : Int) ≤ (s.size : Int) := by omega
  go_wp2_with fail
  go_ret3
  exact ⟨s.extract (a + 2) (a + 2 + m), by rw [HM.out]; rfl, by show s.extract (a + 2) (a + 2 + m) = _; rw [HM.out], (Below.refl _ _).drew⟩
/-- The text is the encoding of this node at this width. -/
def IsEnc (s : ByteArray) (n : Int) (k v l r : ByteArray) : Prop :=
  nodeOk k.size v.size l.size r.size n = true ∧ s = T (encL k.data.toList v.data.toList l.data.toList r.data.toList)

theorem nodeOk_out {k v l r : Nat} {n : Int} (h : nodeOk k v l r n = true) : 1 ≤ n ∧ n ≤ 32 ∧ 1 ≤ k ∧ k ≤ 256 ∧ v ≤ 2000 ∧ (l = 0 ∨ (l : Int) = n) ∧ (r = 0 ∨ (r : Int) = n) := by
  simp only [nodeOk, hashOk, Bool.and_eq_true, Bool.or_eq_true, decide_eq_true_eq] at h
  omega

theorem T_extract (l : List UInt8) (a b : Nat) : (T l).extract a b = T ((l.drop a).take (b - a)) := ByteArray.extract_mk l a b
theorem T_list (l : List UInt8) : (T l).data.toList = l := rfl
theorem szAt_sized (P K Q : List UInt8) (hK : K.length < 65536) : szAt (T (P ++ (sized K ++ Q))) P.length = K.length := by
  unfold szAt sized
  rw [T_list, List.getD_eq_getElem?_getD, List.getD_eq_getElem?_getD, List.getElem?_append_right (Nat.le_refl _), List.getElem?_append_right (Nat.le_add_right P.length 1)]
  simp only [Nat.sub_self, Nat.add_sub_cancel_left, List.cons_append, List.getElem?_cons_zero, List.getElem?_cons_succ, Option.getD_some]
  rw [UInt8.toNat_ofNat_of_lt' (by show _ < 256; omega), UInt8.toNat_ofNat_of_lt' (by show _ < 256; omega)]
  omega

theorem piece_sized (P K Q : List UInt8) : (T (P ++ (sized K ++ Q))).extract (P.length + 2) (P.length + 2 + K.length) = T K := by
  rw [T_extract, ← List.drop_drop, List.drop_left]
  congr 1
  simp [sized]

theorem sized_length (K : List UInt8) : (sized K).length = K.length + 2 := rfl

theorem flag_odd (l r : Nat) : (UInt8.ofNat (flagOf l r)).toNat = flagOf l r := by
  unfold flagOf; rw [UInt8.toNat_ofNat_of_lt' (by show _ < 256; split <;> split <;> omega)]

/-- What a text that is an encoding shows where it is taken apart. -/
theorem IsEnc.parts {s : ByteArray} {n : Int} {k v l r : ByteArray} (h : IsEnc s n k v l r) :
    0 + 2 + szAt s 0 ≤ s.size ∧ k = s.extract (0 + 2) (0 + 2 + szAt s 0) ∧
    ∀ a, a = 0 + 2 + szAt s 0 → a + 2 + szAt s a < s.size ∧ v = s.extract (a + 2) (a + 2 + szAt s a) ∧
    ∀ b, b = a + 2 + szAt s a → (s.data.toList.getD b 0).toNat = flagOf l.size r.size ∧ s.extract (b + 1) s.size = l ++ r := by
  obtain ⟨hok, hs⟩ := h
  have ho := nodeOk_out hok
  have hkl : k.data.toList.length = k.size := rfl
  have hvl : v.data.toList.length = v.size := rfl
  have e0 : s = T ([] ++ (sized k.data.toList ++ (sized v.data.toList ++ ([UInt8.ofNat (flagOf l.size r.size)] ++ (l.data.toList ++ r.data.toList))))) := by
    rw [hs]; unfold encL; simp only [List.append_assoc, List.nil_append]; rfl
  have e1 : s = T (sized k.data.toList ++ (sized v.data.toList ++ ([UInt8.ofNat (flagOf l.size r.size)] ++ (l.data.toList ++ r.data.toList)))) := e0
  have e2 : s = T ((sized k.data.toList ++ sized v.data.toList) ++ (UInt8.ofNat (flagOf l.size r.size) :: (l.data.toList ++ r.data.toList))) := by
    rw [e1, List.append_assoc]; rfl
  have hz : s.size = 2 + k.size + (2 + v.size) + 1 + (l.size + r.size) := by
    rw [e1, T_size]; simp only [List.length_append, sized_length, List.length_cons, List.length_nil, hkl, hvl]
    show k.size + 2 + (v.size + 2 + (0 + 1 + (l.size + r.size))) = _
    omega
  have s0 : szAt s 0 = k.size := by rw [e0]; exact szAt_sized [] _ _ (by omega)
  refine ⟨by omega, ?_, ?_⟩
  · rw [s0]
    conv => rhs; rw [e0]
    exact ((piece_sized [] k.data.toList _).trans (T_of k)).symm
  · intro a ha
    have ha' : a = (sized k.data.toList).length := by rw [sized_length, hkl]; omega
    have s1 : szAt s a = v.size := by rw [ha', e1]; exact szAt_sized _ _ _ (by omega)
    refine ⟨by omega, ?_, ?_⟩
    · rw [s1, ha']
      conv => rhs; rw [e1]
      exact ((piece_sized (sized k.data.toList) v.data.toList _).trans (T_of v)).symm
    · intro b hb
      have hb' : b = (sized k.data.toList ++ sized v.data.toList).length := by rw [List.length_append, sized_length, sized_length, hkl, hvl]; omega
      constructor
      · conv => lhs; rw [e2]
        rw [T_list, hb', List.getD_eq_getElem?_getD, List.getElem?_append_right (Nat.le_refl _), Nat.sub_self]
        exact flag_odd _ _
      · rw [hz]
        conv => lhs; rw [e2]
        rw [T_extract, hb', ← List.drop_drop, List.drop_left, List.drop_succ_cons, List.drop_zero, List.take_of_length_le, ← T_append, T_of, T_of]
        rw [List.length_append, List.length_append, sized_length, sized_length, hkl, hvl]
        show l.size + r.size ≤ _
        omega

theorem flag_even (l r : Nat) : flagOf l r % 2 = 1 ↔ l ≠ 0 := by
  unfold flagOf; split <;> split <;> omega

theorem ext_left (a b : ByteArray) : (a ++ b).extract 0 a.size = a := by
  rw [← T_of a, ← T_of b, T_append, T_extract]
  congr 1
  rw [T_size]; simp
theorem ext_right (a b : ByteArray) : (a ++ b).extract a.size (a ++ b).size = b := by
  rw [← T_of a, ← T_of b, T_append, T_extract]
  congr 1
  rw [T_size, T_size, List.drop_left, List.take_of_length_le]
  rw [List.length_append]; omega

/-- The sides, as they are cut from what is behind the flag. -/
theorem IsEnc.sides {s : ByteArray} {n : Int} {k v l r : ByteArray} (h : IsEnc s n k v l r) {f : Nat} {q : ByteArray} (hf : f = flagOf l.size r.size) (hq : q = l ++ r) :
    (f % 2 = 1 → n ≤ q.size ∧ l = q.extract 0 n.toNat ∧ r = q.extract n.toNat q.size) ∧ (¬ f % 2 = 1 → l = ⟨#[]⟩ ∧ r = q) := by
  have ho := nodeOk_out h.1
  constructor
  · intro h1
    rw [hf, flag_even] at h1
    have hn : n.toNat = l.size := by omega
    refine ⟨?_, ?_, ?_⟩
    · rw [hq, ByteArray.size_append]; omega
    · rw [hn, hq, ext_left]
    · rw [hn, hq, ext_right]
  · intro h1
    rw [hf, flag_even] at h1
    have hl : l = ⟨#[]⟩ := by
      have : l.data.size = 0 := by show l.size = 0; omega
      apply ByteArray.ext
      exact Array.eq_empty_of_size_eq_zero this
    refine ⟨hl, ?_⟩
    rw [hq, hl]
    exact (ByteArray.empty_append).symm
abbrev nodeV (k v l r : ByteArray) : Value := .agg #[.string k, .string v, .string l, .string r]
/-- What DecodeNode answers. -/
def decPost (s : ByteArray) (n : Int) (e : Ending) : Prop :=
  (∃ k v l r, IsEnc s n k v l r ∧ e = .returned (.tuple #[nodeV k v l r, .bool true])) ∨
  ((∀ k v l r, ¬ IsEnc s n k v l r) ∧ e = .returned (.tuple #[nodeV ⟨#[]⟩ ⟨#[]⟩ ⟨#[]⟩ ⟨#[]⟩, .bool false]))

structure NodeAt (w : World) (g : Nat) (k v l r : ByteArray) : Prop where
  c0 : w.cell? ⟨g, 0, none⟩ = some (.string k)
  c1 : w.cell? ⟨g, 1, none⟩ = some (.string v)
  c2 : w.cell? ⟨g, 2, none⟩ = some (.string l)
  c3 : w.cell? ⟨g, 3, none⟩ = some (.string r)
  f0 : w.frozen? ⟨g, 0, none⟩ = false
  f1 : w.frozen? ⟨g, 1, none⟩ = false
  f2 : w.frozen? ⟨g, 2, none⟩ = false
  f3 : w.frozen? ⟨g, 3, none⟩ = false
theorem NodeAt.lt {w : World} {g : Nat} {k v l r : ByteArray} (h : NodeAt w g k v l r) : g < w.heap.size := World.block_lt_of_cell? w _ h.c0
theorem NodeAt.below {w w' : World} {g B : Nat} {k v l r : ByteArray} (h : NodeAt w g k v l r) (hb : Below B w w') (hg : g < B) : NodeAt w' g k v l r :=
  ⟨(hb.cell hg).trans h.c0, (hb.cell hg).trans h.c1, (hb.cell hg).trans h.c2, (hb.cell hg).trans h.c3, (hb.frozen hg).trans h.f0, (hb.frozen hg).trans h.f1, (hb.frozen hg).trans h.f2, (hb.frozen hg).trans h.f3⟩
theorem NodeAt.mk4 (w : World) (k v l r : ByteArray) : NodeAt (w.alloc (.cells #[.string k, .string v, .string l, .string r] 73)) w.heap.size k v l r := by
  constructor <;> simp
theorem NodeAt.s0 {w : World} {g : Nat} {k v l r : ByteArray} (h : NodeAt w g k v l r) (x : ByteArray) : NodeAt (w.setCell ⟨g, 0, none⟩ (.string x)) g x v l r := by
  refine ⟨World.cell?_setCell_same _ _ _ h.c0, ?_, ?_, ?_, ?_, ?_, ?_, ?_⟩
  · rw [cell_set_ne _ _ _ _ _ (by omega)]; exact h.c1
  · rw [cell_set_ne _ _ _ _ _ (by omega)]; exact h.c2
  · rw [cell_set_ne _ _ _ _ _ (by omega)]; exact h.c3
  all_goals rw [World.frozen?_setCell]
  · exact h.f0
  · exact h.f1
  · exact h.f2
  · exact h.f3
theorem NodeAt.s1 {w : World} {g : Nat} {k v l r : ByteArray} (h : NodeAt w g k v l r) (x : ByteArray) : NodeAt (w.setCell ⟨g, 1, none⟩ (.string x)) g k x l r := by
  refine ⟨?_, World.cell?_setCell_same _ _ _ h.c1, ?_, ?_, ?_, ?_, ?_, ?_⟩
  · rw [cell_set_ne _ _ _ _ _ (by omega)]; exact h.c0
  · rw [cell_set_ne _ _ _ _ _ (by omega)]; exact h.c2
  · rw [cell_set_ne _ _ _ _ _ (by omega)]; exact h.c3
  all_goals rw [World.frozen?_setCell]
  · exact h.f0
  · exact h.f1
  · exact h.f2
  · exact h.f3
theorem NodeAt.s2 {w : World} {g : Nat} {k v l r : ByteArray} (h : NodeAt w g k v l r) (x : ByteArray) : NodeAt (w.setCell ⟨g, 2, none⟩ (.string x)) g k v x r := by
  refine ⟨?_, ?_, World.cell?_setCell_same _ _ _ h.c2, ?_, ?_, ?_, ?_, ?_⟩
  · rw [cell_set_ne _ _ _ _ _ (by omega)]; exact h.c0
  · rw [cell_set_ne _ _ _ _ _ (by omega)]; exact h.c1
  · rw [cell_set_ne _ _ _ _ _ (by omega)]; exact h.c3
  all_goals rw [World.frozen?_setCell]
  · exact h.f0
  · exact h.f1
  · exact h.f2
  · exact h.f3
theorem NodeAt.s3 {w : World} {g : Nat} {k v l r : ByteArray} (h : NodeAt w g k v l r) (x : ByteArray) : NodeAt (w.setCell ⟨g, 3, none⟩ (.string x)) g k v l x := by
  refine ⟨?_, ?_, ?_, World.cell?_setCell_same _ _ _ h.c3, ?_, ?_, ?_, ?_⟩
  · rw [cell_set_ne _ _ _ _ _ (by omega)]; exact h.c0
  · rw [cell_set_ne _ _ _ _ _ (by omega)]; exact h.c1
  · rw [cell_set_ne _ _ _ _ _ (by omega)]; exact h.c2
  all_goals rw [World.frozen?_setCell]
  · exact h.f0
  · exact h.f1
  · exact h.f2
  · exact h.f3
theorem NodeAt.set4 {w : World} {g : Nat} {k v l r : ByteArray} (h : NodeAt w g k v l r) (k' v' l' r' : ByteArray) :
    NodeAt ((((w.setCell ⟨g, 0, none⟩ (.string k')).setCell ⟨g, 1, none⟩ (.string v')).setCell ⟨g, 2, none⟩ (.string l')).setCell ⟨g, 3, none⟩ (.string r')) g k' v' l' r' :=
  (((h.s0 k').s1 v').s2 l').s3 r'
theorem NodeAt.ret {w : World} {g : Nat} {k v l r : ByteArray} (h : NodeAt w g k v l r) {a : Act} {R : Ending → World → Prop} (b : Bool) (h4 : a.tmps.getD 4 undef = .pointer (some ⟨g, 0, none⟩)) (h5 : a.tmps.getD 5 undef = .bool b) (hd : a.defers = [])
    (hR : R (.returned (.tuple #[nodeV k v l r, .bool b])) w) : bodyPost Tryz.prog Tryz.f146 R .ret a w := by
  obtain ⟨c0, c1, c2, c3, f0, f1, f2, f3⟩ := h
  have h4' : a.tmps[4]?.getD undef = .pointer (some ⟨g, 0, none⟩) := by simpa using h4
  have h5' : a.tmps[5]?.getD undef = .bool b := by simpa using h5
  exact bodyPost_ret (v := .tuple #[nodeV k v l r, .bool b]) (by simp [results, Tryz.results146, go_sem, h4', h5', asAddr, c0, c1, c2, c3]) hd hR

theorem dec1 (s : ByteArray) (n : Int) (w : World)
    (H : Hid (∀ w', Calls Tryz.prog 138 #[.string s, .int .i64 0] w' fun e w'' => e = .returned (.tuple #[.string ⟨#[]⟩, .int .i64 0, .bool false]) ∧ Below w'.heap.size w' w''))
    (HN : Hid (∀ k v l r, ¬ IsEnc s n k v l r)) :
    Calls Tryz.prog 146 #[.string s, .int .i64 n] w fun e w' => decPost s n e ∧ Below w.heap.size w w' := by
  go_enter Tryz.func146, Tryz.ntmps146
  go_wp2_with fail
  refine (H.out _).mono ?_
  rintro e w1 ⟨rfl, hb1⟩
  have hN := (NodeAt.mk4 w ⟨#[]⟩ ⟨#[]⟩ ⟨#[]⟩ ⟨#[]⟩).below hb1 (by simp)
  have hbw : Below w.heap.size w w1 := ((Below.refl _ _).alloc (Nat.le_refl _) _).trans (hb1.mono (by simp))
  obtain ⟨c0, c1, c2, c3, f0, f1, f2, f3⟩ := id hN
  go_wp2_with fail
  refine (hN.set4 ⟨#[]⟩ ⟨#[]⟩ ⟨#[]⟩ ⟨#[]⟩).ret false rfl rfl rfl ⟨.inr ⟨HN.out, rfl⟩, (((hbw.setCell ?_ _).setCell ?_ _).setCell ?_ _).setCell ?_ _⟩ <;> exact Nat.le_refl _
end Go.Proofs.YtibjhkpgaaapaaaGreatDoor
