import Derived.Test.YtfmpjlpakldheaaGreatDoorZcas
import Derived.Test.YtfmpjlpakldheaaGreatDoorZcae
import Derived.Test.YtfmpjlpakldheaaGreatDoorZcar
import Derived.Test.YtfmpjlpakldheaaGreatDoorZcao
import Derived.Deep.AppendLies
import Derived.Test.YtfmpjlpakldheaaGreatDoorZcak
namespace Go.Proofs.YtfmpjlpakldheaaGreatDoor
open Go.RowKit Go.Proofs.Sha

set_option maxRecDepth 100000 in
set_option maxHeartbeats 2000000 in
theorem node_put_f (f : Nat) (F : Int) (hFf : F = (f : Int)) (hf : F = 0 ∨ F = 1 ∨ F = 2 ∨ F = 3) (b : Nat) (n : Int) (k v l r : ByteArray) (q : List UInt8) (w : World) (h : Bld b q w) (hq : q.length ≤ 1000) (hk : k.size ≤ 256) (hv : v.size ≤ 2000) (hl : l.size ≤ 32) (hr : r.size ≤ 32)
    (HF : Hid (∀ w', Calls Tryz.prog 210 #[.agg #[.string k, .string v, .string l, .string r]] w' fun e w'' => e = .returned (.int .i64 F) ∧ Below w'.heap.size w' w'')) :
    Calls Tryz.prog 208 #[.agg #[.int .i64 n], .pointer (some ⟨b, 0, none⟩), .agg #[.string k, .string v, .string l, .string r]] w fun e w' => e = .returned (.tuple #[]) ∧ Put b (q ++ sized k.data.toList ++ sized v.data.toList ++ [UInt8.ofNat f] ++ l.data.toList ++ r.data.toList) w w' := by
  have hlt := h.lt
  obtain ⟨m1, hm1⟩ : ∃ m, q ++ sized k.data.toList = m := ⟨_, rfl⟩
  have z1 : m1.length ≤ 2000 := by rw [← hm1, List.length_append]; show q.length + (k.size + 1 + 1) ≤ _; omega
  obtain ⟨m2, hm2⟩ : ∃ m, m1 ++ sized v.data.toList = m := ⟨_, rfl⟩
  have z2 : m2.length ≤ 5000 := by rw [← hm2, List.length_append]; show m1.length + (v.size + 1 + 1) ≤ _; omega
  obtain ⟨m3, hm3⟩ : ∃ m, m2 ++ [UInt8.ofNat f] = m := ⟨_, rfl⟩
  have z3 : m3.length ≤ 5001 := by rw [← hm3, List.length_append]; show m2.length + 1 ≤ _; omega
  obtain ⟨m4, hm4⟩ : ∃ m, m3 ++ l.data.toList = m := ⟨_, rfl⟩
  have z4 : m4.length ≤ 6000 := by rw [← hm4, List.length_append]; show m3.length + l.size ≤ _; omega
  have HA : Hid (∀ w', Bld b q w' → Calls Tryz.prog 211 #[.pointer (some ⟨b, 0, none⟩), .iface 265 (.agg #[.int .i64 2, .bool false]), .string k] w' fun e w'' => e = .returned (.tuple #[]) ∧ Put b m1 w' w'') := fun w' h' => by rw [← hm1]; exact wsized2 b k q w' h' (by omega)
  have HB : Hid (∀ w', Bld b m1 w' → Calls Tryz.prog 211 #[.pointer (some ⟨b, 0, none⟩), .iface 265 (.agg #[.int .i64 2, .bool false]), .string v] w' fun e w'' => e = .returned (.tuple #[]) ∧ Put b m2 w' w'') := fun w' h' => by rw [← hm2]; exact wsized2 b v m1 w' h' (by omega)
  have HC : Hid (∀ w', Bld b m2 w' → Calls Tryz.prog 213 #[.pointer (some ⟨b, 0, none⟩), .iface 263 (.agg #[.int .i64 1, .bool false]), .int .i64 F] w' fun e w'' => e = .returned (.tuple #[]) ∧ Put b m3 w' w'') := fun w' h' => by rw [← hm3, hFf]; exact wint1 b f m2 w' h' (by omega) (by omega)
  have HD : Hid (∀ p w', Bld b m3 w' → Calls Tryz.prog 211 #[.pointer (some ⟨b, 0, none⟩), .iface 269 (.agg #[.int .i64 p]), .string l] w' fun e w'' => e = .returned (.tuple #[]) ∧ Put b m4 w' w'') := fun p w' h' => by rw [← hm4]; exact wplain p b l m3 w' h' (by omega)
  have HE : Hid (∀ p w', Bld b m4 w' → Calls Tryz.prog 211 #[.pointer (some ⟨b, 0, none⟩), .iface 269 (.agg #[.int .i64 p]), .string r] w' fun e w'' => e = .returned (.tuple #[]) ∧ Put b (m4 ++ r.data.toList) w' w'') := fun p w' h' => wplain p b r m4 w' h' (by omega)
  rw [hm1, hm2, hm3, hm4]
  clear hm1 hm2 hm3 hm4
  have HL : Hid (∀ p w', Calls Tryz.prog 207 #[.agg #[.int .i64 n], .int .i64 p] w' fun e w'' => ∃ p, e = .returned (.agg #[.int .i64 p]) ∧ Below w'.heap.size w' w'') := fun p w' => link_ex n p w'
  obtain ⟨m5, hm5⟩ : ∃ m, m4 ++ r.data.toList = m := ⟨_, rfl⟩
  rw [hm5] at HE ⊢
  clear hm5 hk hv hl hr hq z1 z2 z3 z4 hFf
  rcases hf with rfl | rfl | rfl | rfl
  all_goals
    go_enter Tryz.func208, Tryz.ntmps208
    go_wp2_with (first | (go_at_call 210; refine (HF.out _).mono ?_; rintro e w1 ⟨rfl, hb1⟩))
    have hp1 : Put b q w w1 := (((Put.refl h).alloc (.cells #[.int .i64 n] 227)).alloc (.cells #[.string k, .string v, .string l, .string r] 128)).below hb1
    have hf1 : w1.heap[w.heap.size]? = some (.cells #[.int .i64 n] 227) := below_cells hb1 (below_cells ((Below.refl _ _).alloc (Nat.le_refl _) _) (heap_alloc_new w (.cells #[.int .i64 n] 227)))
    have hn1 : w1.heap[w.heap.size + 1]? = some (.cells #[.string k, .string v, .string l, .string r] 128) := below_cells hb1 (by
      rw [show w.heap.size + 1 = (w.alloc (.cells #[.int .i64 n] 227)).heap.size by simp]; exact heap_alloc_new _ _)
    clear hb1
    have c0 : w1.cell? ⟨w.heap.size + 1, 0, none⟩ = some (.string k) := Lib.cell_of_heap hn1 0
    go_wp2_with fail
    go_region_held3 (fun W => W.cell? ⟨w.heap.size + 1, 0, none⟩ = some (.string k))
      (first | exact c0 | exact Lib.cell_of_heap hnA 0 | exact Lib.cell_of_heap hn2 0)
      (first | (go_at_call 212; refine (kept_any _).mono ?_; rintro e wA ⟨rfl, hbA'⟩; have hbA : Below w1.heap.size w1 wA := (Below.refl w1.heap.size w1).drew.trans hbA'; have hnA := below_cells hbA hn1) | (go_at_call 211; refine (HA.out _ (hp1.1.below hbA)).mono ?_; rintro e w2 ⟨rfl, hpA⟩; have hn2 := hpA.cells hnA (by omega) (by decide); have hf2 := hpA.cells (below_cells hbA hf1) (by omega) (by decide)))
    have hp2 := (hp1.below hbA).trans hpA
    clear hpA hbA' hbA hnA hp1 hn1 hf1 c0
    have c1 : w2.cell? ⟨w.heap.size + 1, 1, none⟩ = some (.string v) := Lib.cell_of_heap hn2 1
    go_wp2_with fail
    go_region_held3 (fun W => W.cell? ⟨w.heap.size + 1, 1, none⟩ = some (.string v))
      (first | exact c1 | exact Lib.cell_of_heap hnB 1 | exact Lib.cell_of_heap hn3 1)
      (first | (go_at_call 212; refine (kept_any _).mono ?_; rintro e wB ⟨rfl, hbB'⟩; have hbB : Below w2.heap.size w2 wB := (Below.refl w2.heap.size w2).drew.trans hbB'; have hnB := below_cells hbB hn2) | (go_at_call 211; refine (HB.out _ (hp2.1.below hbB)).mono ?_; rintro e w3 ⟨rfl, hpB⟩; have hn3 := hpB.cells hnB (by omega) (by decide); have hf3 := hpB.cells (below_cells hbB hf2) (by omega) (by decide)))
    have hp3 := (hp2.below hbB).trans hpB
    clear hpB hbB' hbB hnB hp2 hn2 hf2 c1
    go_wp2_with (first | (go_at_call 213; refine (HC.out _ hp3.1).mono ?_; rintro e w4 ⟨rfl, hpC⟩))
    have hn4 := hpC.cells hn3 (by omega) (by decide)
    have hf4 := hpC.cells hf3 (by omega) (by decide)
    have hp4 := hp3.trans hpC
    clear hpC hp3 hn3 hf3
    have c2 : w4.cell? ⟨w.heap.size + 1, 2, none⟩ = some (.string l) := Lib.cell_of_heap hn4 2
    have d2 : w4.cell? ⟨w.heap.size, 0, none⟩ = some (.int .i64 n) := Lib.cell_of_heap hf4 0
    go_region_held3 (fun W => W.cell? ⟨w.heap.size + 1, 2, none⟩ = some (.string l) ∧ W.cell? ⟨w.heap.size, 0, none⟩ = some (.int .i64 n))
      (first | exact ⟨c2, d2⟩ | exact ⟨Lib.cell_of_heap hnD 2, Lib.cell_of_heap hfD 0⟩ | exact ⟨Lib.cell_of_heap hn5 2, Lib.cell_of_heap hf5 0⟩)
      (first | (go_at_call 207; refine (HL.out _ _).mono ?_; rintro e wD ⟨p, rfl, hbD'⟩; have hbD : Below w4.heap.size w4 wD := (Below.refl w4.heap.size w4).drew.trans hbD'; have hnD := below_cells hbD hn4; have hfD := below_cells hbD hf4) | (go_at_call 211; refine (HD.out _ _ (hp4.1.below hbD)).mono ?_; rintro e w5 ⟨rfl, hpD⟩; have hn5 := hpD.cells hnD (by omega) (by decide); have hf5 := hpD.cells hfD (by omega) (by decide)))
    have hp5 := (hp4.below hbD).trans hpD
    clear hpD hbD' hbD hnD hp4 hn4 hf4 c2 d2 hfD
    have c3 : w5.cell? ⟨w.heap.size + 1, 3, none⟩ = some (.string r) := Lib.cell_of_heap hn5 3
    have d3 : w5.cell? ⟨w.heap.size, 0, none⟩ = some (.int .i64 n) := Lib.cell_of_heap hf5 0
    go_wp2_with fail
    go_region_held3 (fun W => W.cell? ⟨w.heap.size + 1, 3, none⟩ = some (.string r) ∧ W.cell? ⟨w.heap.size, 0, none⟩ = some (.int .i64 n))
      (first | exact ⟨c3, d3⟩ | exact ⟨Lib.cell_of_heap hnE 3, Lib.cell_of_heap hfE 0⟩ | exact ⟨Lib.cell_of_heap hn6 3, Lib.cell_of_heap hf6 0⟩)
      (first | (go_at_call 207; refine (HL.out _ _).mono ?_; rintro e wE ⟨p2, rfl, hbE'⟩; have hbE : Below w5.heap.size w5 wE := (Below.refl w5.heap.size w5).drew.trans hbE'; have hnE := below_cells hbE hn5; have hfE := below_cells hbE hf5) | (go_at_call 211; refine (HE.out _ _ (hp5.1.below hbE)).mono ?_; rintro e w6 ⟨rfl, hpE⟩; have hn6 := hpE.cells hnE (by omega) (by decide); have hf6 := hpE.cells hfE (by omega) (by decide)))
    go_wp2
    go_end0
    exact ⟨rfl, (hp5.below hbE).trans hpE⟩
end Go.Proofs.YtfmpjlpakldheaaGreatDoor
namespace Go.Proofs.YtfmpjlpakldheaaGreatDoor
open Go.RowKit Go.Proofs.Sha

theorem vlink_any (l : ByteArray) (n : Int) (w : World) (_hl : l.size ≤ 1048576) :
    Calls Tryz.prog 149 #[.string l, .int .i64 n] w fun e w' => e = .returned (.bool (hashOk l.size n)) ∧ w = w' := by
  have e1 := empty_iff l
  by_cases h1 : l.size = 0
  · have e2 : l.toList.isEmpty = true := by rw [e1, h1]; rfl
    have HR : Hid (hashOk l.size n = true) := by show _ = _; unfold hashOk; rw [h1]; rfl
    clear e1 h1
    go_enter Tryz.func149, Tryz.ntmps149
    go_wp2
    go_ret
    rw [HR.out]
    exact ⟨rfl, rfl⟩
  · have e2 : l.toList.isEmpty = false := by rw [e1]; simp [h1]
    by_cases h2 : (l.size : Int) = n
    · have HR : Hid (hashOk l.size n = true) := by show _ = _; unfold hashOk; simp [h2]
      have z : ((l.size : Int) == n) = true := by simp [h2]
      clear e1 h1 h2
      go_enter Tryz.func149, Tryz.ntmps149
      go_wp2
      go_ret
      rw [HR.out]
      exact ⟨rfl, rfl⟩
    · have HR : Hid (hashOk l.size n = false) := by show _ = _; unfold hashOk; simp [h1, h2]
      have z : ((l.size : Int) == n) = false := by simp [h2]
      clear e1 h1 h2
      go_enter Tryz.func149, Tryz.ntmps149
      go_wp2
      go_ret
      rw [HR.out]
      exact ⟨rfl, rfl⟩

set_option maxRecDepth 100000 in
theorem valid_any (k v l r : ByteArray) (n : Int) (w : World) (_hk : k.size ≤ 1048576) (_hv : v.size ≤ 1048576) (hl : l.size ≤ 1048576) (hr : r.size ≤ 1048576) :
    Calls Tryz.prog 174 #[.agg #[.string k, .string v, .string l, .string r], .int .i64 n] w fun e w' => e = .returned (.bool (nodeOk k.size v.size l.size r.size n)) ∧ Below w.heap.size w w' := by
  obtain ⟨x, hx⟩ : ∃ x, hashOk l.size n = x := ⟨_, rfl⟩
  obtain ⟨y, hy⟩ : ∃ y, hashOk r.size n = y := ⟨_, rfl⟩
  have HX : Hid (∀ w', Calls Tryz.prog 149 #[.string l, .int .i64 n] w' fun e w'' => e = .returned (.bool x) ∧ w' = w'') := fun w' => by rw [← hx]; exact vlink_any l n w' hl
  have HY : Hid (∀ w', Calls Tryz.prog 149 #[.string r, .int .i64 n] w' fun e w'' => e = .returned (.bool y) ∧ w' = w'') := fun w' => by rw [← hy]; exact vlink_any r n w' hr
  have HR : Hid (nodeOk k.size v.size l.size r.size n = (decide (1 ≤ n ∧ n ≤ 32 ∧ 1 ≤ k.size ∧ k.size ≤ 256 ∧ v.size ≤ 2000) && (x && y))) := by show _ = _; unfold nodeOk; rw [hx, hy]
  clear hx hy
  obtain ⟨z, hz⟩ : ∃ z, nodeOk k.size v.size l.size r.size n = z := ⟨_, rfl⟩
  rw [hz] at HR ⊢
  clear hz
  have hfin : Below w.heap.size w (w.alloc (.cells #[.string k, .string v, .string l, .string r] 128)) := (Below.refl _ _).alloc (Nat.le_refl _) _
  go_enter Tryz.func174, Tryz.ntmps174
  go_wp2_with (first | (go_at_call_of 149 (Value.string l); refine (HX.out _).mono ?_; rintro e w3 ⟨rfl, rfl⟩) | (go_at_call_of 149 (Value.string r); refine (HY.out _).mono ?_; rintro e w4 ⟨rfl, rfl⟩) | go_in)
  all_goals go_ret
  all_goals refine ⟨?_, hfin⟩
  all_goals rw [HR.out]
  all_goals clear HX HY HR
  all_goals first
    | (have e : ¬ (1 ≤ n ∧ n ≤ 32 ∧ 1 ≤ k.size ∧ k.size ≤ 256 ∧ v.size ≤ 2000) := (by omega); rw [decide_eq_false e]; rfl)
    | (have e : 1 ≤ n ∧ n ≤ 32 ∧ 1 ≤ k.size ∧ k.size ≤ 256 ∧ v.size ≤ 2000 := (by omega); rw [decide_eq_true e]; cases x <;> simp_all)

theorem wR42 (n : Int) (k v l r : ByteArray) (b : Nat) (q m : List UInt8) (w : World) (h : Bld b q w)
    (HC : Hid (∀ w', Bld b q w' → Calls Tryz.prog 208 #[.agg #[.int .i64 n], .pointer (some ⟨b, 0, none⟩), .agg #[.string k, .string v, .string l, .string r]] w' fun e w'' => e = .returned (.tuple #[]) ∧ Put b m w' w'')) :
    Calls Tryz.prog 179 #[.pointer (some ⟨b, 0, none⟩), .iface 227 (.agg #[.int .i64 n]), .agg #[.string k, .string v, .string l, .string r]] w fun e w' => e = .returned (.tuple #[]) ∧ Put b m w w' := by
  have hmt : ∀ w : World, (method 388 227 (.agg #[.int .i64 n]) "loop.example/s03048/impl.put").run Tryz.prog w = .ok (208, .agg #[.int .i64 n]) w := fun _ => by kernel_rfl
  go_enter Tryz.func179, Tryz.ntmps179
  go_wp2_with (first | (go_at_call 208; refine (HC.out _ (h.alloc _)).mono ?_; rintro e w2 ⟨rfl, hp2⟩))
  go_end0
  exact ⟨rfl, ((Put.refl h).alloc _).trans hp2⟩

set_option maxRecDepth 100000 in
theorem written_N (n : Int) (k v l r : ByteArray) (m : List UInt8) (w : World)
    (HC : Hid (∀ b w', Bld b [] w' → Calls Tryz.prog 179 #[.pointer (some ⟨b, 0, none⟩), .iface 227 (.agg #[.int .i64 n]), .agg #[.string k, .string v, .string l, .string r]] w' fun e w'' => e = .returned (.tuple #[]) ∧ Put b m w' w'')) :
    Calls Tryz.prog 175 #[.iface 227 (.agg #[.int .i64 n]), .agg #[.string k, .string v, .string l, .string r]] w fun e w' => ∃ t : ByteArray, e = .returned (.string t) ∧ Hid (t.data.toList = m) ∧ Below w.heap.size w w' := by
  go_enter Tryz.func175, Tryz.ntmps175
  go_wp2_with (first | (go_at_call 179; refine (HC.out (w.heap.size + 1) _ (fresh_bld1 w _)).mono ?_; rintro e w2 ⟨rfl, hp2⟩) | (go_at_call 180; refine (bstring _ _ _ hp2.1).mono ?_; rintro e w3 ⟨rfl, hb3⟩))
  go_ret
  exact ⟨_, rfl, rfl, ((((Below.refl _ _).alloc (Nat.le_refl _) _).alloc (by simp) _).trans (hp2.2.1.mono (by omega))).trans (hb3.mono (by omega))⟩

theorem of_list {t : ByteArray} {l : List UInt8} (h : t.data.toList = l) : t = T l := by rw [← h, T_of]

set_option maxRecDepth 100000 in
set_option maxHeartbeats 1000000 in
theorem enc_impl (k v l r : ByteArray) (n : Int) (w : World) (hk : k.size ≤ 1048576) (hv : v.size ≤ 1048576) (hl : l.size ≤ 1048576) (hr : r.size ≤ 1048576) :
    Calls Tryz.prog 164 #[.agg #[.string k, .string v, .string l, .string r], .int .i64 n] w fun e w' => ∃ t, e = .returned (.string t) ∧ Hid (t = encS k v l r n) ∧ Below w.heap.size w w' := by
  obtain ⟨z, hz⟩ : ∃ z, nodeOk k.size v.size l.size r.size n = z := ⟨_, rfl⟩
  have HV : Hid (∀ w', Calls Tryz.prog 174 #[.agg #[.string k, .string v, .string l, .string r], .int .i64 n] w' fun e w'' => e = .returned (.bool z) ∧ Below w'.heap.size w' w'') := fun w' => by rw [← hz]; exact valid_any k v l r n w' hk hv hl hr
  cases z
  · have HR : Hid (encS k v l r n = ⟨#[]⟩) := by show _ = _; unfold encS; rw [if_neg (by rw [hz]; decide)]
    clear hz
    go_enter Tryz.func164, Tryz.ntmps164
    go_wp2_with (first | (go_at_call 174; refine (HV.out _).mono ?_; rintro e w1 ⟨rfl, hb1⟩))
    go_ret
    exact ⟨_, rfl, HR.out.symm, ((Below.refl _ w).alloc (Nat.le_refl _) _).trans (hb1.mono (by simp))⟩
  · have HR : Hid (encS k v l r n = T (encL k.data.toList v.data.toList l.data.toList r.data.toList)) := by show _ = _; unfold encS; rw [if_pos hz]
    have hsz : k.size ≤ 256 ∧ v.size ≤ 2000 ∧ l.size ≤ 32 ∧ r.size ≤ 32 := by
      unfold nodeOk hashOk at hz
      simp only [Bool.and_eq_true, Bool.or_eq_true, decide_eq_true_eq] at hz
      omega
    obtain ⟨m, hm⟩ : ∃ m, encL k.data.toList v.data.toList l.data.toList r.data.toList = m := ⟨_, rfl⟩
    have HC : Hid (∀ w', Calls Tryz.prog 175 #[.iface 227 (.agg #[.int .i64 n]), .agg #[.string k, .string v, .string l, .string r]] w' fun e w'' => ∃ t : ByteArray, e = .returned (.string t) ∧ Hid (t.data.toList = m) ∧ Below w'.heap.size w' w'') := by
      intro w'
      refine written_N n k v l r m w' ?_
      intro b' w'' h''
      refine wR42 n k v l r b' [] m w'' h'' ?_
      intro w3 h3
      have hf : (flagOf l.size r.size : Int) = 0 ∨ (flagOf l.size r.size : Int) = 1 ∨ (flagOf l.size r.size : Int) = 2 ∨ (flagOf l.size r.size : Int) = 3 := by
        unfold flagOf; split <;> split <;> simp
      have := node_put_f (flagOf l.size r.size) _ rfl hf b' n k v l r [] w3 h3 (by simp) hsz.1 hsz.2.1 hsz.2.2.1 hsz.2.2.2 (fun w' => flags_any k v l r w')
      rw [List.nil_append] at this
      rw [← hm]
      exact this
    rw [hm] at HR
    clear hz hm hsz
    go_enter Tryz.func164, Tryz.ntmps164
    go_wp2_with (first | (go_at_call 174; refine (HV.out _).mono ?_; rintro e w1 ⟨rfl, hb1⟩; have hn1 := below_cells hb1 (heap_alloc_new w (.cells #[.string k, .string v, .string l, .string r] 128)); have c0 := Lib.cell_of_heap hn1 0; have c1 := Lib.cell_of_heap hn1 1; have c2 := Lib.cell_of_heap hn1 2; have c3 := Lib.cell_of_heap hn1 3) | (go_at_call 175; refine (HC.out _).mono ?_; rintro e w2 ⟨t, rfl, HT, hb2⟩))
    go_ret
    exact ⟨t, rfl, (of_list HT.out).trans HR.out.symm, (((Below.refl _ w).alloc (Nat.le_refl _) _).trans (hb1.mono (by simp))).trans (hb2.mono (by have := hb1.size; simp at this; omega))⟩
end Go.Proofs.YtfmpjlpakldheaaGreatDoor
namespace Go.Proofs.YtfmpjlpakldheaaGreatDoor
open Go.RowKit Go.Proofs.Sha

abbrev at37 (gb c : Nat) : Value := .func (.func 120) #[] #[.pointer (some ⟨gb, 0, none⟩), .pointer (some ⟨c, 0, none⟩)]
end Go.Proofs.YtfmpjlpakldheaaGreatDoor
namespace Go.Proofs.YtfmpjlpakldheaaGreatDoor
open Go.RowKit Go.Proofs.Sha

end Go.Proofs.YtfmpjlpakldheaaGreatDoor
namespace Go.Proofs.YtfmpjlpakldheaaGreatDoor
open Go.RowKit Go.Proofs.Sha

end Go.Proofs.YtfmpjlpakldheaaGreatDoor
namespace Go.Proofs.YtfmpjlpakldheaaGreatDoor
open Go.RowKit Go.Proofs.Sha

end Go.Proofs.YtfmpjlpakldheaaGreatDoor
namespace Go.Proofs.YtfmpjlpakldheaaGreatDoor
open Go.RowKit Go.Proofs.Sha

/-- The hash's table. -/
abbrev KT (w : World) : Prop := ∀ j, j < 64 → w.cell? ⟨0, j, none⟩ = some (.int .u32 ((kTab.getD j 0).toNat : Int))
end Go.Proofs.YtfmpjlpakldheaaGreatDoor
namespace Go.Proofs.YtfmpjlpakldheaaGreatDoor
open Go.RowKit Go.Proofs.Sha

end Go.Proofs.YtfmpjlpakldheaaGreatDoor
namespace Go.Proofs.YtfmpjlpakldheaaGreatDoor
open Go.RowKit Go.Proofs.Sha

end Go.Proofs.YtfmpjlpakldheaaGreatDoor
namespace Go.Proofs.YtfmpjlpakldheaaGreatDoor
open Go.RowKit Go.Proofs.Sha

end Go.Proofs.YtfmpjlpakldheaaGreatDoor
namespace Go.Proofs.YtfmpjlpakldheaaGreatDoor
open Go.RowKit Go.Proofs.Sha

end Go.Proofs.YtfmpjlpakldheaaGreatDoor
namespace Go.Proofs.YtfmpjlpakldheaaGreatDoor
open Go.RowKit Go.Proofs.Sha

end Go.Proofs.YtfmpjlpakldheaaGreatDoor
namespace Go.Proofs.YtfmpjlpakldheaaGreatDoor
open Go.RowKit Go.Proofs.Sha

/-- What NodeHash answers. -/
def hashS (k v l r : ByteArray) (n : Int) : ByteArray := if (encS k v l r n).size = 0 then ⟨#[]⟩ else ⟨((sha (78 :: (encS k v l r n).data.toList)).take n.toNat).toArray⟩

theorem encS_size (k v l r : ByteArray) (n : Int) : (encS k v l r n).size ≤ 10000 ∧ (¬ (encS k v l r n).size = 0 → 1 ≤ n ∧ n ≤ 32) := by
  unfold encS
  split
  · rename_i h
    have ho := nodeOk_out h
    rw [T_size]
    unfold encL
    simp only [List.length_append, sized_length, List.length_cons, List.length_nil]
    have e1 : k.data.toList.length = k.size := rfl
    have e2 : v.data.toList.length = v.size := rfl
    have e3 : l.data.toList.length = l.size := rfl
    have e4 : r.data.toList.length = r.size := rfl
    omega
  · exact ⟨Nat.zero_le _, fun h => absurd rfl h⟩

theorem text_any (e : ByteArray) (w : World) (he : e.size ≤ 10000) :
    Calls Tryz.prog 50 #[.string e] w fun x w' => ∃ t : ByteArray, x = .returned (.string t) ∧ t.size ≤ 10001 ∧ Hid (t.data.toList = 78 :: e.data.toList) ∧ w = w' := by
  have z : ¬ (9223372036854775807 < (⟨#[78]⟩ : ByteArray).size + e.size) := by show ¬ _ < 1 + e.size; omega
  have z' : ¬ (9223372036854775807 < 1 + e.size) := by omega
  go_enter Tryz.func50, Tryz.ntmps50
  go_wp2
  go_ret
  refine ⟨_, rfl, ?_, ?_, rfl⟩
  · rw [ByteArray.size_append]; show 1 + e.size ≤ _; omega
  · show (_ : List UInt8) = _
    rw [ByteArray.data_append]
    simp

end Go.Proofs.YtfmpjlpakldheaaGreatDoor
