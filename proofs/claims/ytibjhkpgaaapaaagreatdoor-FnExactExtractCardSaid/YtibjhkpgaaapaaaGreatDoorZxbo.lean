import Derived.Test.YtibjhkpgaaapaaaGreatDoorZxbn
import Derived.Test.YtibjhkpgaaapaaaGreatDoorZxba
import Derived.Test.YtibjhkpgaaapaaaGreatDoorZxbg
namespace Go.Proofs.YtibjhkpgaaapaaaGreatDoor
open Go.RowKit Go.Proofs.Sha

/-- What markText's contract says, by itself. -/
def MarkSaid (M : Nat → ByteArray) : Prop := ∀ k : Nat, 1 ≤ k → k ≤ 4000000 → ∀ w, Calls Tryz.prog 57 #[.int .i64 (k : Int)] w fun e w' => e = .returned (.string (M k)) ∧ Below w.heap.size w w'
theorem mark_ex : ∃ M, MarkSaid M := by
  have h : ∀ k : Nat, ∃ X : ByteArray, 1 ≤ k → k ≤ 4000000 → ∀ w, Calls Tryz.prog 57 #[.int .i64 (k : Int)] w fun e w' => e = .returned (.string X) ∧ Below w.heap.size w w' := fun k => by
    by_cases h1 : 1 ≤ k ∧ k ≤ 4000000
    · obtain ⟨X, hX⟩ := markText_ex k h1.1 h1.2
      exact ⟨X, fun _ _ => hX⟩
    · exact ⟨⟨#[]⟩, fun a b => absurd ⟨a, b⟩ h1⟩
  obtain ⟨M, hM⟩ := Classical.axiomOfChoice h
  exact ⟨M, hM⟩
def marksV (M : Nat → ByteArray) (k0 n : Nat) : List Value := (List.range n).map fun i => .string (M (k0 + i))
/-- A row, or nothing. -/
def SRow (w : World) (base : Nat) (a : Option Addr) (n c : Nat) (xs : List Value) : Prop := n = 0 ∨ ∃ g, a = some ⟨g, 0, none⟩ ∧ Row w base g n c xs
theorem own_srow {w : World} {base n c : Nat} {a : Option Addr} {xs : List Value} (h : w.ownsRow base 9 1 (.slice a n c) n xs) : SRow w base a n c xs := by
  by_cases hn : n = 0
  · exact .inl hn
  · right
    rcases h.2 with ⟨e, h0⟩ | ⟨g, cap, cur, e, hb, hg, q1, q2, q3, q4⟩
    · omega
    · simp only [Value.slice.injEq, true_and] at e
      obtain ⟨rfl, rfl⟩ := e
      refine ⟨g, rfl, hb, (Array.getElem?_eq_some_iff.1 hg).1, by have := h.1; omega, q1, fun j hj => ?_, fun j hj => ?_, fun j _ => ?_⟩
      · rw [cell_of_row w g j cur 9 (0, 0) hg, ← q4, List.getElem?_take, if_pos (by omega)]; simp
      · rw [cell_of_row w g j cur 9 (0, 0) hg, Array.getElem?_eq_getElem (by omega)]; rfl
      · rw [World.frozen?, hg]; rfl
theorem SRow.kept {w w' : World} {base n c : Nat} {a : Option Addr} {xs : List Value} {row : Option Nat} (h : SRow w base a n c xs) (hg : w.grownBy w' row) (hn : ∀ g, a = some ⟨g, 0, none⟩ → some g ≠ row) : SRow w' base a n c xs := by
  rcases h with h | ⟨g, ha, hr⟩
  · exact .inl h
  · exact .inr ⟨g, ha, hr.kept hg (hn g ha)⟩
theorem SRow.below {w w' : World} {base n c : Nat} {a : Option Addr} {xs : List Value} (h : SRow w base a n c xs) (hb : Below w.heap.size w w') : SRow w' base a n c xs := h.kept (grownBy_of_below hb none) (fun _ _ e => by cases e)
def partV (ys xs : List Value) (k : Nat) : List Value := ys.take k ++ xs.drop k
theorem partV_set (ys xs : List Value) (k : Nat) (h1 : k < ys.length) (h2 : k < xs.length) (v : Value) (hv : ys[k] = v) : (partV ys xs k).set k v = partV ys xs (k + 1) := by
  unfold partV
  rw [List.set_append_right _ _ (by rw [List.length_take]; omega), List.length_take, show k - min k ys.length = 0 by omega, List.drop_eq_getElem_cons h2, List.set_cons_zero, List.take_add_one, List.getElem?_eq_getElem h1, hv]
  simp
theorem marksV_at (M : Nat → ByteArray) (k0 n k : Nat) (h : k < (marksV M k0 n).length) : (marksV M k0 n)[k] = .string (M (k0 + k)) := by simp [marksV]
theorem marksV_len (M : Nat → ByteArray) (k0 n : Nat) : (marksV M k0 n).length = n := by simp [marksV]

end Go.Proofs.YtibjhkpgaaapaaaGreatDoor
namespace Go.Proofs.YtibjhkpgaaapaaaGreatDoor
open Go.RowKit Go.Proofs.Sha

/-- A row of pairs, or nothing. -/
def PRow (w : World) (base : Nat) (a : Option Addr) (n _c : Nat) (xs : List Value) : Prop := n = 0 ∨ ∃ g, a = some ⟨g, 0, none⟩ ∧ Row w base g (n * 2) (n * 2) xs
theorem own_prow {w : World} {base n c : Nat} {a : Option Addr} {xs : List Value} (h : w.ownsRow base 81 2 (.slice a n c) n xs) : PRow w base a n c xs := by
  by_cases hn : n = 0
  · exact .inl hn
  · right
    rcases h.2 with ⟨e, h0⟩ | ⟨g, cap, cur, e, hb, hg, q1, q2, q3, q4⟩
    · omega
    · simp only [Value.slice.injEq, true_and] at e
      obtain ⟨rfl, rfl⟩ := e
      refine ⟨g, rfl, hb, (Array.getElem?_eq_some_iff.1 hg).1, by have := h.1; omega, Nat.le_refl _, fun j hj => ?_, fun j hj => ?_, fun j _ => ?_⟩
      · rw [cell_of_row w g j cur 81 (0, 0) hg, ← q4, List.getElem?_take, if_pos (by omega)]; simp
      · rw [cell_of_row w g j cur 81 (0, 0) hg, Array.getElem?_eq_getElem (by omega)]; rfl
      · rw [World.frozen?, hg]; rfl
theorem PRow.below {w w' : World} {base n c : Nat} {a : Option Addr} {xs : List Value} (h : PRow w base a n c xs) (hb : Below w.heap.size w w') : PRow w' base a n c xs := by
  rcases h with h | ⟨g, h1, h2⟩
  · exact .inl h
  · exact .inr ⟨g, h1, h2.below hb⟩
set_option maxRecDepth 100000 in
set_option maxHeartbeats 400000 in
theorem markP_row (M : Nat → ByteArray) (HM : Hid (MarkSaid M)) (base g n c k0 : Nat) (xs : List Value) (w : World) (h : Row w base g (n * 2) (n * 2) xs) (h1 : 1 ≤ k0) (h2 : k0 + n * 2 ≤ 4000000) :
    Calls Tryz.prog 19 #[.slice (some ⟨g, 0, none⟩) n c, .int .i64 (k0 : Int)] w fun e w' => e = .returned (.int .i64 ((k0 + n * 2 : Nat) : Int)) ∧ Row w' base g (n * 2) (n * 2) (marksV M k0 (n * 2)) ∧ w.grownBy w' (some g) := by
  have hxl := h.len
  obtain ⟨Y, hY⟩ : ∃ Y, marksV M k0 (n * 2) = Y := ⟨_, rfl⟩
  have hYl : Y.length = n * 2 := by rw [← hY, marksV_len]
  have HYa : Hid (∀ k (hk : k < Y.length), Y[k] = .string (M (k0 + k))) := by subst hY; exact fun k hk => marksV_at M k0 (n * 2) k hk
  rw [hY]
  clear hY
  obtain ⟨z, hz⟩ : ∃ z : Int, ((k0 + n * 2 : Nat) : Int) = z := ⟨_, rfl⟩
  rw [hz]
  have HZ : Hid (((k0 + n * 2 : Nat) : Int) = z) := hz
  clear hz
  go_enter Tryz.func19, Tryz.ntmps19
  go_wp2_with fail
  go_loopw [1, 5] (fun t1 t5 wr => ∃ k : Nat, k ≤ n ∧ t1 = .int .i64 ((k0 + k * 2 : Nat) : Int) ∧ t5 = .int .i64 (k : Int) ∧ Row wr base g (n * 2) (n * 2) (partV Y xs (k * 2)) ∧ w.grownBy wr (some g)) (fun _ t5 _ => n - (intOf t5).toNat)
  case atStart => exact ⟨0, Nat.zero_le _, rfl, rfl, by unfold partV; simpa using h, grownBy_refl _ _⟩
  case round =>
    obtain ⟨k, hk, rfl, rfl, hrow, hgr⟩ := hrel
    by_cases hlt : k < n
    · have z1 : decide ((k : Int) < (n : Int)) = true := by simp; omega
      have hx0 : (0 : Int) ≤ (k : Int) := Int.natCast_nonneg _
      have hx1 : (k : Int) < (n : Int) := by omega
      have HK : Hid (∀ w', Calls Tryz.prog 57 #[.int .i64 ((k0 + k * 2 : Nat) : Int)] w' fun e w'' => e = .returned (.string (M (k0 + k * 2))) ∧ Below w'.heap.size w' w'') := fun w' => HM.out (k0 + k * 2) (by omega) (by omega) w'
      have HK2 : Hid (∀ w', Calls Tryz.prog 57 #[.int .i64 (((k0 + k * 2 : Nat) : Int) + 1)] w' fun e w'' => e = .returned (.string (M (k0 + (k * 2 + 1)))) ∧ Below w'.heap.size w' w'') := fun w' => HM.out (k0 + (k * 2 + 1)) (by omega) (by omega) w'
      have hset : Hid ((partV Y xs (k * 2)).set (k * 2) (.string (M (k0 + k * 2))) = partV Y xs (k * 2 + 1)) := partV_set Y xs (k * 2) (by omega) (by omega) _ (HYa.out (k * 2) (by omega))
      have hset2 : Hid ((partV Y xs (k * 2 + 1)).set (k * 2 + 1) (.string (M (k0 + (k * 2 + 1)))) = partV Y xs (k * 2 + 1 + 1)) := partV_set Y xs (k * 2 + 1) (by omega) (by omega) _ (HYa.out (k * 2 + 1) (by omega))
      obtain ⟨X, hX⟩ : ∃ X, M (k0 + k * 2) = X := ⟨_, rfl⟩
      rw [hX] at HK hset
      obtain ⟨X2, hX2⟩ : ∃ X2, M (k0 + (k * 2 + 1)) = X2 := ⟨_, rfl⟩
      rw [hX2] at HK2 hset2
      obtain ⟨p, hp⟩ : ∃ p : Nat, k0 + k * 2 = p := ⟨_, rfl⟩
      rw [hp] at HK HK2 ⊢
      have hpb : p ≤ 4000000 := by omega
      have hpn : Hid (k0 + (k + 1) * 2 = p + 1 + 1) := by show _ = _; omega
      clear hX hp hX2
      go_wp2_with fail
      refine (HK.out _).mono ?_
      rintro e w1 ⟨rfl, hb1⟩
      have hrow1 := hrow.below hb1
      have hrow1s := hrow1.set (k * 2) (by omega) (Value.string X)
      rw [hset.out] at hrow1s
      have hfr := hrow1.free (k * 2) (by omega)
      obtain ⟨y, hy⟩ := Option.isSome_iff_exists.1 (hrow1.room (k * 2) (by omega))
      go_wp2_with fail
      refine (HK2.out _).mono ?_
      rintro e w2 ⟨rfl, hb2⟩
      have hrow2 := hrow1s.below hb2
      have hfr2 := hrow2.free (k * 2 + 1) (by omega)
      obtain ⟨y2, hy2⟩ := Option.isSome_iff_exists.1 (hrow2.room (k * 2 + 1) (by omega))
      go_wp2_with fail
      go_roundw
      case rel =>
        have e := hrow2.set (k * 2 + 1) (by omega) (Value.string X2)
        rw [hset2.out] at e
        exact ⟨k + 1, hlt, by rw [hpn.out]; rfl, rfl, by rw [show (k + 1) * 2 = k * 2 + 1 + 1 by omega]; exact e, grownBy_trans hgr (grownBy_trans (grownBy_of_below hb1 _) (grownBy_trans (grownBy_setCell _ _ _ _) (grownBy_trans (grownBy_of_below hb2 _) (grownBy_setCell _ _ _ _))))⟩
      case measure => simp [intOf]; omega
    · obtain rfl : k = n := by omega
      have z1 : decide ((k : Int) < (k : Int)) = false := by simp
      have hfin : Row wr base g (k * 2) (k * 2) Y := by
        have : partV Y xs (k * 2) = Y := by unfold partV; rw [List.take_of_length_le (by omega), List.drop_of_length_le (by omega), List.append_nil]
        rw [this] at hrow; exact hrow
      rw [HZ.out]
      go_wp2_with fail
      go_ret
      exact ⟨rfl, hfin, hgr⟩
set_option maxRecDepth 100000 in
theorem markP_zero (a : Option Addr) (c k0 : Nat) (w : World) : Calls Tryz.prog 19 #[.slice a 0 c, .int .i64 (k0 : Int)] w fun e w' => e = .returned (.int .i64 (k0 : Int)) ∧ w = w' := by
  go_enter Tryz.func19, Tryz.ntmps19
  go_wp2_with fail
  go_loopw [1, 5] (fun t1 t5 wr => t1 = .int .i64 (k0 : Int) ∧ t5 = .int .i64 0 ∧ w = wr) (fun _ _ _ => 0)
  case atStart => exact ⟨rfl, rfl, rfl⟩
  case round =>
    obtain ⟨rfl, rfl, rfl⟩ := hrel
    go_wp2_with fail
    go_ret
    exact ⟨rfl, by first | rfl | trivial⟩
theorem markP_any (M : Nat → ByteArray) (HM : Hid (MarkSaid M)) (base n c k0 : Nat) (a : Option Addr) (xs : List Value) (w : World) (h : PRow w base a n c xs) (h1 : 1 ≤ k0) (h2 : k0 + n * 2 ≤ 4000000) :
    Calls Tryz.prog 19 #[.slice a n c, .int .i64 (k0 : Int)] w fun e w' => e = .returned (.int .i64 ((k0 + n * 2 : Nat) : Int)) ∧ PRow w' base a n c (marksV M k0 (n * 2)) ∧ w.grownBy w' (if n = 0 then none else (Value.slice a n c).ownBlock) := by
  by_cases hn : n = 0
  · subst hn
    refine (markP_zero a c k0 w).mono ?_
    rintro e w' ⟨rfl, rfl⟩
    exact ⟨rfl, .inl rfl, grownBy_refl _ _⟩
  · rcases h with h | ⟨g, rfl, hr⟩
    · exact absurd h hn
    · refine (markP_row M HM base g n c k0 xs w hr h1 h2).mono ?_
      rintro e w' ⟨rfl, q1, q2⟩
      rw [if_neg hn]
      exact ⟨rfl, .inr ⟨g, rfl, q1⟩, q2⟩
set_option maxRecDepth 100000 in
set_option maxHeartbeats 400000 in
theorem heldP_any (M : Nat → ByteArray) (HM : Hid (MarkSaid M)) (base n c k0 : Nat) (a : Option Addr) (w : World) (h : PRow w base a n c (marksV M k0 (n * 2))) (h1 : 1 ≤ k0) (h2 : k0 + n * 2 ≤ 4000000) :
    Calls Tryz.prog 20 #[.slice a n c, .int .i64 (k0 : Int)] w fun e w' => e = .returned (.int .i64 ((k0 + n * 2 : Nat) : Int)) ∧ Below w.heap.size w w' := by
  obtain ⟨z, hz⟩ : ∃ z : Int, ((k0 + n * 2 : Nat) : Int) = z := ⟨_, rfl⟩
  rw [hz]
  have HZ : Hid (((k0 + n * 2 : Nat) : Int) = z) := hz
  clear hz
  go_enter Tryz.func20, Tryz.ntmps20
  go_wp2_with fail
  go_loopw [1, 5] (fun t1 t5 wr => ∃ k : Nat, k ≤ n ∧ t1 = .int .i64 ((k0 + k * 2 : Nat) : Int) ∧ t5 = .int .i64 (k : Int) ∧ Below w.heap.size w wr) (fun _ t5 _ => n - (intOf t5).toNat)
  case atStart => exact ⟨0, Nat.zero_le _, rfl, rfl, Below.refl _ _⟩
  case round =>
    obtain ⟨k, hk, rfl, rfl, hbw⟩ := hrel
    by_cases hlt : k < n
    · have z1 : decide ((k : Int) < (n : Int)) = true := by simp; omega
      have hx0 : (0 : Int) ≤ (k : Int) := Int.natCast_nonneg _
      have hx1 : (k : Int) < (n : Int) := by omega
      have HK : Hid (∀ w', Calls Tryz.prog 57 #[.int .i64 ((k0 + k * 2 : Nat) : Int)] w' fun e w'' => e = .returned (.string (M (k0 + k * 2))) ∧ Below w'.heap.size w' w'') := fun w' => HM.out (k0 + k * 2) (by omega) (by omega) w'
      have HK2 : Hid (∀ w', Calls Tryz.prog 57 #[.int .i64 (((k0 + k * 2 : Nat) : Int) + 1)] w' fun e w'' => e = .returned (.string (M (k0 + (k * 2 + 1)))) ∧ Below w'.heap.size w' w'') := fun w' => HM.out (k0 + (k * 2 + 1)) (by omega) (by omega) w'
      rcases h.below hbw with h0 | ⟨g, rfl, hrow⟩
      · omega
      · have hcx : wr.cell? ⟨g, k * 2, none⟩ = some (.string (M (k0 + k * 2))) := by
          rw [hrow.cell (k * 2) (by omega), List.getElem?_eq_getElem (by rw [marksV_len]; omega), marksV_at]
        have hcy : wr.cell? ⟨g, k * 2 + 1, none⟩ = some (.string (M (k0 + (k * 2 + 1)))) := by
          rw [hrow.cell (k * 2 + 1) (by omega), List.getElem?_eq_getElem (by rw [marksV_len]; omega), marksV_at]
        obtain ⟨X, hX⟩ : ∃ X, M (k0 + k * 2) = X := ⟨_, rfl⟩
        rw [hX] at HK hcx
        obtain ⟨X2, hX2⟩ : ∃ X2, M (k0 + (k * 2 + 1)) = X2 := ⟨_, rfl⟩
        rw [hX2] at HK2 hcy
        obtain ⟨p, hp⟩ : ∃ p : Nat, k0 + k * 2 = p := ⟨_, rfl⟩
        rw [hp] at HK HK2 ⊢
        have hpb : p ≤ 4000000 := by omega
        have hpn : Hid (k0 + (k + 1) * 2 = p + 1 + 1) := by show _ = _; omega
        have hgl := hrow.lt
        have hq : (X.toList != X.toList) = false := by simp
        have hq2 : (X2.toList != X2.toList) = false := by simp
        clear hX hp hrow hX2
        have HC : Hid (∀ W : World, Below wr.heap.size wr W → W.cell? ⟨g, k * 2, none⟩ = some (.string X) ∧ W.cell? ⟨g, k * 2 + 1, none⟩ = some (.string X2)) := fun W hW => ⟨(hW.cell hgl).trans hcx, (hW.cell hgl).trans hcy⟩
        go_upto_region 4 with fail
        go_region_held3 (fun W => W.cell? ⟨g, k * 2, none⟩ = some (.string X)) (first | exact hcx | exact (HC.out _ hb1).1) (first | (go_at_call 57; refine (HK.out _).mono ?_; rintro e w1 ⟨rfl, hb1'⟩; have hb1 : Below wr.heap.size wr w1 := (Below.refl wr.heap.size wr).drew.trans hb1'; clear hb1'))
        obtain ⟨_, hcy1⟩ := HC.out _ hb1
        go_wp2_with fail
        go_region_held3 (fun W => W.cell? ⟨g, k * 2 + 1, none⟩ = some (.string X2)) (first | exact hcy1 | exact (HC.out _ hb2).2) (first | (go_at_call 57; refine (HK2.out _).mono ?_; rintro e w2 ⟨rfl, hb2'⟩; have hb2 : Below wr.heap.size wr w2 := hb1.trans (((Below.refl w1.heap.size w1).drew.trans hb2').mono hb1.size); clear hb2'))
        go_wp2_with fail
        go_roundw
        case rel => exact ⟨k + 1, hlt, by rw [hpn.out]; rfl, rfl, hbw.trans (hb2.mono hbw.size)⟩
        case measure => simp [intOf]; omega
    · obtain rfl : k = n := by omega
      have z1 : decide ((k : Int) < (k : Int)) = false := by simp
      rw [HZ.out]
      go_wp2_with fail
      go_ret
      exact ⟨rfl, hbw⟩
end Go.Proofs.YtibjhkpgaaapaaaGreatDoor
namespace Go.Proofs.YtibjhkpgaaapaaaGreatDoor
open Go.RowKit Go.Proofs.Sha

theorem pblk_below {g : Nat} {o : Obj} {w w' : World} (hb : Below w.heap.size w w') (h : w.heap[g]? = some o) : w'.heap[g]? = some o := (hb.block g (Array.getElem?_eq_some_iff.1 h).1).trans h
set_option maxRecDepth 100000 in
theorem retP {fn : Func} {R : Ending → World → Prop} {A : Act} {p : Tmp} {gb : Nat} {n : Int} {a : Option Addr} {m c : Nat} {W : World} (hres : fn.results = #[.cell p 31]) (hp : A.tmps.getD p undef = .pointer (some ⟨gb, 0, none⟩)) (hd : A.defers = []) (hn : W.heap[gb]? = some (.cells #[.int .i64 n, .slice a m c] 31))
    (h : R (.returned (.agg #[.int .i64 n, .slice a m c])) W) : bodyPost Tryz.prog fn R Exit.ret A W := by
  have c0 := Lib.cell_of_heap hn 0
  have c1 := Lib.cell_of_heap hn 1
  have hp' : A.tmps[p]?.getD undef = .pointer (some ⟨gb, 0, none⟩) := by simpa using hp
  refine bodyPost_ret (v := .agg #[.int .i64 n, .slice a m c]) ?_ hd h
  simp [results, hres, go_sem, asAddr, hp', c0, c1]
set_option maxRecDepth 100000 in
set_option maxHeartbeats 1000000 in
theorem szPool_any (n : Int) (a : Option Addr) (ss : List ByteArray) (c : Nat) (w : World) (h : RArg a ss w) (hN : ss.length ≤ maxLen) (hM : ∀ j, (ss.getD j ⟨#[]⟩).size ≤ maxLen) :
    Calls Tryz.prog 11 #[.agg #[.int .i64 n, .slice a ss.length c], .int .i64 1048576] w fun e w' => ∃ r : Int, e = .returned (.int .i64 r) ∧ Hid (0 ≤ r → SmallS ss) ∧ Below w.heap.size w w' := by
  have hb0 : Below w.heap.size w (w.alloc (.cells #[.int .i64 n, .slice a ss.length c] 27)) := (Below.refl _ _).alloc (Nat.le_refl _) _
  have HS : Hid (∀ w', RArg a ss w' → Calls Tryz.prog 47 #[.slice a ss.length c, .int .i64 1048576] w' fun e w'' => ∃ r : Int, e = .returned (.int .i64 r) ∧ Hid (0 ≤ r → SmallS ss) ∧ w' = w'') := fun w' h' => szStringS_any a ss c w' h' hN hM
  have h1 := h.below hb0
  go_enter Tryz.func11, Tryz.ntmps11
  go_wp2_with fail
  refine (HS.out _ h1).mono ?_
  rintro e w1 ⟨r, rfl, HR, rfl⟩
  by_cases hr : r < 0
  · have z1 : decide (r < 0) = true := decide_eq_true hr
    go_wp2_with fail
    go_ret
    exact ⟨_, rfl, fun hh => absurd hh (by decide), hb0⟩
  · have z1 : decide (r < 0) = false := decide_eq_false hr
    go_wp2_with fail
    go_ret
    exact ⟨_, rfl, HR, hb0⟩

set_option maxRecDepth 100000 in
set_option maxHeartbeats 1000000 in
theorem toPool_any (n : Int) (a : Option Addr) (ss : List ByteArray) (c : Nat) (w : World) (h : SArg a ss w) (hs : Hid (SmallS ss)) :
    Calls Tryz.prog 13 #[.agg #[.int .i64 n, .slice a ss.length c]] w fun e w' => ∃ g, e = .returned (.agg #[.int .i64 n, .slice (some ⟨g, 0, none⟩) ss.length ss.length]) ∧ SArg (some ⟨g, 0, none⟩) ss w' ∧ Below w.heap.size w w' := by
  have HT : Hid (∀ w', SArg a ss w' → Calls Tryz.prog 51 #[.slice a ss.length c] w' fun e w'' => ∃ g, e = .returned (.slice (some ⟨g, 0, none⟩) ss.length ss.length) ∧ Row w'' w'.heap.size g ss.length ss.length (ss.map Value.string) ∧ Below w'.heap.size w' w'') := fun w' h' => toStringS_any a ss c w' h'
  go_enter Tryz.func13, Tryz.ntmps13
  obtain ⟨o1, ho1⟩ : ∃ o : Obj, .cells #[.int .i64 n, .slice a ss.length c] 27 = o := ⟨_, rfl⟩
  have hW : Below w.heap.size w (((w.alloc o1).alloc (.cells #[.int .i64 0, .slice none 0 0] 31)).alloc (.cells #[.int .i64 n, .slice none 0 0] 31)) := ((((Below.refl _ w).alloc (Nat.le_refl _) _).alloc (by simp) _).alloc (by simp; omega) _)
  have m2 := heap_alloc_new ((w.alloc o1).alloc (.cells #[.int .i64 0, .slice none 0 0] 31)) (.cells #[.int .i64 n, .slice none 0 0] 31)
  have m1 := pblk_below ((Below.refl _ _).alloc (Nat.le_refl _) (.cells #[.int .i64 n, .slice none 0 0] 31)) (heap_alloc_new (w.alloc o1) (.cells #[.int .i64 0, .slice none 0 0] 31))
  have hsz3 : (((w.alloc o1).alloc (.cells #[.int .i64 0, .slice none 0 0] 31)).alloc (.cells #[.int .i64 n, .slice none 0 0] 31)).heap.size = w.heap.size + 3 := by simp
  rw [World.size_alloc] at m1
  rw [World.size_alloc, World.size_alloc] at m2
  subst ho1
  go_wp2_with fail
  refine (HT.out _ (h.below hW)).mono ?_
  rintro e w1 ⟨g, rfl, hrow, hb1⟩
  have n1 := pblk_below hb1 m1
  have n2 := pblk_below hb1 m2
  have hge := hrow.ge
  have hB1 := hW.trans (hb1.mono hW.size)
  rw [hsz3] at hge
  replace hrow := hrow.mono (Nat.zero_le _)
  clear hb1 m1 m2 hW hsz3
  obtain ⟨g1, hg1⟩ : ∃ g1, w.heap.size + 1 = g1 := ⟨_, rfl⟩
  obtain ⟨g2, hg2⟩ : ∃ g2, w.heap.size + 1 + 1 = g2 := ⟨_, rfl⟩
  rw [hg1] at n1
  rw [hg2] at n2
  rw [hg2, hg1]
  have hle1 : w.heap.size ≤ g1 := by omega
  have hle2 : w.heap.size ≤ g2 := by omega
  have hne1 : g1 ≠ g := by omega
  have hne2 : g2 ≠ g := by omega
  have hne : g2 ≠ g1 := by omega
  clear hge hg1 hg2
  have c0 := Lib.cell_of_heap n2 0
  have c1 := Lib.cell_of_heap n2 1
  have fr2 : ∀ j, w1.frozen? ⟨g2, j, none⟩ = false := fun j => by rw [World.frozen?, n2]; rfl
  have f1 := fr2 1
  obtain ⟨W, hWW⟩ : ∃ W, w1.setCell ⟨g2, 1, none⟩ (.slice (some ⟨g, 0, none⟩) ss.length ss.length) = W := ⟨_, rfl⟩
  have p2 : W.heap[g2]? = some (.cells #[.int .i64 n, .slice (some ⟨g, 0, none⟩) ss.length ss.length] 31) := by rw [← hWW]; exact heap_setCell_same _ g2 1 _ 31 _ n2
  have p1 : W.heap[g1]? = some (.cells #[.int .i64 0, .slice none 0 0] 31) := by
    rw [← hWW]
    exact ((grownBy_setCell _ _ _ _).block g1 (Array.getElem?_eq_some_iff.1 n1).1 (fun e => hne (Option.some.inj e).symm)).trans n1
  have hrW : Row W 0 g ss.length ss.length (ss.map Value.string) := by rw [← hWW]; exact hrow.kept (grownBy_setCell _ _ _ _) (fun e => hne2 (Option.some.inj e).symm)
  have hBW : Below w.heap.size w W := by rw [← hWW]; exact hB1.setCell hle2 _
  go_upto_region 4 with fail
  clear hWW n1 n2 c0 c1 f1 fr2 hrow hB1
  have c0 := Lib.cell_of_heap p2 0
  have c1 := Lib.cell_of_heap p2 1
  have e0 := Lib.cell_of_heap p1 0
  have e1 := Lib.cell_of_heap p1 1
  have fr1 : ∀ j, W.frozen? ⟨g1, j, none⟩ = false := fun j => by rw [World.frozen?, p1]; rfl
  have f0 := fr1 0
  have f1 := fr1 1
  go_wp2_with fail
  have q1 := heap_setCell_same _ g1 1 _ 31 (.slice (some ⟨g, 0, none⟩) ss.length ss.length) (heap_setCell_same _ g1 0 _ 31 (.int .i64 n) p1)
  refine retP Tryz.results13 rfl rfl q1 ⟨g, rfl, Row.sarg ((hrW.kept (grownBy_setCell _ _ _ _) (fun e => hne1 (Option.some.inj e).symm)).kept (grownBy_setCell _ _ _ _) (fun e => hne1 (Option.some.inj e).symm)) hs.out, (hBW.setCell hle1 _).setCell hle1 _⟩
set_option maxRecDepth 100000 in
set_option maxHeartbeats 1000000 in
theorem eqPool_same (n : Int) (a a2 : Option Addr) (ss : List ByteArray) (c c2 : Nat) (w : World) (h : SArg a ss w) (h2 : SArg a2 ss w) :
    Calls Tryz.prog 15 #[.agg #[.int .i64 n, .slice a ss.length c], .agg #[.int .i64 n, .slice a2 ss.length c2]] w fun e w' => e = .returned (.bool true) ∧ Below w.heap.size w w' := by
  have HT : Hid (∀ w', SArg a ss w' → SArg a2 ss w' → Calls Tryz.prog 55 #[.slice a ss.length c, .slice a2 ss.length c2] w' fun e w'' => e = .returned (.bool true) ∧ Below w'.heap.size w' w'') := fun w' h' h2' => eqStringS_same a a2 ss c c2 w' h' h2'
  have z : (n != n) = false := by simp
  go_enter Tryz.func15, Tryz.ntmps15
  have hb0 : Below w.heap.size w ((w.alloc (.cells #[.int .i64 n, .slice a ss.length c] 31)).alloc (.cells #[.int .i64 n, .slice a2 ss.length c2] 31)) := ((Below.refl _ w).alloc (Nat.le_refl _) _).alloc (by simp) _
  go_wp2_with fail
  refine (HT.out _ (h.below hb0) (h2.below hb0)).mono ?_
  rintro e w1 ⟨rfl, hb1⟩
  have hB1 := hb0.trans (hb1.mono hb0.size)
  go_wp2_with fail
  go_ret
  exact ⟨rfl, hB1⟩
end Go.Proofs.YtibjhkpgaaapaaaGreatDoor
namespace Go.Proofs.YtibjhkpgaaapaaaGreatDoor
open Go.RowKit Go.Proofs.Sha

set_option maxRecDepth 100000 in
set_option maxHeartbeats 1000000 in
theorem toPool_row (n : Int) (a : Option Addr) (ss : List ByteArray) (c : Nat) (w : World) (h : SArg a ss w) :
    Calls Tryz.prog 13 #[.agg #[.int .i64 n, .slice a ss.length c]] w fun e w' => ∃ g, e = .returned (.agg #[.int .i64 n, .slice (some ⟨g, 0, none⟩) ss.length ss.length]) ∧ Row w' w.heap.size g ss.length ss.length (ss.map Value.string) ∧ Below w.heap.size w w' := by
  have HT : Hid (∀ w', SArg a ss w' → Calls Tryz.prog 51 #[.slice a ss.length c] w' fun e w'' => ∃ g, e = .returned (.slice (some ⟨g, 0, none⟩) ss.length ss.length) ∧ Row w'' w'.heap.size g ss.length ss.length (ss.map Value.string) ∧ Below w'.heap.size w' w'') := fun w' h' => toStringS_any a ss c w' h'
  go_enter Tryz.func13, Tryz.ntmps13
  obtain ⟨o1, ho1⟩ : ∃ o : Obj, .cells #[.int .i64 n, .slice a ss.length c] 27 = o := ⟨_, rfl⟩
  have hW : Below w.heap.size w (((w.alloc o1).alloc (.cells #[.int .i64 0, .slice none 0 0] 31)).alloc (.cells #[.int .i64 n, .slice none 0 0] 31)) := ((((Below.refl _ w).alloc (Nat.le_refl _) _).alloc (by simp) _).alloc (by simp; omega) _)
  have m2 := heap_alloc_new ((w.alloc o1).alloc (.cells #[.int .i64 0, .slice none 0 0] 31)) (.cells #[.int .i64 n, .slice none 0 0] 31)
  have m1 := pblk_below ((Below.refl _ _).alloc (Nat.le_refl _) (.cells #[.int .i64 n, .slice none 0 0] 31)) (heap_alloc_new (w.alloc o1) (.cells #[.int .i64 0, .slice none 0 0] 31))
  have hsz3 : (((w.alloc o1).alloc (.cells #[.int .i64 0, .slice none 0 0] 31)).alloc (.cells #[.int .i64 n, .slice none 0 0] 31)).heap.size = w.heap.size + 3 := by simp
  rw [World.size_alloc] at m1
  rw [World.size_alloc, World.size_alloc] at m2
  subst ho1
  go_wp2_with fail
  refine (HT.out _ (h.below hW)).mono ?_
  rintro e w1 ⟨g, rfl, hrow, hb1⟩
  have n1 := pblk_below hb1 m1
  have n2 := pblk_below hb1 m2
  have hge := hrow.ge
  have hB1 := hW.trans (hb1.mono hW.size)
  rw [hsz3] at hge
  replace hrow := hrow.mono (show w.heap.size ≤ _ by rw [hsz3]; omega)
  clear hb1 m1 m2 hW hsz3
  obtain ⟨g1, hg1⟩ : ∃ g1, w.heap.size + 1 = g1 := ⟨_, rfl⟩
  obtain ⟨g2, hg2⟩ : ∃ g2, w.heap.size + 1 + 1 = g2 := ⟨_, rfl⟩
  rw [hg1] at n1
  rw [hg2] at n2
  rw [hg2, hg1]
  have hle1 : w.heap.size ≤ g1 := by omega
  have hle2 : w.heap.size ≤ g2 := by omega
  have hne1 : g1 ≠ g := by omega
  have hne2 : g2 ≠ g := by omega
  have hne : g2 ≠ g1 := by omega
  clear hge hg1 hg2
  have c0 := Lib.cell_of_heap n2 0
  have c1 := Lib.cell_of_heap n2 1
  have fr2 : ∀ j, w1.frozen? ⟨g2, j, none⟩ = false := fun j => by rw [World.frozen?, n2]; rfl
  have f1 := fr2 1
  obtain ⟨W, hWW⟩ : ∃ W, w1.setCell ⟨g2, 1, none⟩ (.slice (some ⟨g, 0, none⟩) ss.length ss.length) = W := ⟨_, rfl⟩
  have p2 : W.heap[g2]? = some (.cells #[.int .i64 n, .slice (some ⟨g, 0, none⟩) ss.length ss.length] 31) := by rw [← hWW]; exact heap_setCell_same _ g2 1 _ 31 _ n2
  have p1 : W.heap[g1]? = some (.cells #[.int .i64 0, .slice none 0 0] 31) := by
    rw [← hWW]
    exact ((grownBy_setCell _ _ _ _).block g1 (Array.getElem?_eq_some_iff.1 n1).1 (fun e => hne (Option.some.inj e).symm)).trans n1
  have hrW : Row W w.heap.size g ss.length ss.length (ss.map Value.string) := by rw [← hWW]; exact hrow.kept (grownBy_setCell _ _ _ _) (fun e => hne2 (Option.some.inj e).symm)
  have hBW : Below w.heap.size w W := by rw [← hWW]; exact hB1.setCell hle2 _
  go_upto_region 4 with fail
  clear hWW n1 n2 c0 c1 f1 fr2 hrow hB1
  have c0 := Lib.cell_of_heap p2 0
  have c1 := Lib.cell_of_heap p2 1
  have e0 := Lib.cell_of_heap p1 0
  have e1 := Lib.cell_of_heap p1 1
  have fr1 : ∀ j, W.frozen? ⟨g1, j, none⟩ = false := fun j => by rw [World.frozen?, p1]; rfl
  have f0 := fr1 0
  have f1 := fr1 1
  go_wp2_with fail
  have q1 := heap_setCell_same _ g1 1 _ 31 (.slice (some ⟨g, 0, none⟩) ss.length ss.length) (heap_setCell_same _ g1 0 _ 31 (.int .i64 n) p1)
  refine retP Tryz.results13 rfl rfl q1 ⟨g, rfl, (hrW.kept (grownBy_setCell _ _ _ _) (fun e => hne1 (Option.some.inj e).symm)).kept (grownBy_setCell _ _ _ _) (fun e => hne1 (Option.some.inj e).symm), (hBW.setCell hle1 _).setCell hle1 _⟩
theorem PArg.grown {a : Option Addr} {ps : List PairT} {w w' : World} {row : Option Nat} (h : PArg a ps w) (hg : w.grownBy w' row) (hn : ∀ b off, a = some ⟨b, off, none⟩ → 0 < ps.length → some b ≠ row) : PArg a ps w' := by
  refine ⟨h.le, h.sz, fun h0 => ?_⟩
  obtain ⟨b, off, ha, hlt, hc⟩ := h.at_ h0
  have hne := hn b off ha h0
  exact ⟨b, off, ha, Nat.lt_of_lt_of_le hlt hg.size, fun j hj => ⟨(hg.cell_far ⟨b, off + j * 2, none⟩ hlt hne).trans (hc j hj).1, (hg.cell_far ⟨b, off + j * 2 + 1, none⟩ hlt hne).trans (hc j hj).2⟩⟩
theorem own_parg {w : World} {base c : Nat} {a : Option Addr} {ps : List PairT} (h : w.ownsRow base 81 2 (.slice a ps.length c) ps.length (flatP ps)) (hs : SmallP ps) : PArg a ps w := by
  rcases own_prow h with h0 | ⟨g, rfl, hr⟩
  · exact ⟨hs.1, hs.2, fun q => by omega⟩
  · exact Row.parg hr hs
theorem own_in {w : World} {base n c : Nat} {a : Option Addr} {xs : List Value} (h : w.ownsRow base 81 2 (.slice a n c) n xs) (b off : Nat) (e : a = some ⟨b, off, none⟩) : base ≤ b ∧ b < w.heap.size := by
  obtain ⟨q1, q2, _⟩ := own2_cells h (g := b) (by rw [e]; rfl)
  exact ⟨q1, q2⟩
end Go.Proofs.YtibjhkpgaaapaaaGreatDoor
