import Derived.Test.YthopecgcpfhceadCg
import Derived.Test.YthopecgcpfhceadKj
namespace Go.Proofs.Ythopecgcpfhcead
open Go.RowKit Go.Proofs.Sha

/-- One pick more. -/
def PickAt (a : Option Addr) (xs : List Nat) (cap p j : Nat) (v : Int) : Prop :=
  ∃ x y : Nat, (x < 8 ∧ y < 64) ∧
    Hid (∀ w, BL a xs w → Calls Try.prog 27 #[.slice a xs.length cap, .int .i64 ((p + 2 * j : Nat) : Int), .int .i64 8] w fun e w' => e = .returned (.tuple #[.int .i64 (x : Int), .int .i64 ((p + 2 * j + 1 : Nat) : Int)]) ∧ Below w.heap.size w w') ∧
    Hid (∀ w, BL a xs w → Calls Try.prog 27 #[.slice a xs.length cap, .int .i64 ((p + 2 * j + 1 : Nat) : Int), .int .i64 64] w fun e w' => e = .returned (.tuple #[.int .i64 (y : Int), .int .i64 ((p + 2 * (j + 1) : Nat) : Int)]) ∧ Below w.heap.size w w') ∧
    Hid (v = if x < 2 then 0 else if x < 6 then 64 else if x = 6 then (y : Int) else 63 - ((y % 2 : Nat) : Int) * 64)
theorem pick_ex (a : Option Addr) (xs : List Nat) (cap p j : Nat) (hX : Code8 xs) (hp : p ≤ 10000) (hj : j < 12) : ∃ v, PickAt a xs cap p j v := by
  obtain ⟨x, hx, HX⟩ := take_det a xs cap (p + 2 * j) 8 hX (by omega) (by omega) (by omega)
  obtain ⟨y, hy, HY⟩ := take_det a xs cap (p + 2 * j + 1) 64 hX (by omega) (by omega) (by omega)
  exact ⟨_, x, y, ⟨hx, hy⟩, HX, HY, rfl⟩

set_option maxRecDepth 100000 in
set_option maxHeartbeats 2000000 in
theorem picks_det (a : Option Addr) (xs : List Nat) (cap p n : Nat) (hX : Code8 xs) (hp : p ≤ 10000) (hn : n ≤ 12) :
    ∃ ps : List Int, ps.length = n ∧ ∀ w, BL a xs w → Calls Try.prog 28 #[.slice a xs.length cap, .int .i64 (p : Int), .int .i64 (n : Int)] w fun e w' => ∃ (g c : Nat) (y : Int), e = .returned (.tuple #[.slice (some ⟨g, 0, none⟩) ps.length c, .int .i64 y]) ∧ IArg (some ⟨g, 0, none⟩) ps w' ∧ w.heap.size ≤ g ∧ Below w.heap.size w w' := by
  have hch : ∀ j : Nat, ∃ v : Int, j < 12 → PickAt a xs cap p j v := fun j => by
    by_cases hj : j < 12
    · obtain ⟨v, hv⟩ := pick_ex a xs cap p j hX hp hj
      exact ⟨v, fun _ => hv⟩
    · exact ⟨0, fun h => absurd h hj⟩
  obtain ⟨f, hf⟩ := Classical.axiomOfChoice hch
  have hlen : ∀ k, ((List.range k).map f).length = k := fun k => by rw [List.length_map, List.length_range]
  refine ⟨(List.range n).map f, hlen n, fun w h => ?_⟩
  obtain ⟨i0, hi0, hz0, hz1, hz2⟩ := info_parts info3
  rw [hlen n]
  go_enter Try.func28, Try.ntmps28
  have hrow0 : Row (w.alloc (.cells #[] 3)) w.heap.size w.heap.size 0 0 [] := by
    have := Row.of_block (Nat.le_refl w.heap.size) (heap_alloc_new w (.cells #[] 3)) 0 (Nat.zero_le _) (.inl rfl)
    simpa using this
  have hb0 : Below w.heap.size w (w.alloc (.cells #[] 3)) := (Below.refl _ _).alloc (Nat.le_refl _) _
  go_wp2_with fail
  go_loopw [1, 8, 9] (fun t1 t8 t9 wr => ∃ k g c : Nat, k ≤ n ∧ t9 = .int .i64 (k : Int) ∧ t1 = .int .i64 ((p + 2 * k : Nat) : Int) ∧ t8 = .slice (some ⟨g, 0, none⟩) k c ∧ Row wr w.heap.size g k c (((List.range k).map f).map I) ∧ Below w.heap.size w wr) (fun _ _ t9 _ => n - (intOf t9).toNat)
  case atStart => exact ⟨0, w.heap.size, 0, Nat.zero_le _, rfl, rfl, rfl, hrow0, hb0⟩
  case round =>
    clear hrow0 hb0
    obtain ⟨k, g, c, hk, rfl, rfl, rfl, hrow, hbel⟩ := hrel
    by_cases hlt : k < n
    · have z1 : decide ((k : Int) < (n : Int)) = true := by simp; omega
      obtain ⟨x, y, ⟨hx, hy⟩, HX, HY, HV⟩ := hf k (by omega)
      obtain ⟨q0, hq0⟩ : ∃ q, p + 2 * k = q := ⟨_, rfl⟩
      obtain ⟨q1, hq1⟩ : ∃ q, q0 + 1 = q := ⟨_, rfl⟩
      obtain ⟨q2, hq2⟩ : ∃ q, p + 2 * (k + 1) = q := ⟨_, rfl⟩
      rw [hq0] at HX HY
      rw [hq1] at HX HY
      rw [hq2] at HY
      rw [hq0]
      have HQ2 : Hid (p + 2 * (k + 1) = q2) := hq2
      obtain ⟨v, hv⟩ : ∃ v, f k = v := ⟨_, rfl⟩
      rw [hv] at HV
      replace hv : Hid _ := hv
      clear hq0 hq1 hq2
      go_wp2_with fail
      refine (HX.out _ (h.below hbel)).mono ?_
      rintro e w2 ⟨rfl, hb2⟩
      have hB2 := hbel.trans (hb2.mono hbel.size)
      have hrow2 := hrow.below hb2
      go_wp2_with fail
      refine (HY.out _ (h.below hB2)).mono ?_
      rintro e w3 ⟨rfl, hb3⟩
      have hB3 := hB2.trans (hb3.mono hB2.size)
      have hrow3 := hrow2.below hb3
      clear hb2 hb3 hB2 hrow2 hrow hbel HX HY
      have hge := hrow3.ge
      have hs3 := hB3.size
      have HFin : Hid (∀ u : Int, v = u → ∀ (g4 c4 : Nat) (w4 : World), Row w4 w.heap.size g4 (k + 1) c4 (((List.range k).map f).map I ++ [.int .i64 u]) → (w3.alloc (.cells #[.int .i64 u] 3)).grownBy w4 (some g) →
          ∃ k' g' c' : Nat, k' ≤ n ∧ Value.int .i64 ((k : Int) + 1) = .int .i64 (k' : Int) ∧ Value.int .i64 (q2 : Int) = .int .i64 ((p + 2 * k' : Nat) : Int) ∧ Value.slice (some ⟨g4, 0, none⟩) (k + 1) c4 = .slice (some ⟨g', 0, none⟩) k' c' ∧ Row w4 w.heap.size g' k' c' (((List.range k').map f).map I) ∧ Below w.heap.size w w4) := by
        intro u hu g4 c4 w4 hr4 hg4
        refine ⟨k + 1, g4, c4, hlt, rfl, by rw [HQ2.out], rfl, ?_, (hB3.alloc hB3.size _).grown hg4 (by simp; omega) (fun q hq => by cases hq; exact hge)⟩
        rw [List.range_succ, List.map_append, List.map_append]
        show Row _ _ _ _ _ (_ ++ [I (f k)])
        rw [hv.out, hu]
        exact hr4
      by_cases c1 : x < 2
      · have z2 : decide ((x : Int) < 2) = true := by simp; omega
        have hu : v = 0 := HV.out.trans (if_pos c1)
        clear HV
        replace hu : Hid _ := hu
        go_wp2_with (at_builtin; refine wpList_append_row _ rfl (.tmp 32) (.tmp 33) 34 rfl 3 i0 (.int .i64 0) 8 Try.underlying34 hi0 hz0 hz1 hz2 rfl w.heap.size g k c _ rfl (hrow3.alloc _) ⟨w3.heap.size, 0, none⟩ 1 1 [.int .i64 0] rfl rfl (World.news_of_block (heap_alloc_new w3 _)) (by simp [Value.oneCell']) (by unfold maxLen; omega) (by omega) (by simp; omega) (w3.heap.size + 1) (by simp) ?_; intro g4 c4 w4 hrow4 hgrow4 hg4 hkeep4)
        go_roundw
        case rel => exact HFin.out 0 hu.out _ _ _ hrow4 hgrow4
        case measure => simp [intOf]; omega
      have z2 : decide ((x : Int) < 2) = false := by simp; omega
      by_cases c2 : x < 6
      · have z3 : decide ((x : Int) < 6) = true := by simp; omega
        have hu : v = 64 := HV.out.trans ((if_neg c1).trans (if_pos c2))
        clear HV
        replace hu : Hid _ := hu
        go_wp2_with (at_builtin; refine wpList_append_row _ rfl (.tmp 37) (.tmp 38) 34 rfl 3 i0 (.int .i64 0) 8 Try.underlying34 hi0 hz0 hz1 hz2 rfl w.heap.size g k c _ rfl (hrow3.alloc _) ⟨w3.heap.size, 0, none⟩ 1 1 [.int .i64 64] rfl rfl (World.news_of_block (heap_alloc_new w3 _)) (by simp [Value.oneCell']) (by unfold maxLen; omega) (by omega) (by simp; omega) (w3.heap.size + 1) (by simp) ?_; intro g4 c4 w4 hrow4 hgrow4 hg4 hkeep4)
        go_roundw
        case rel => exact HFin.out 64 hu.out _ _ _ hrow4 hgrow4
        case measure => simp [intOf]; omega
      have z3 : decide ((x : Int) < 6) = false := by simp; omega
      by_cases c3 : x = 6
      · have hu : v = (y : Int) := HV.out.trans ((if_neg c1).trans ((if_neg c2).trans (if_pos c3)))
        clear HV
        replace hu : Hid _ := hu
        subst c3
        go_wp2_with (at_builtin; refine wpList_append_row _ rfl (.tmp 42) (.tmp 44) 34 rfl 3 i0 (.int .i64 0) 8 Try.underlying34 hi0 hz0 hz1 hz2 rfl w.heap.size g k c _ rfl (hrow3.alloc _) ⟨w3.heap.size, 0, none⟩ 1 1 [.int .i64 (y : Int)] rfl rfl (World.news_of_block (heap_alloc_new w3 _)) (by simp [Value.oneCell']) (by unfold maxLen; omega) (by omega) (by simp; omega) (w3.heap.size + 1) (by simp) ?_; intro g4 c4 w4 hrow4 hgrow4 hg4 hkeep4)
        go_roundw
        case rel => exact HFin.out (y : Int) hu.out _ _ _ hrow4 hgrow4
        case measure => simp [intOf]; omega
      have z4 : ((x : Int) == 6) = false := by rw [beq_eq_false_iff_ne]; omega
      have hu : v = 63 - ((y % 2 : Nat) : Int) * 64 := HV.out.trans ((if_neg c1).trans ((if_neg c2).trans (if_neg c3)))
      clear HV
      obtain ⟨y2, hy2⟩ : ∃ y2, y % 2 = y2 := ⟨_, rfl⟩
      rw [hy2] at hu
      replace hu : Hid _ := hu
      have hy2b : y2 < 2 := by omega
      have u1 : (y : Int) % 2 = (y2 : Int) := by omega
      clear hy2
      go_wp2_with (at_builtin; refine wpList_append_row _ rfl (.tmp 46) (.tmp 51) 34 rfl 3 i0 (.int .i64 0) 8 Try.underlying34 hi0 hz0 hz1 hz2 rfl w.heap.size g k c _ rfl (hrow3.alloc _) ⟨w3.heap.size, 0, none⟩ 1 1 [_] rfl rfl (World.news_of_block (heap_alloc_new w3 _)) (by simp [Value.oneCell']) (by unfold maxLen; omega) (by omega) (by simp; omega) (w3.heap.size + 1) (by simp) ?_; intro g4 c4 w4 hrow4 hgrow4 hg4 hkeep4)
      go_roundw
      case rel => exact HFin.out (63 - (y2 : Int) * 64) hu.out _ _ _ hrow4 hgrow4
      case measure => simp [intOf]; omega
    · obtain rfl : k = n := by omega
      have z1 : decide ((k : Int) < (k : Int)) = false := by simp
      go_wp2_with fail
      go_ret2
      refine ⟨g, c, _, rfl, ?_, hrow.ge, hbel⟩
      refine ⟨by rw [hlen]; omega, fun hp => ?_⟩
      refine ⟨g, 0, rfl, hrow.lt, fun j hj => ?_⟩
      rw [hlen] at hj
      rw [Nat.zero_add, hrow.cell j hj, List.getElem?_map, List.getElem?_eq_getElem (by rw [hlen]; exact hj), List.getD_eq_getElem?_getD, List.getElem?_eq_getElem (by rw [hlen]; exact hj)]
      rfl
end Go.Proofs.Ythopecgcpfhcead
