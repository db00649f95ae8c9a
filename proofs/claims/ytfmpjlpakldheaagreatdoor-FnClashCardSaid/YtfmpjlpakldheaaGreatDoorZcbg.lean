import Derived.Test.YtfmpjlpakldheaaGreatDoorZcbf
import Derived.Test.YtfmpjlpakldheaaGreatDoorZcbd
namespace Go.Proofs.YtfmpjlpakldheaaGreatDoor
open Go.RowKit Go.Proofs.Sha

/-- A list of pairs, mostly a map. -/
theorem anymap_det (a : Option Addr) (xs : List Nat) (cap p : Nat) (hX : Code8 xs) (hp : p ≤ 60000) :
    ∃ (ps : List PairT) (z : Nat), (SmQ ps 15 ∧ z ≤ p + 43) ∧ ∀ w, BL a xs w → Calls Tryz.prog 43 #[.slice a xs.length cap, .int .i64 (p : Int)] w (MGot ps z w) := by
  obtain ⟨x, hx, HT⟩ := take_det a xs cap p 40 hX (by omega) (by omega) (by omega)
  have hL := hX.le
  obtain ⟨n, hn⟩ : ∃ n, (if 14 < 1 + xs.length / 8 then 14 else 1 + xs.length / 8) = n := ⟨_, rfl⟩
  have hn1 : 1 ≤ n ∧ n ≤ 14 := by split at hn <;> omega
  have HC : ∀ w, Calls Tryz.prog 93 #[.slice a xs.length cap, .int .i64 8, .int .i64 1, .int .i64 14] w fun e w' => e = .returned (.int .i64 (n : Int)) ∧ w' = w := fun w => by
    rw [← hn]
    exact count_any a xs.length cap 8 1 14 w (by omega) hL (by omega) (by omega)
  obtain ⟨ps, ⟨hS, hpos⟩, HM⟩ := map1_det a xs cap (p + 1) n hX (by omega) (by omega)
  have hp0 := hpos (by omega)
  have hlen := hS.len
  have hq := hS.q
  have hq15 : SmQ ps 15 := ⟨by omega, hq.sz⟩
  have hget : ∀ j, (ps.getD j noPair).1.size ≤ 300 ∧ (ps.getD j noPair).2.size ≤ 2001 := fun j => by
    by_cases hj : j < ps.length
    · rw [List.getD_eq_getElem?_getD, List.getElem?_eq_getElem hj]
      exact hq.sz _ (List.getElem_mem hj)
    · rw [List.getD_eq_getElem?_getD, List.getElem?_eq_none (by omega)]
      exact ⟨Nat.zero_le _, Nat.zero_le _⟩
  have hm2 : (p + 1 + 3 * n) % 2 < 2 := Nat.mod_lt _ (by omega)
  by_cases h1 : x < 35
  · exact ⟨ps, _, ⟨hq15, by omega⟩, amap_a a xs cap p x n _ ps hS hn1.2 (by omega) HT HC HM h1⟩
  by_cases h2 : x = 35
  · by_cases hl : ps.length ≤ 1
    · exact ⟨ps, _, ⟨hq15, by omega⟩, amap_b a xs cap p x n _ ps hS hn1.2 (by omega) HT HC HM h2 hl⟩
    · refine ⟨_, _, ⟨⟨by rw [List.length_set, List.length_set]; omega, fun q hq' => ?_⟩, by omega⟩, amap_e a xs cap p x n _ ps hS hn1.2 (by omega) HT HC HM h2 (by omega)⟩
      rcases List.mem_or_eq_of_mem_set hq' with h | h
      · rcases List.mem_or_eq_of_mem_set h with h | h
        · exact hq.sz q h
        · rw [h]; exact hget 1
      · rw [h]; exact hget 0
  by_cases h3 : x = 36
  · refine ⟨_, _, ⟨⟨by rw [List.length_append]; show _ + 1 ≤ 15; omega, fun q hq' => ?_⟩, by omega⟩, amap_d a xs cap p x n _ ps hS hn1.2 (by omega) HT HC HM h3 hp0⟩
    rcases List.mem_append.1 hq' with h | h
    · exact hq.sz q h
    · rw [List.mem_singleton.1 h]; exact hget _
  by_cases h4 : x = 37
  · refine ⟨_, _, ⟨⟨by rw [List.length_cons]; omega, fun q hq' => ?_⟩, by omega⟩, amap_f a xs cap p x n _ ps hS hn1.2 (by omega) HT HC HM h4 hp0⟩
    rcases List.mem_cons.1 hq' with h | h
    · rw [h]; exact ⟨Nat.zero_le _, Nat.zero_le _⟩
    · exact hq.sz q h
  by_cases h5 : x = 38
  · refine ⟨_, _, ⟨⟨by simp, fun q hq' => ?_⟩, by omega⟩, amap_g a xs cap p x n _ ps hS hn1.2 (by omega) HT HC HM h5⟩
    rw [List.mem_singleton.1 hq', reps_size, reps_size]
    omega
  · refine ⟨_, _, ⟨⟨by simp, fun q hq' => ?_⟩, by omega⟩, amap_h a xs cap p x n _ ps hS hn1.2 (by omega) HT HC HM (by omega)⟩
    rw [List.mem_singleton.1 hq', reps_size]
    exact ⟨by show (⟨#[107]⟩ : ByteArray).size ≤ 300; decide, by omega⟩
end Go.Proofs.YtfmpjlpakldheaaGreatDoor
namespace Go.Proofs.YtfmpjlpakldheaaGreatDoor
open Go.RowKit Go.Proofs.Sha

section
variable {w : World} {gq wd : Nat} {ss roots : List ByteArray} {ps : List PairT} {ap : Option Addr} {cp : Nat} {ar : Option Addr} {cr : Nat} {a4 : Option Addr} {c4 : Nat} {W W' : World}
end
end Go.Proofs.YtfmpjlpakldheaaGreatDoor
namespace Go.Proofs.YtfmpjlpakldheaaGreatDoor
open Go.RowKit Go.Proofs.Sha

end Go.Proofs.YtfmpjlpakldheaaGreatDoor
namespace Go.Proofs.YtfmpjlpakldheaaGreatDoor
open Go.RowKit Go.Proofs.Sha

end Go.Proofs.YtfmpjlpakldheaaGreatDoor
namespace Go.Proofs.YtfmpjlpakldheaaGreatDoor
open Go.RowKit Go.Proofs.Sha

set_option maxRecDepth 100000 in
theorem take_none (a : Option Addr) (xs : List Nat) (cap : Nat) (p : Nat) (hp : p ≤ 100000) (w : World) :
    Calls Tryz.prog 41 #[.slice a xs.length cap, .int .i64 (p : Int), .int .i64 ((0 : Nat) : Int)] w fun e w' => e = .returned (.tuple #[.int .i64 ((0 : Nat) : Int), .int .i64 ((p + 1 : Nat) : Int)]) ∧ Below w.heap.size w w' := by
  have y1 : IntKind.i64.wrap ((p : Int) + 1) = ((p + 1 : Nat) : Int) := by rw [wrap_i64_in _ (by omega) (by omega)]; omega
  obtain ⟨n, hnn⟩ : ∃ n, xs.length = n := ⟨_, rfl⟩
  rw [hnn]
  go_enter Tryz.func41, Tryz.ntmps41
  go_wp2_with fail
  go_ret2
  exact ⟨by first | rfl | rw [y1], Below.refl _ _⟩
/-- One that may be of none. -/
theorem take0_det (a : Option Addr) (xs : List Nat) (cap : Nat) (p m : Nat) (hX : Code8 xs) (hp : p ≤ 100000) (hm : m ≤ 100000) :
    ∃ x : Nat, (0 < m → x < m) ∧ (m = 0 → x = 0) ∧ ∀ w, BL a xs w → Calls Tryz.prog 41 #[.slice a xs.length cap, .int .i64 (p : Int), .int .i64 (m : Int)] w fun e w' => e = .returned (.tuple #[.int .i64 (x : Int), .int .i64 ((p + 1 : Nat) : Int)]) ∧ Below w.heap.size w w' := by
  by_cases h : m = 0
  · subst h
    exact ⟨0, fun h => absurd h (Nat.lt_irrefl _), fun _ => rfl, fun w _ => take_none a xs cap p hp w⟩
  · obtain ⟨x, hx, H⟩ := take_det a xs cap p m hX hp (by omega) hm
    exact ⟨x, fun _ => hx, fun q => absurd q h, H⟩
section
variable {fz : Nat → Option Obj} {ex : Option Nat} {w0 : World} {gp g wd : Nat} {ss ys roots : List ByteArray} {ap : Option Addr} {cp : Nat} {ao : Option Addr} {co : Nat} {ar : Option Addr} {cr : Nat} {W W' : World}
end
end Go.Proofs.YtfmpjlpakldheaaGreatDoor
namespace Go.Proofs.YtfmpjlpakldheaaGreatDoor
open Go.RowKit Go.Proofs.Sha

end Go.Proofs.YtfmpjlpakldheaaGreatDoor
namespace Go.Proofs.YtfmpjlpakldheaaGreatDoor
open Go.RowKit Go.Proofs.Sha

end Go.Proofs.YtfmpjlpakldheaaGreatDoor
namespace Go.Proofs.YtfmpjlpakldheaaGreatDoor
open Go.RowKit Go.Proofs.Sha

theorem set4_below {B gn : Nat} {a W : World} (h : Below B a W) (hg : B ≤ gn) (u0 u1 u2 u3 : Value) : Below B a ((((W.setCell ⟨gn, 0, none⟩ u0).setCell ⟨gn, 1, none⟩ u1).setCell ⟨gn, 2, none⟩ u2).setCell ⟨gn, 3, none⟩ u3) :=
  (((h.setCell (p := ⟨gn, 0, none⟩) hg _).setCell (p := ⟨gn, 1, none⟩) hg _).setCell (p := ⟨gn, 2, none⟩) hg _).setCell (p := ⟨gn, 3, none⟩) hg _
section
variable {fz : Nat → Option Obj} {ex : Option Nat} {w0 : World} {gp g wd : Nat} {ss ys roots : List ByteArray} {ap : Option Addr} {cp : Nat} {ao : Option Addr} {co : Nat} {ar : Option Addr} {cr : Nat} {W : World}
end
end Go.Proofs.YtfmpjlpakldheaaGreatDoor
