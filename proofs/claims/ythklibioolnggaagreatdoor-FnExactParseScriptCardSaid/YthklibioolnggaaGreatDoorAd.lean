import Derived.Test.YthklibioolnggaaGreatDoorAc
import Derived.Test.YthklibioolnggaaGreatDoorSl
import Derived.Lib.SmallJoins
import Derived.Deep.Cut
import Derived.Deep.RegionHeld3
namespace Go.Proofs.YthklibioolnggaaGreatDoor
open Go.RowKit Go.Proofs.Sha

/-- What the library's functions ask of the package's variables. -/
structure Env (w : World) : Prop where
  m : ∃ m, w.cell? ⟨0, 0, none⟩ = some (.int .i64 m)
  es : ∃ ev, w.cell? ⟨3, 0, none⟩ = some ev ∧ (ev = .nilIface ∨ ∃ te pe, ev = .iface te pe)
  er : ∃ ev, w.cell? ⟨4, 0, none⟩ = some ev ∧ (ev = .nilIface ∨ ∃ te pe, ev = .iface te pe)
  pw : Lib.TabIs Tryz.prog w "internal/strconv.uint64pow10" .u64 Lib.pow10Tab
theorem gPow : Tryz.prog.globalNamed "internal/strconv.uint64pow10" = some 5 := by kernel_rfl
theorem cell_keep {w w' : World} {a : Addr} {v : Value} (h : w.cell? a = some v) (hb : Below w.heap.size w w') : w'.cell? a = some v := by
  rw [hb.cell (World.block_lt_of_cell? _ _ h)]; exact h
theorem Env.below {w w' : World} (h : Env w) (hb : Below w.heap.size w w') : Env w' := by
  obtain ⟨m, hm⟩ := h.m
  obtain ⟨e1, h1, k1⟩ := h.es
  obtain ⟨e2, h2, k2⟩ := h.er
  exact ⟨⟨m, cell_keep hm hb⟩, ⟨e1, cell_keep h1 hb, k1⟩, ⟨e2, cell_keep h2 hb, k2⟩, Joins.tab_stays gPow h.pw hb (Nat.le_refl _)⟩
theorem grow_below (w : World) (q : Nat) (os : Array Obj) : Below w.heap.size w (Sort.grow (w.drewN q) os) :=
  ⟨rfl, rfl, rfl, by first | (simp [Sort.grow]; done) | (simp [Sort.grow]; omega), fun i hi => by
    show ((w.drewN q).heap ++ os)[i]? = _
    rw [Array.getElem?_append_left (by show i < w.heap.size; omega)]
    rfl⟩
theorem itoa_any (n : Int) (w : World) (h : Env w) (h0 : -9223372036854775808 ≤ n) (h1 : n ≤ 9223372036854775807) :
    Calls Tryz.prog 77 #[.int .i64 n] w fun e w' => e = .returned (.string ⟨(Lib.itoa n).toArray⟩) ∧ Below w.heap.size w w' := by
  refine (Tryz.strconv_Itoa n h0 h1 w h.pw).mono ?_
  rintro e w' ⟨rfl, k, os, rfl⟩
  exact ⟨rfl, grow_below _ _ _⟩

theorem atoi_any (s : ByteArray) (w : World) (h : Env w) (hs : s.size ≤ 1048576) :
    Calls Tryz.prog 76 #[.string s] w fun e w' => ∃ v, e = .returned (.tuple #[.int .i64 (numI s.data.toList).1, v]) ∧ ((∃ n, v = .nilIface ∧ Lib.atoiAll s.data.toList = .ok n) ∨ ((numI s.data.toList).2 = false ∧ ∃ t p, v = .iface t p)) ∧ Below w.heap.size w w' := by
  cases ha : Lib.atoiAll s.data.toList with
  | ok n =>
    refine (Tryz.strconv_Atoi_ok s (by omega) n ha w).mono ?_
    rintro e w' ⟨rfl, hw⟩
    have e1 : (numI s.data.toList).1 = n := by simp only [numI, ha]
    refine ⟨_, by rw [e1], .inl ⟨n, rfl, rfl⟩, ?_⟩
    rcases hw with rfl | ⟨t, rfl⟩
    · exact Below.refl _ _
    · exact Joins.below_bytesWorld _ _ _ _ (Nat.le_refl _)
  | «syntax» =>
    obtain ⟨ev, h1, h2⟩ := h.es
    refine (Tryz.strconv_Atoi_syntax s (by omega) ha ev w h1 h2).mono ?_
    rintro e w' ⟨N, rfl, _, _, hb⟩
    have e1 : numI s.data.toList = (0, false) := by simp only [numI, ha]
    exact ⟨_, by rw [e1], .inr ⟨by rw [e1], _, _, rfl⟩, hb⟩
  | range =>
    obtain ⟨ev, h1, h2⟩ := h.er
    refine (Tryz.strconv_Atoi_range s (by omega) ha ev w h1 h2).mono ?_
    rintro e w' ⟨N, rfl, _, _, hb⟩
    have e1 : numI s.data.toList = (Lib.atoiSat s.data.toList, false) := by simp only [numI, ha]
    exact ⟨_, by rw [e1], .inr ⟨by rw [e1], _, _, rfl⟩, hb⟩

set_option maxRecDepth 100000 in
set_option maxHeartbeats 400000 in
theorem number_any (s : ByteArray) (w : World) (h : Env w) (hs : s.size ≤ 1048576) :
    Calls Tryz.prog 64 #[.string s] w fun e w' => e = .returned (.tuple #[.int .i64 (numI s.data.toList).1, .bool (numI s.data.toList).2]) ∧ Below w.heap.size w w' := by
  have HA : Hid (∀ W, Env W → Calls Tryz.prog 76 #[.string s] W fun e w' => ∃ v, e = .returned (.tuple #[.int .i64 (numI s.data.toList).1, v]) ∧ ((∃ n, v = .nilIface ∧ Lib.atoiAll s.data.toList = .ok n) ∨ ((numI s.data.toList).2 = false ∧ ∃ t p, v = .iface t p)) ∧ Below W.heap.size W w') := fun W hW => atoi_any s W hW hs
  obtain ⟨i, hi⟩ : ∃ i, (numI s.data.toList).1 = i := ⟨_, rfl⟩
  obtain ⟨b, hb⟩ : ∃ b, (numI s.data.toList).2 = b := ⟨_, rfl⟩
  have hib : Hid ((numI s.data.toList).1 = i ∧ (numI s.data.toList).2 = b) := ⟨hi, hb⟩
  have hr : Hid (∀ n, Lib.atoiAll s.data.toList = .ok n → i = n ∧ b = (decide (-1 ≤ i) && decide (i ≤ 99999999) && decide (Lib.itoa i = s.data.toList)) ∧ -9223372036854775808 ≤ i ∧ i ≤ 9223372036854775807) := by
    intro n hn
    have e1 : numI s.data.toList = (n, decide (-1 ≤ n) && decide (n ≤ 99999999) && decide (Lib.itoa n = s.data.toList)) := by simp only [numI, hn]
    have e2 := Lib.atoiAll_bounds hn
    rw [e1] at hi hb
    subst hi
    exact ⟨rfl, hb.symm, e2⟩
  rw [hi, hb] at HA
  rw [hi, hb]
  clear hi hb
  go_enter Tryz.func64, Tryz.ntmps64
  go_upto_region 2 with (first | (go_at_call 76; refine (HA.out _ h).mono ?_; rintro e w1 ⟨v, rfl, hv, hb1⟩))
  have h1 := h.below hb1
  rcases hv with ⟨n, rfl, hn⟩ | ⟨hbf, t, p, rfl⟩
  · obtain ⟨-, hbv0, k1, k2⟩ := hr.out n hn
    have hbv : Hid _ := hbv0
    clear hr hn HA hib hbv0
    by_cases g1 : -1 ≤ i
    · by_cases g2 : i ≤ 99999999
      · have HI : Hid (∀ W, Env W → Calls Tryz.prog 77 #[.int .i64 i] W fun e w' => e = .returned (.string ⟨(Lib.itoa i).toArray⟩) ∧ Below W.heap.size W w') := fun W hW => itoa_any i W hW k1 k2
        clear k1 k2
        go_wp2_with (first | (go_at_call 77; refine (HI.out _ h1).mono ?_; rintro e w2 ⟨rfl, hb2⟩))
        go_ret2
        refine ⟨?_, hb1.trans (hb2.mono hb1.size)⟩
        rw [hbv.out]
        have e : (Lib.itoa i == s.data.toList) = decide (Lib.itoa i = s.data.toList) := by rw [Bool.eq_iff_iff]; simp
        simp only [tl_eq, g1, g2]
        rw [e]
        simp
      · have g2' : ¬ (i ≤ 99999999) := g2
        have hbv' : Hid (b = false) := by show _ = _; rw [hbv.out, decide_eq_false g2]; simp
        clear hbv k1 k2
        go_wp2_with fail
        go_ret2
        exact ⟨by rw [hbv'.out]; rfl, hb1⟩
    · have hbv' : Hid (b = false) := by show _ = _; rw [hbv.out, decide_eq_false g1]; simp
      clear hbv k1 k2
      go_wp2_with fail
      go_ret2
      exact ⟨by rw [hbv'.out]; rfl, hb1⟩
  · have hbf : Hid (b = false) := hbf
    clear hr HA hib
    go_wp2_with fail
    go_ret2
    exact ⟨by rw [hbf.out]; rfl, hb1⟩

end Go.Proofs.YthklibioolnggaaGreatDoor
