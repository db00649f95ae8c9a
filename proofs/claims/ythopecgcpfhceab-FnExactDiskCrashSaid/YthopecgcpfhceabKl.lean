import Derived.Test.YthopecgcpfhceabKk
import Derived.Test.YthopecgcpfhceabYb
namespace Go.Proofs.Ythopecgcpfhceab
open Go.RowKit Go.Proofs.Sha Go.Proofs.Disk

theorem sectorEnd_any (p : Nat) (w : World) (h : p ≤ 1048576) : Calls Try.prog 32 #[.int .i64 (p : Int)] w fun e w' => e = .returned (.int .i64 (((p / 64 + 1) * 64 : Nat) : Int)) ∧ w' = w := by
  obtain ⟨q, hq⟩ : ∃ q, p / 64 = q := ⟨_, rfl⟩
  have u1 : (p : Int) / 64 = (q : Int) := by omega
  rw [hq]
  go_enter Try.func32, Try.ntmps32
  go_wp2_with fail
  go_ret
  refine ⟨?_, rfl⟩
  exact ret_int (by omega)

set_option maxRecDepth 100000 in
theorem beginning_any (s : ByteArray) (x : Int) (c : Nat) (w : World) (hs : s.size ≤ 1048576) (hc : (c : Int) = min (max x 0) (s.size : Int)) : Calls Try.prog 34 #[.string s, .int .i64 x] w fun e w' => e = .returned (.string (s.extract 0 c)) ∧ Below w.heap.size w w' := by
  have e : (min (max x 0) (s.size : Int)).toNat = c := by omega
  go_enter Try.func34, Try.ntmps34
  go_wp2_with fail
  go_ret
  refine ⟨?_, Below.refl _ _⟩
  rfl

set_option maxRecDepth 100000 in
set_option maxHeartbeats 1000000 in
theorem appendAt_any (l : List UInt8) (base g n cap p : Nat) (s : ByteArray) (w : World) (hr : Row w base g n cap (l.map B)) (hn : n ≤ p) (hp : p ≤ 1048576) (hs : s.size ≤ 1048576) (hb : base ≤ w.heap.size) :
    Calls Try.prog 33 #[.slice (some ⟨g, 0, none⟩) n cap, .int .i64 (p : Int), .string s] w fun e w' => ∃ g' n' cap', e = .returned (.slice (some ⟨g', 0, none⟩) n' cap') ∧ Row w' base g' n' cap' ((if s.size = 0 then l else l ++ List.replicate (p - n) 0 ++ s.data.toList).map B) ∧ Below base w w' := by
  obtain ⟨i0, hi0, hz0, hz1, hz2⟩ := info_parts info5
  by_cases h0 : s.size = 0
  · have hse : s = ⟨#[]⟩ := by
      apply ByteArray.ext
      exact Array.eq_empty_of_size_eq_zero h0
    rw [if_pos h0]
    subst hse
    go_enter Try.func33, Try.ntmps33
    go_wp2_with fail
    go_ret
    exact ⟨g, n, cap, rfl, hr, Below.refl _ _⟩
  · rw [if_neg h0]
    have z1 : s.toList.isEmpty = false := by
      cases e : s.toList with
      | nil => exact absurd (by have := congrArg List.length e; simpa [ByteArray.toList_eq] using this) h0
      | cons _ _ => rfl
    have hsub : (p : Int) - (n : Int) = ((p - n : Nat) : Int) := by omega
    obtain ⟨q, hq⟩ : ∃ q, p - n = q := ⟨_, rfl⟩
    rw [hq] at hsub ⊢
    have hge := hr.ge
    go_enter Try.func33, Try.ntmps33
    go_wp2_with (first | (at_builtin; refine wpList_append_zero _ rfl (.tmp 10) (.tmp 14) 55 3 rfl 5 i0 1 Try.underlying55 Try.underlying3 hi0 hz0 hz1 hz2 base g n cap _ rfl hr q rfl (by omega) (by omega) hb w.heap.size rfl ?_; intro g1 c1 w1 hrow1 hgrow1 hg1 hkeep1; have hge1 := hrow1.ge; have hb1 : base ≤ w1.heap.size := Nat.le_trans hb hgrow1.size) | (at_builtin; refine wpList_append_str _ rfl (.tmp 16) (.tmp 17) 55 9 rfl 5 i0 (.int .u8 0) 1 Try.underlying55 Try.underlying9 hi0 hz0 hz1 hz2 rfl base g1 (n + q) c1 _ rfl hrow1 s rfl (by unfold maxLen; omega) (by omega) hb1 w1.heap.size rfl ?_; intro g2 c2 w2 hrow2 hgrow2 hg2 hkeep2))
    go_ret
    refine ⟨g2, n + q + s.size, c2, rfl, ?_, ?_⟩
    · have e : (l ++ List.replicate q 0 ++ s.data.toList).map B = l.map B ++ List.replicate q (B 0) ++ s.data.toList.map B := by
        rw [List.map_append, List.map_append, List.map_replicate]
      rw [e]
      exact hrow2
    · exact (below_of_grown hgrow1 hge hb).trans (below_of_grown hgrow2 hge1 hb1)
end Go.Proofs.Ythopecgcpfhceab
