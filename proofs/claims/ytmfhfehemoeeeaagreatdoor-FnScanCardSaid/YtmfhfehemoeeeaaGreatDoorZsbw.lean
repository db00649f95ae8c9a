import Derived.Test.YtmfhfehemoeeeaaGreatDoorZsbv
set_option maxRecDepth 100000
set_option maxHeartbeats 1000000
namespace Go.Proofs.YtmfhfehemoeeeaaGreatDoor
open Go.RowKit Go.Proofs.Sha

theorem law_fnscan (a : Option Addr) (xs : List Int) (c : Nat) (b : Option Addr) (ys : List Int) (d : Nat) (w : World) (_hl : xs.length ≤ maxLen) (hw : ∀ x ∈ xs, (Lit.int .u8 x).wf = true)
    (h : 0 < xs.length → ∃ b off : Nat, a = some ⟨b, off, none⟩ ∧ b < w.heap.size ∧ ∀ j, j < xs.length → w.cell? ⟨b, off + j, none⟩ = some (.int .u8 (xs.getD j 0)))
    (_hl2 : ys.length ≤ maxLen) (hw2 : ∀ x ∈ ys, (Lit.int .u8 x).wf = true)
    (h2 : 0 < ys.length → ∃ b' off : Nat, b = some ⟨b', off, none⟩ ∧ b' < w.heap.size ∧ ∀ j, j < ys.length → w.cell? ⟨b', off + j, none⟩ = some (.int .u8 (ys.getD j 0)))
    (hK : ∀ j, j < 64 → w.cell? ⟨0, j, none⟩ = some (.int .u32 ((kTab.getD j 0).toNat : Int))) :
    Calls Tryz.prog 3 #[.slice a xs.length c, .slice b ys.length d] w fun e w' => e = .returned (.bool true) ∧ Below w.heap.size w w' := by
  by_cases g1 : 1048576 < xs.length
  · have z1 : decide ((1048576 : Int) < (xs.length : Int)) = true := by simp; omega
    clear hw h hK hw2 h2
    go_enter Tryz.func3, Tryz.ntmps3
    go_wp2_with fail
    go_ret
    exact ⟨rfl, Below.refl _ _⟩
  by_cases g2 : 1048576 < ys.length
  · have z1 : decide ((1048576 : Int) < (xs.length : Int)) = false := by simp; omega
    have z2 : decide ((1048576 : Int) < (ys.length : Int)) = true := by simp; omega
    clear hw h hK hw2 h2
    go_enter Tryz.func3, Tryz.ntmps3
    go_wp2_with fail
    go_ret
    exact ⟨rfl, Below.refl _ _⟩
  obtain ⟨us, hul, hX, hB⟩ := BL.of (by omega) hw h
  obtain ⟨vs, hvl, hY, hB2⟩ := BL.of (by omega) hw2 h2
  rw [← hul, ← hvl]
  obtain ⟨ps, n0, ⟨hps, hn, _⟩, HDr⟩ := droot_detz a us c hX
  exact scan_all a b us vs c d ps n0 _ w hX.le hY hB hB2 hK HDr rfl hn hps
end Go.Proofs.YtmfhfehemoeeeaaGreatDoor
