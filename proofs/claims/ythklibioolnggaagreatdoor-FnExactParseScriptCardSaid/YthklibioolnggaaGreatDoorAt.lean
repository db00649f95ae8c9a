import Derived.Test.YthklibioolnggaaGreatDoorAs
namespace Go.Proofs.YthklibioolnggaaGreatDoor
open Go.RowKit Go.Proofs.Sha

def headK (sh : UInt8) (n : Nat) : Value := .agg #[.string ⟨#[sh]⟩, .func (.func n) #[] #[]]
/-- The three maps that lineKinds gives. -/
structure LinesAt (g r0 r1 r2 : Nat) (gs : List Nat) (W : World) : Prop where
  row : W.heap[g]? = some (.cells #[.map (some r0), .map (some r1), .map (some r2)] 44)
  m0 : MapS r0 [⟨#[119, 105, 100, 116, 104]⟩] [headK 87 24] W
  m1 : MapS r1 [⟨#[99, 97, 112]⟩] [headK 67 25] W
  m2 : KindsAt r2 gs W
theorem LinesAt.below {g r0 r1 r2 : Nat} {gs : List Nat} {W W' : World} (h : LinesAt g r0 r1 r2 gs W) (hb : Below W.heap.size W W') : LinesAt g r0 r1 r2 gs W' :=
  ⟨(hb.block g (Array.getElem?_eq_some_iff.1 h.row).1).trans h.row, h.m0.below hb, h.m1.below hb, h.m2.below hb⟩
theorem mapS_grown {W W' : World} {r q : Nat} {ks : List ByteArray} {vs : List Value} (h : MapS r ks vs W) (hg : W.grownBy W' (some q)) (hne : r ≠ q) : MapS r ks vs W' := by
  obtain ⟨es, c, h1, h2⟩ := h
  exact ⟨es, c, (hg.block r (Array.getElem?_eq_some_iff.1 h1).1 (fun e => hne (Option.some.inj e))).trans h1, h2⟩

set_option maxRecDepth 100000 in
set_option maxHeartbeats 1000000 in
theorem lineKinds_any (w : World) : Calls Tryz.prog 14 #[] w fun e w' => ∃ g r0 r1 r2 gs, e = .returned (.slice (some ⟨g, 0, none⟩) 3 3) ∧ LinesAt g r0 r1 r2 gs w' ∧ Below w.heap.size w w' := by
  have hmm := @run_makeMap Tryz.prog
  obtain ⟨v1, hx1, m1, gr1⟩ := run_putS (mapS_new w) ⟨#[119, 105, 100, 116, 104]⟩ (headK 87 24) (by simp)
  obtain ⟨v2, hx2, m2, gr2⟩ := run_putS (mapS_new v1) ⟨#[99, 97, 112]⟩ (headK 67 25) (by simp)
  have b0 : Below w.heap.size w v1 := below_put ((Below.refl _ w).alloc (Nat.le_refl _) _) gr1 (Nat.le_refl _)
  have b1 : Below w.heap.size w v2 := below_put (b0.alloc b0.size (.map #[] 0)) gr2 b0.size
  have hlt : w.heap.size < v1.heap.size := by
    obtain ⟨es, c, h1, _⟩ := m1
    exact (Array.getElem?_eq_some_iff.1 h1).1
  have m1' := mapS_grown (m1.below ((Below.refl _ _).alloc (Nat.le_refl _) (.map #[] 0))) gr2 (by omega)
  have HK : Hid (∀ W, Calls Tryz.prog 26 #[] W fun e w' => ∃ r gs, e = .returned (.map (some r)) ∧ W.heap.size ≤ r ∧ KindsAt r gs w' ∧ Below W.heap.size W w') := fun W => opKinds_any W
  unfold headK at hx1 hx2
  clear gr1 gr2 m1 hlt
  go_enter Tryz.func14, Tryz.ntmps14
  go_wp2_with (first | (go_at_call 26; refine (HK.out _).mono ?_; rintro e w3 ⟨r2, gs, rfl, hr2, hk2, hb3⟩))
  go_ret
  have bA : Below w3.heap.size w3 (w3.alloc (.cells #[.map (some w.heap.size), .map (some v1.heap.size), .map (some r2)] 44)) := (Below.refl _ _).alloc (Nat.le_refl _) _
  exact ⟨w3.heap.size, w.heap.size, v1.heap.size, r2, gs, rfl, ⟨heap_alloc_new w3 _, (m1'.below hb3).below bA, (m2.below hb3).below bA, hk2.below bA⟩, (b1.trans (hb3.mono b1.size)).alloc (Nat.le_trans b1.size hb3.size) _⟩
end Go.Proofs.YthklibioolnggaaGreatDoor
