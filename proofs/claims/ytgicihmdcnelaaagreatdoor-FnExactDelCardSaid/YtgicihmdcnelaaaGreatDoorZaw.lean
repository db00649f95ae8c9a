import Derived.Test.YtgicihmdcnelaaaGreatDoorZav
import Derived.Test.YtgicihmdcnelaaaGreatDoorZap
import Derived.Test.YtgicihmdcnelaaaGreatDoorZat
import Derived.Test.YtgicihmdcnelaaaGreatDoorZaq
namespace Go.Proofs.YtgicihmdcnelaaaGreatDoor
open Go.RowKit Go.Proofs.Sha

theorem ne_of_type {w : World} {g b : Nat} {cs ds : Array Value} {t u : TypeId} (h : w.heap[g]? = some (.cells cs t)) (k : w.heap[b]? = some (.cells ds u)) (ht : t ≠ u) : g ≠ b := by
  intro e
  subst e
  rw [h] at k
  simp only [Option.some.injEq, Obj.cells.injEq] at k
  exact ht k.2.1
/-- A filled branch with its two subtrees. -/
def Kids (b : Nat) (hash over under : ByteArray) (par : Option Addr) (k v l r : ByteArray) (w w' : World) : Prop :=
  ∃ pl pr gl gr, BF b hash over under par k v l r pl pr w' ∧ LinkAt l over k (some ⟨gl, 0, none⟩) pl w' ∧ RKb gl k w' ∧ LinkAt r k under (some ⟨gr, 0, none⟩) pr w' ∧ RKb gr k w' ∧ (∀ q, pl = some q → w.heap.size ≤ q.block) ∧ (∀ q, pr = some q → w.heap.size ≤ q.block) ∧ (∀ q q', pl = some q → pr = some q' → q.block < q'.block)
theorem Kids.from {b : Nat} {hash over under : ByteArray} {par : Option Addr} {k v l r : ByteArray} {w w0 w' : World} (h : Kids b hash over under par k v l r w w') (hb : w0.heap.size ≤ w.heap.size) : Kids b hash over under par k v l r w0 w' := by
  obtain ⟨pl, pr, gl, gr, h1, h2, h3, h4, h5, h6, h7, h8⟩ := h
  exact ⟨pl, pr, gl, gr, h1, h2, h3, h4, h5, fun q hq => Nat.le_trans hb (h6 q hq), fun q hq => Nat.le_trans hb (h7 q hq), h8⟩
theorem LinkAt.fr {l over under : ByteArray} {par p : Option Addr} {base : Nat} {N : Nat → Prop} {w w' : World} (h : LinkAt l over under par p w) (f : Fr base N w w') (hN : ∀ q, p = some q → ¬ N q.block) : LinkAt l over under par p w' := by
  rcases h with h | ⟨h1, q, h2, h3⟩
  · exact .inl h
  · exact .inr ⟨h1, q, h2, f.keep h3 (hN _ h2) (.inl (by decide))⟩
/-- The loader's block. -/
def LD (lb sb : Nat) (cnt : Nat) (code : Int) (w : World) : Prop := w.heap[lb]? = some (.cells #[.pointer (some ⟨sb, 0, none⟩), .int .i64 (cnt : Int), .int .i64 code] 171)
theorem LD.below {lb sb cnt : Nat} {code : Int} {w w' : World} (h : LD lb sb cnt code w) (hb : Below w.heap.size w w') : LD lb sb cnt code w' := (hb.block lb (Array.getElem?_eq_some_iff.1 h).1).trans h
/-- What is said of a node that is looked up. -/
def codeF (fnd : ByteArray → FN) (hash over under pk : ByteArray) (cnt : Nat) : Int :=
  if (fnd hash).2 = 2 then 2 else if (fnd hash).2 ≠ 0 then 3 else if (insW over under (fnd hash).1.1 && parW hgW pk (fnd hash).1.1) = false then 3 else if 500 < cnt then 6 else 0
set_option maxRecDepth 100000 in
set_option maxHeartbeats 1000000 in
theorem filled_any (fnd : ByteArray → FN) (lb sb b : Nat) (hash over under pk : ByteArray) (par : Option Addr) (cnt : Nat) (code0 : Int) (w : World) (hc : (fnd hash).2 = 0 ∨ (fnd hash).2 = 2 ∨ (fnd hash).2 = 3) (hL : LD lb sb cnt code0 w) (hB : BR b hash over under par w) (hP : ParAt par pk w) (hcn : cnt ≤ 1000)
    (HF : Hid (∀ w', Below w.heap.size w w' → Calls Tryz.prog 143 #[.pointer (some ⟨sb, 0, none⟩), .string hash] w' fun e w'' => e = .returned (nodeT (fnd hash)) ∧ Below w'.heap.size w' w''))
    (HR : Hid (∀ w', Below w.heap.size w w' → (fnd hash).2 = 0 → Calls Tryz.prog 92 #[Value.string (fnd hash).1.1] w' fun e w'' => e = .returned (.agg (rkL (fnd hash).1.1).toArray) ∧ Below w'.heap.size w' w'')) :
    Calls Tryz.prog 138 #[.pointer (some ⟨lb, 0, none⟩), .pointer (some ⟨b, 0, none⟩)] w fun e w' => e = .returned (.int .i64 (codeF fnd hash over under pk cnt)) ∧ Fr w.heap.size (fun q => q = b) w w' ∧ (codeF fnd hash over under pk cnt = 0 → Kids b hash over under par (fnd hash).1.1 (fnd hash).1.2.1 (fnd hash).1.2.2.1 (fnd hash).1.2.2.2 w w') := by
  unfold codeF
  obtain ⟨F, hFF⟩ : ∃ F, fnd hash = F := ⟨_, rfl⟩
  rw [hFF] at hc HF HR ⊢
  clear hFF
  obtain ⟨⟨k, v, l, r⟩, cd⟩ := F
  unfold nodeT at HF
  simp only at hc HF HR ⊢
  have l0 := Lib.cell_of_heap hL 0
  have b0 := Lib.cell_of_heap hB 0
  have HS : Hid (∀ W', Below w.heap.size w W' → W'.cell? ⟨lb, 0, none⟩ = some (.pointer (some ⟨sb, 0, none⟩)) ∧ W'.cell? ⟨b, 0, none⟩ = some (.string hash)) := fun W' hW' => ⟨Lib.cell_of_heap (hL.below hW') 0, Lib.cell_of_heap ((hW'.block b (Array.getElem?_eq_some_iff.1 hB).1).trans hB) 0⟩
  have hd : Below w.heap.size w w.drew := (Below.refl _ _).drew
  have hbA : Below w.heap.size w (w.drew.alloc (.cells #[.string ⟨#[]⟩, .string ⟨#[]⟩, .string ⟨#[]⟩, .string ⟨#[]⟩] 84)) := hd.alloc (Nat.le_refl _) _
  have nA : NBk w.heap.size ⟨#[]⟩ ⟨#[]⟩ ⟨#[]⟩ ⟨#[]⟩ (w.drew.alloc (.cells #[.string ⟨#[]⟩, .string ⟨#[]⟩, .string ⟨#[]⟩, .string ⟨#[]⟩] 84)) := heap_alloc_new w.drew _
  have hfin : Hid (∀ (g : Nat) (W : World) (x y z u : ByteArray), w.heap.size ≤ g → Below w.heap.size w W → Below w.heap.size w ((((W.setCell ⟨g, 0, none⟩ (.string x)).setCell ⟨g, 1, none⟩ (.string y)).setCell ⟨g, 2, none⟩ (.string z)).setCell ⟨g, 3, none⟩ (.string u))) := fun g W x y z u hge hW => (((hW.setCell (p := ⟨g, 0, none⟩) hge _).setCell (p := ⟨g, 1, none⟩) hge _).setCell (p := ⟨g, 2, none⟩) hge _).setCell (p := ⟨g, 3, none⟩) hge _
  rcases hc with rfl | rfl | rfl
  · rw [if_neg (by decide : ¬ (0 : Int) = 2), if_neg (by decide : ¬ ((0 : Int) ≠ 0))]
    cases hfit : (insW over under k && parW hgW pk k) with
    | false =>
      rw [if_pos rfl]
      go_enter Tryz.func138, Tryz.ntmps138
      go_upto_region 1 with fail
      go_region_held3 (fun W' => W'.cell? ⟨lb, 0, none⟩ = some (.pointer (some ⟨sb, 0, none⟩)) ∧ W'.cell? ⟨b, 0, none⟩ = some (.string hash)) (first | exact HS.out _ hd | exact HS.out _ hbA | exact HS.out _ hbB | exact HS.out _ (hbB.alloc hbB.size _) | exact HS.out _ (hfin.out _ _ _ _ _ _ (Nat.le_refl _) hbB) | exact HS.out _ (hfin.out _ _ _ _ _ _ hbB.size (hbB.alloc hbB.size _))) (first | (go_at_call 143; refine (HF.out _ hbA).mono ?_; rintro e w2 ⟨rfl, hb2⟩; have hbB := hbA.trans (hb2.mono hbA.size); have n2 := nA.below hb2; obtain ⟨c0, c1, c2, c3, f0, f1, f2, f3⟩ := n2.at) | (go_at_call 143; refine (HF.out _ hd).mono ?_; rintro e w2 ⟨rfl, hb2⟩; have hbB := hd.trans (hb2.mono hd.size); have n2 : NBk w2.heap.size ⟨#[]⟩ ⟨#[]⟩ ⟨#[]⟩ ⟨#[]⟩ (w2.alloc (.cells #[.string ⟨#[]⟩, .string ⟨#[]⟩, .string ⟨#[]⟩, .string ⟨#[]⟩] 84)) := heap_alloc_new w2 (.cells #[.string ⟨#[]⟩, .string ⟨#[]⟩, .string ⟨#[]⟩, .string ⟨#[]⟩] 84); obtain ⟨c0, c1, c2, c3, f0, f1, f2, f3⟩ := n2.at))
      case' refine_2.refine_3.refine_3.refine_3.refine_3.refine_3.refine_3.refine_3.refine_3.refine_1.refine_2.refine_3.refine_3.refine_3.refine_1.refine_2.refine_1.refine_2.refine_3 =>
        have nW : NBk w2.heap.size k v l r (w2.alloc (.cells #[.string k, .string v, .string l, .string r] 84)) := heap_alloc_new w2 _
        have hbW := hbB.alloc hbB.size (.cells #[.string k, .string v, .string l, .string r] 84)
        have hgW : w.heap.size ≤ w2.heap.size := hbB.size
        generalize w2.alloc (.cells #[.string k, .string v, .string l, .string r] 84) = W at nW hbW ⊢
        generalize w2.heap.size = gn at nW hgW ⊢
      case' refine_2.refine_3.refine_3.refine_3.refine_3.refine_3.refine_3.refine_3.refine_3.refine_2.refine_1.refine_2.refine_1.refine_2.refine_3.refine_3.refine_3.refine_1.refine_2.refine_3 =>
        obtain ⟨gn, hgn⟩ : ∃ gn, gn = w.heap.size := ⟨_, rfl⟩
        have hgW : w.heap.size ≤ gn := Nat.le_of_eq hgn.symm
        have hbW := hfin.out gn w2 k v l r hgW hbB
        rw [← hgn] at n2
        have nW := n2.all k v l r
        rw [← hgn]
        clear hgn
        generalize (((w2.setCell ⟨gn, 0, none⟩ (.string k)).setCell ⟨gn, 1, none⟩ (.string v)).setCell ⟨gn, 2, none⟩ (.string l)).setCell ⟨gn, 3, none⟩ (.string r) = W at nW hbW ⊢
      all_goals
        have hLW := hL.below hbW
        have hBW : BR b hash over under par W := (hbW.block b (Array.getElem?_eq_some_iff.1 hB).1).trans hB
        have hPW : ParAt par pk W := hP.fr (Fr.of_below (base := 0) (N := fun _ => False) hbW) (fun _ _ h => h)
        have HFI := fillB_any b hash over under pk par k v l r W hBW hPW (fun w' hb' => HR.out w' (hbW.trans (hb'.mono hbW.size)) (by trivial))
        have hne : lb ≠ b := ne_of_type hLW hBW (by decide)
        have m0 := Lib.cell_of_heap nW 0
        have m1 := Lib.cell_of_heap nW 1
        have m2 := Lib.cell_of_heap nW 2
        have m3 := Lib.cell_of_heap nW 3
        rw [hfit] at HFI
        go_wp2_with (first | (go_at_call 144; refine HFI.mono ?_; rintro e w4 ⟨rfl, hf4, hk4⟩))
        go_ret
        exact ⟨rfl, (Fr.of_below hbW).step hf4, fun h => absurd h (by decide)⟩
    | true =>
      rw [if_neg (by decide : ¬ true = false)]
      by_cases h5 : 500 < cnt
      · rw [if_pos h5]
        go_enter Tryz.func138, Tryz.ntmps138
        go_upto_region 1 with fail
        go_region_held3 (fun W' => W'.cell? ⟨lb, 0, none⟩ = some (.pointer (some ⟨sb, 0, none⟩)) ∧ W'.cell? ⟨b, 0, none⟩ = some (.string hash)) (first | exact HS.out _ hd | exact HS.out _ hbA | exact HS.out _ hbB | exact HS.out _ (hbB.alloc hbB.size _) | exact HS.out _ (hfin.out _ _ _ _ _ _ (Nat.le_refl _) hbB) | exact HS.out _ (hfin.out _ _ _ _ _ _ hbB.size (hbB.alloc hbB.size _))) (first | (go_at_call 143; refine (HF.out _ hbA).mono ?_; rintro e w2 ⟨rfl, hb2⟩; have hbB := hbA.trans (hb2.mono hbA.size); have n2 := nA.below hb2; obtain ⟨c0, c1, c2, c3, f0, f1, f2, f3⟩ := n2.at) | (go_at_call 143; refine (HF.out _ hd).mono ?_; rintro e w2 ⟨rfl, hb2⟩; have hbB := hd.trans (hb2.mono hd.size); have n2 : NBk w2.heap.size ⟨#[]⟩ ⟨#[]⟩ ⟨#[]⟩ ⟨#[]⟩ (w2.alloc (.cells #[.string ⟨#[]⟩, .string ⟨#[]⟩, .string ⟨#[]⟩, .string ⟨#[]⟩] 84)) := heap_alloc_new w2 (.cells #[.string ⟨#[]⟩, .string ⟨#[]⟩, .string ⟨#[]⟩, .string ⟨#[]⟩] 84); obtain ⟨c0, c1, c2, c3, f0, f1, f2, f3⟩ := n2.at))
        case' refine_2.refine_3.refine_3.refine_3.refine_3.refine_3.refine_3.refine_3.refine_3.refine_1.refine_2.refine_3.refine_3.refine_3.refine_1.refine_2.refine_1.refine_2.refine_3 =>
          have nW : NBk w2.heap.size k v l r (w2.alloc (.cells #[.string k, .string v, .string l, .string r] 84)) := heap_alloc_new w2 _
          have hbW := hbB.alloc hbB.size (.cells #[.string k, .string v, .string l, .string r] 84)
          have hgW : w.heap.size ≤ w2.heap.size := hbB.size
          generalize w2.alloc (.cells #[.string k, .string v, .string l, .string r] 84) = W at nW hbW ⊢
          generalize w2.heap.size = gn at nW hgW ⊢
        case' refine_2.refine_3.refine_3.refine_3.refine_3.refine_3.refine_3.refine_3.refine_3.refine_2.refine_1.refine_2.refine_1.refine_2.refine_3.refine_3.refine_3.refine_1.refine_2.refine_3 =>
          obtain ⟨gn, hgn⟩ : ∃ gn, gn = w.heap.size := ⟨_, rfl⟩
          have hgW : w.heap.size ≤ gn := Nat.le_of_eq hgn.symm
          have hbW := hfin.out gn w2 k v l r hgW hbB
          rw [← hgn] at n2
          have nW := n2.all k v l r
          rw [← hgn]
          clear hgn
          generalize (((w2.setCell ⟨gn, 0, none⟩ (.string k)).setCell ⟨gn, 1, none⟩ (.string v)).setCell ⟨gn, 2, none⟩ (.string l)).setCell ⟨gn, 3, none⟩ (.string r) = W at nW hbW ⊢
        all_goals
          have hLW := hL.below hbW
          have hBW : BR b hash over under par W := (hbW.block b (Array.getElem?_eq_some_iff.1 hB).1).trans hB
          have hPW : ParAt par pk W := hP.fr (Fr.of_below (base := 0) (N := fun _ => False) hbW) (fun _ _ h => h)
          have HFI := fillB_any b hash over under pk par k v l r W hBW hPW (fun w' hb' => HR.out w' (hbW.trans (hb'.mono hbW.size)) (by trivial))
          have hne : lb ≠ b := ne_of_type hLW hBW (by decide)
          have m0 := Lib.cell_of_heap nW 0
          have m1 := Lib.cell_of_heap nW 1
          have m2 := Lib.cell_of_heap nW 2
          have m3 := Lib.cell_of_heap nW 3
          rw [hfit] at HFI
          have h5' : (500 : Int) < (cnt : Int) := by omega
          go_wp2_with (first | (go_at_call 144; refine HFI.mono ?_; rintro e w4 ⟨rfl, hf4, hk4⟩; have l4 := Lib.cell_of_heap (hf4.keep hLW hne (.inl (by decide))) 1))
          go_ret
          exact ⟨rfl, (Fr.of_below hbW).step hf4, fun h => absurd h (by decide)⟩
      · rw [if_neg h5]
        go_enter Tryz.func138, Tryz.ntmps138
        go_upto_region 1 with fail
        go_region_held3 (fun W' => W'.cell? ⟨lb, 0, none⟩ = some (.pointer (some ⟨sb, 0, none⟩)) ∧ W'.cell? ⟨b, 0, none⟩ = some (.string hash)) (first | exact HS.out _ hd | exact HS.out _ hbA | exact HS.out _ hbB | exact HS.out _ (hbB.alloc hbB.size _) | exact HS.out _ (hfin.out _ _ _ _ _ _ (Nat.le_refl _) hbB) | exact HS.out _ (hfin.out _ _ _ _ _ _ hbB.size (hbB.alloc hbB.size _))) (first | (go_at_call 143; refine (HF.out _ hbA).mono ?_; rintro e w2 ⟨rfl, hb2⟩; have hbB := hbA.trans (hb2.mono hbA.size); have n2 := nA.below hb2; obtain ⟨c0, c1, c2, c3, f0, f1, f2, f3⟩ := n2.at) | (go_at_call 143; refine (HF.out _ hd).mono ?_; rintro e w2 ⟨rfl, hb2⟩; have hbB := hd.trans (hb2.mono hd.size); have n2 : NBk w2.heap.size ⟨#[]⟩ ⟨#[]⟩ ⟨#[]⟩ ⟨#[]⟩ (w2.alloc (.cells #[.string ⟨#[]⟩, .string ⟨#[]⟩, .string ⟨#[]⟩, .string ⟨#[]⟩] 84)) := heap_alloc_new w2 (.cells #[.string ⟨#[]⟩, .string ⟨#[]⟩, .string ⟨#[]⟩, .string ⟨#[]⟩] 84); obtain ⟨c0, c1, c2, c3, f0, f1, f2, f3⟩ := n2.at))
        case' refine_2.refine_3.refine_3.refine_3.refine_3.refine_3.refine_3.refine_3.refine_3.refine_1.refine_2.refine_3.refine_3.refine_3.refine_1.refine_2.refine_1.refine_2.refine_3 =>
          have nW : NBk w2.heap.size k v l r (w2.alloc (.cells #[.string k, .string v, .string l, .string r] 84)) := heap_alloc_new w2 _
          have hbW := hbB.alloc hbB.size (.cells #[.string k, .string v, .string l, .string r] 84)
          have hgW : w.heap.size ≤ w2.heap.size := hbB.size
          generalize w2.alloc (.cells #[.string k, .string v, .string l, .string r] 84) = W at nW hbW ⊢
          generalize w2.heap.size = gn at nW hgW ⊢
        case' refine_2.refine_3.refine_3.refine_3.refine_3.refine_3.refine_3.refine_3.refine_3.refine_2.refine_1.refine_2.refine_1.refine_2.refine_3.refine_3.refine_3.refine_1.refine_2.refine_3 =>
          obtain ⟨gn, hgn⟩ : ∃ gn, gn = w.heap.size := ⟨_, rfl⟩
          have hgW : w.heap.size ≤ gn := Nat.le_of_eq hgn.symm
          have hbW := hfin.out gn w2 k v l r hgW hbB
          rw [← hgn] at n2
          have nW := n2.all k v l r
          rw [← hgn]
          clear hgn
          generalize (((w2.setCell ⟨gn, 0, none⟩ (.string k)).setCell ⟨gn, 1, none⟩ (.string v)).setCell ⟨gn, 2, none⟩ (.string l)).setCell ⟨gn, 3, none⟩ (.string r) = W at nW hbW ⊢
        all_goals
          have hLW := hL.below hbW
          have hBW : BR b hash over under par W := (hbW.block b (Array.getElem?_eq_some_iff.1 hB).1).trans hB
          have hPW : ParAt par pk W := hP.fr (Fr.of_below (base := 0) (N := fun _ => False) hbW) (fun _ _ h => h)
          have HFI := fillB_any b hash over under pk par k v l r W hBW hPW (fun w' hb' => HR.out w' (hbW.trans (hb'.mono hbW.size)) (by trivial))
          have hne : lb ≠ b := ne_of_type hLW hBW (by decide)
          have m0 := Lib.cell_of_heap nW 0
          have m1 := Lib.cell_of_heap nW 1
          have m2 := Lib.cell_of_heap nW 2
          have m3 := Lib.cell_of_heap nW 3
          rw [hfit] at HFI
          have h5' : ¬ (500 : Int) < (cnt : Int) := by omega
          go_wp2_with (first | (go_at_call 144; refine HFI.mono ?_; rintro e w4 ⟨rfl, hf4, hk4⟩; have l4 := Lib.cell_of_heap (hf4.keep hLW hne (.inl (by decide))) 1))
          go_ret
          exact ⟨rfl, (Fr.of_below hbW).step hf4, fun _ => Kids.from hk4 hbW.size⟩
  · rw [if_pos (rfl : (2 : Int) = 2)]
    go_enter Tryz.func138, Tryz.ntmps138
    go_upto_region 1 with fail
    go_region_held3 (fun W' => W'.cell? ⟨lb, 0, none⟩ = some (.pointer (some ⟨sb, 0, none⟩)) ∧ W'.cell? ⟨b, 0, none⟩ = some (.string hash)) (first | exact HS.out _ hd | exact HS.out _ hbA | exact HS.out _ hbB | exact HS.out _ (hbB.alloc hbB.size _) | exact HS.out _ (hfin.out _ _ _ _ _ _ (Nat.le_refl _) hbB) | exact HS.out _ (hfin.out _ _ _ _ _ _ hbB.size (hbB.alloc hbB.size _))) (first | (go_at_call 143; refine (HF.out _ hbA).mono ?_; rintro e w2 ⟨rfl, hb2⟩; have hbB := hbA.trans (hb2.mono hbA.size); have n2 := nA.below hb2; obtain ⟨c0, c1, c2, c3, f0, f1, f2, f3⟩ := n2.at) | (go_at_call 143; refine (HF.out _ hd).mono ?_; rintro e w2 ⟨rfl, hb2⟩; have hbB := hd.trans (hb2.mono hd.size); have n2 : NBk w2.heap.size ⟨#[]⟩ ⟨#[]⟩ ⟨#[]⟩ ⟨#[]⟩ (w2.alloc (.cells #[.string ⟨#[]⟩, .string ⟨#[]⟩, .string ⟨#[]⟩, .string ⟨#[]⟩] 84)) := heap_alloc_new w2 (.cells #[.string ⟨#[]⟩, .string ⟨#[]⟩, .string ⟨#[]⟩, .string ⟨#[]⟩] 84); obtain ⟨c0, c1, c2, c3, f0, f1, f2, f3⟩ := n2.at))
    case' refine_2.refine_3.refine_3.refine_3.refine_3.refine_3.refine_3.refine_3.refine_3.refine_1.refine_2.refine_3.refine_3.refine_3.refine_1.refine_2.refine_1.refine_2.refine_3 =>
      have nW : NBk w2.heap.size k v l r (w2.alloc (.cells #[.string k, .string v, .string l, .string r] 84)) := heap_alloc_new w2 _
      have hbW := hbB.alloc hbB.size (.cells #[.string k, .string v, .string l, .string r] 84)
      have hgW : w.heap.size ≤ w2.heap.size := hbB.size
      generalize w2.alloc (.cells #[.string k, .string v, .string l, .string r] 84) = W at nW hbW ⊢
      generalize w2.heap.size = gn at nW hgW ⊢
    case' refine_2.refine_3.refine_3.refine_3.refine_3.refine_3.refine_3.refine_3.refine_3.refine_2.refine_1.refine_2.refine_1.refine_2.refine_3.refine_3.refine_3.refine_1.refine_2.refine_3 =>
      obtain ⟨gn, hgn⟩ : ∃ gn, gn = w.heap.size := ⟨_, rfl⟩
      have hgW : w.heap.size ≤ gn := Nat.le_of_eq hgn.symm
      have hbW := hfin.out gn w2 k v l r hgW hbB
      rw [← hgn] at n2
      have nW := n2.all k v l r
      rw [← hgn]
      clear hgn
      generalize (((w2.setCell ⟨gn, 0, none⟩ (.string k)).setCell ⟨gn, 1, none⟩ (.string v)).setCell ⟨gn, 2, none⟩ (.string l)).setCell ⟨gn, 3, none⟩ (.string r) = W at nW hbW ⊢
    all_goals
      go_wp2_with fail
      go_ret
      exact ⟨rfl, Fr.of_below hbW, fun h => absurd h (by decide)⟩
  · rw [if_neg (by decide : ¬ (3 : Int) = 2), if_pos (by decide : (3 : Int) ≠ 0)]
    go_enter Tryz.func138, Tryz.ntmps138
    go_upto_region 1 with fail
    go_region_held3 (fun W' => W'.cell? ⟨lb, 0, none⟩ = some (.pointer (some ⟨sb, 0, none⟩)) ∧ W'.cell? ⟨b, 0, none⟩ = some (.string hash)) (first | exact HS.out _ hd | exact HS.out _ hbA | exact HS.out _ hbB | exact HS.out _ (hbB.alloc hbB.size _) | exact HS.out _ (hfin.out _ _ _ _ _ _ (Nat.le_refl _) hbB) | exact HS.out _ (hfin.out _ _ _ _ _ _ hbB.size (hbB.alloc hbB.size _))) (first | (go_at_call 143; refine (HF.out _ hbA).mono ?_; rintro e w2 ⟨rfl, hb2⟩; have hbB := hbA.trans (hb2.mono hbA.size); have n2 := nA.below hb2; obtain ⟨c0, c1, c2, c3, f0, f1, f2, f3⟩ := n2.at) | (go_at_call 143; refine (HF.out _ hd).mono ?_; rintro e w2 ⟨rfl, hb2⟩; have hbB := hd.trans (hb2.mono hd.size); have n2 : NBk w2.heap.size ⟨#[]⟩ ⟨#[]⟩ ⟨#[]⟩ ⟨#[]⟩ (w2.alloc (.cells #[.string ⟨#[]⟩, .string ⟨#[]⟩, .string ⟨#[]⟩, .string ⟨#[]⟩] 84)) := heap_alloc_new w2 (.cells #[.string ⟨#[]⟩, .string ⟨#[]⟩, .string ⟨#[]⟩, .string ⟨#[]⟩] 84); obtain ⟨c0, c1, c2, c3, f0, f1, f2, f3⟩ := n2.at))
    case' refine_2.refine_3.refine_3.refine_3.refine_3.refine_3.refine_3.refine_3.refine_3.refine_1.refine_2.refine_3.refine_3.refine_3.refine_1.refine_2.refine_1.refine_2.refine_3 =>
      have nW : NBk w2.heap.size k v l r (w2.alloc (.cells #[.string k, .string v, .string l, .string r] 84)) := heap_alloc_new w2 _
      have hbW := hbB.alloc hbB.size (.cells #[.string k, .string v, .string l, .string r] 84)
      have hgW : w.heap.size ≤ w2.heap.size := hbB.size
      generalize w2.alloc (.cells #[.string k, .string v, .string l, .string r] 84) = W at nW hbW ⊢
      generalize w2.heap.size = gn at nW hgW ⊢
    case' refine_2.refine_3.refine_3.refine_3.refine_3.refine_3.refine_3.refine_3.refine_3.refine_2.refine_1.refine_2.refine_1.refine_2.refine_3.refine_3.refine_3.refine_1.refine_2.refine_3 =>
      obtain ⟨gn, hgn⟩ : ∃ gn, gn = w.heap.size := ⟨_, rfl⟩
      have hgW : w.heap.size ≤ gn := Nat.le_of_eq hgn.symm
      have hbW := hfin.out gn w2 k v l r hgW hbB
      rw [← hgn] at n2
      have nW := n2.all k v l r
      rw [← hgn]
      clear hgn
      generalize (((w2.setCell ⟨gn, 0, none⟩ (.string k)).setCell ⟨gn, 1, none⟩ (.string v)).setCell ⟨gn, 2, none⟩ (.string l)).setCell ⟨gn, 3, none⟩ (.string r) = W at nW hbW ⊢
    all_goals
      go_wp2_with fail
      go_ret
      exact ⟨rfl, Fr.of_below hbW, fun h => absurd h (by decide)⟩
end Go.Proofs.YtgicihmdcnelaaaGreatDoor
namespace Go.Proofs.YtgicihmdcnelaaaGreatDoor
open Go.RowKit Go.Proofs.Sha

/-- Texts of the call's own, while they are put together. -/
structure OwnT (w : World) (xs : List ByteArray) (a : Option Addr) (m c : Nat) (W : World) : Prop where
  own : W.ownsRow w.heap.size 9 1 (.slice a m c) m (xs.map Value.string)
  bel : Below w.heap.size w W
  len : xs.length = m
theorem OwnT.below {w W W' : World} {xs : List ByteArray} {a : Option Addr} {m c : Nat} (h : OwnT w xs a m c W) (hb : Below W.heap.size W W') : OwnT w xs a m c W' :=
  ⟨ownG_kept h.own (fun q _ hq => hb.block q hq), h.bel.trans (hb.mono h.bel.size), h.len⟩
theorem OwnT.more {w W W' : World} {xs : List ByteArray} {a : Option Addr} {m c m' g cap : Nat} {y : ByteArray} {o : Obj} (h : OwnT w xs a m c W) (hown : W'.ownsRow w.heap.size 9 1 (.slice (some ⟨g, 0, none⟩) m' cap) m' (xs.map Value.string ++ [.string y])) (hgrow : (W.alloc o).grownBy W' (Value.slice a m c).ownBlock) (hm : m' = m + 1) : OwnT w (xs ++ [y]) (some ⟨g, 0, none⟩) m' cap W' := by
  have ha := h.below ((Below.refl W.heap.size W).alloc (Nat.le_refl _) o)
  refine ⟨by rw [List.map_append]; exact hown, ha.bel.grown hgrow ha.bel.size (fun q hq => (ownG_cells ha.own hq).1), by rw [List.length_append, h.len, hm]; rfl⟩
theorem OwnT.up {w w1 W : World} {xs : List ByteArray} {a : Option Addr} {m c : Nat} (h : OwnT w1 xs a m c W) (hb : Below w.heap.size w w1) : OwnT w xs a m c W :=
  ⟨ownG_mono h.own hb.size, hb.trans (h.bel.mono hb.size), h.len⟩
theorem takeT (xs : List ByteArray) (i : Nat) (h : i < xs.length) : xs.take (i + 1) = xs.take i ++ [xs.getD i ⟨#[]⟩] := by
  rw [List.take_add_one, List.getElem?_eq_getElem h]
  simp [List.getD_eq_getElem?_getD, List.getElem?_eq_getElem h]
set_option maxRecDepth 100000 in
set_option maxHeartbeats 1000000 in
theorem copyPool_any (n : Int) (a : Option Addr) (xs : List ByteArray) (c : Nat) (w : World) (h : SArg a xs w) :
    Calls Tryz.prog 27 #[.agg #[.int .i64 n, .slice a xs.length c]] w fun e w' => ∃ a' c', e = .returned (.agg #[.int .i64 n, .slice a' xs.length c']) ∧ OwnT w xs a' xs.length c' w' := by
  obtain ⟨i0, hi0, hz0, hz1, hz2⟩ := info_parts2 info9
  have hn := h.le
  obtain ⟨N, hN⟩ : ∃ N, xs.length = N := ⟨_, rfl⟩
  rw [hN] at hn ⊢
  have hNl : Hid (xs.length = N) := hN
  clear hN
  have hW : Below w.heap.size w (((w.alloc (.cells #[.int .i64 n, .slice a N c] 28)).alloc (.cells #[.int .i64 0, .slice none 0 0] 28)).alloc (.cells #[] 9)) := (((Below.refl _ _).alloc (Nat.le_refl _) _).alloc (by simp) _).alloc (by simp; omega) _
  have n2 := heap_alloc_new ((w.alloc (.cells #[.int .i64 n, .slice a N c] 28)).alloc (.cells #[.int .i64 0, .slice none 0 0] 28)) (.cells #[] 9)
  rw [World.size_alloc, World.size_alloc] at n2
  have n1 : ((w.alloc (.cells #[.int .i64 n, .slice a N c] 28)).alloc (.cells #[.int .i64 0, .slice none 0 0] 28)).heap[w.heap.size + 1]? = some (.cells #[.int .i64 0, .slice none 0 0] 28) := by
    have := heap_alloc_new (w.alloc (.cells #[.int .i64 n, .slice a N c] 28)) (.cells #[.int .i64 0, .slice none 0 0] 28)
    rw [World.size_alloc] at this
    exact this
  have n0 : ((w.alloc (.cells #[.int .i64 n, .slice a N c] 28)).alloc (.cells #[.int .i64 0, .slice none 0 0] 28)).heap[w.heap.size]? = some (.cells #[.int .i64 n, .slice a N c] 28) := (Below.heap_alloc (w.alloc (.cells #[.int .i64 n, .slice a N c] 28)) (.cells #[.int .i64 0, .slice none 0 0] 28) w.heap.size (by simp)).trans (heap_alloc_new w _)
  have n1' := (Below.heap_alloc ((w.alloc (.cells #[.int .i64 n, .slice a N c] 28)).alloc (.cells #[.int .i64 0, .slice none 0 0] 28)) (.cells #[] 9) (w.heap.size + 1) (by simp)).trans n1
  have n0' := (Below.heap_alloc ((w.alloc (.cells #[.int .i64 n, .slice a N c] 28)).alloc (.cells #[.int .i64 0, .slice none 0 0] 28)) (.cells #[] 9) w.heap.size (by simp; omega)).trans n0
  have hzz : (((w.alloc (.cells #[.int .i64 n, .slice a N c] 28)).alloc (.cells #[.int .i64 0, .slice none 0 0] 28)).alloc (.cells #[] 9)).heap.size = w.heap.size + 3 := by simp
  have hO : OwnT w [] (some ⟨w.heap.size + 1 + 1, 0, none⟩) 0 0 (((w.alloc (.cells #[.int .i64 n, .slice a N c] 28)).alloc (.cells #[.int .i64 0, .slice none 0 0] 28)).alloc (.cells #[] 9)) := ⟨⟨rfl, .inr ⟨_, 0, #[], rfl, by omega, n2, by simp⟩⟩, hW, rfl⟩
  clear n0 n1 n2
  go_enter Tryz.func27, Tryz.ntmps27
  go_wp2_with fail
  generalize ((w.alloc (.cells #[.int .i64 n, .slice a N c] 28)).alloc (.cells #[.int .i64 0, .slice none 0 0] 28)).alloc (.cells #[] 9) = W0 at hW n1' n0' hzz hO ⊢
  obtain ⟨gp, hgp⟩ : ∃ g, w.heap.size = g := ⟨_, rfl⟩
  rw [hgp] at n1' n0' hzz hO
  try rw [hgp]
  have hgl : w.heap.size ≤ gp := Nat.le_of_eq hgp
  clear hgp hzz
  go_loopw [3, 4] (fun t3 t4 wr => ∃ k : Nat, k ≤ N ∧ t4 = .int .i64 (k : Int) ∧ ∃ (a' : Option Addr) (m c' : Nat), t3 = .slice a' m c' ∧ OwnT w (xs.take k) a' m c' wr ∧ wr.heap[gp]? = some (.cells #[.int .i64 n, .slice a N c] 28) ∧ wr.heap[gp + 1]? = some (.cells #[.int .i64 0, .slice none 0 0] 28)) (fun _ t4 _ => N - (intOf t4).toNat)
  case atStart => exact ⟨0, Nat.zero_le _, rfl, _, _, _, rfl, hO, n0', n1'⟩
  case round =>
    obtain ⟨k, hk, rfl, a', m, c', rfl, hT, m0, m1⟩ := hrel
    have p0 := Lib.cell_of_heap m0 0
    have p1 := Lib.cell_of_heap m0 1
    have own := hT.own
    have hbs := hT.bel.size
    by_cases hlt : k < N
    · have z1 : decide ((k : Int) < (N : Int)) = true := by simp; omega
      have hx0 : (0 : Int) ≤ (k : Int) := Int.natCast_nonneg _
      have hx1 : (k : Int) < (N : Int) := by omega
      obtain ⟨b1, off1, rfl, hbl1, hc⟩ := (h.below hT.bel).at_ (by rw [hNl.out]; omega)
      have hc1 := hc k (by rw [hNl.out]; exact hlt)
      have htk : Hid (xs.take (k + 1) = xs.take k ++ [xs.getD k ⟨#[]⟩]) := takeT xs k (by rw [hNl.out]; exact hlt)
      have hml : m ≤ 1048576 := by have := hT.len; rw [List.length_take] at this; omega
      generalize xs.getD k ⟨#[]⟩ = y at hc1 htk
      clear hc
      go_wp2_with (at_builtin; refine wpList_append_lies _ rfl (.tmp 13) (.tmp 19) 22 rfl w.heap.size 9 i0 (.string ⟨#[]⟩) 1 16 Tryz.underlying22 hi0 hz0 hz1 hz2 rfl (by decide) (.slice a' m c') m ((xs.take k).map Value.string) rfl (own.alloc _) ⟨wr.heap.size, 0, none⟩ 1 1 [.string y] rfl rfl (World.news_of_block (heap_alloc_new wr _)) (by simp [Value.oneCell']) (by decide) (by unfold maxLen; omega) (by omega) (by simp; omega) (wr.heap.size + 1) (by simp) ?_; intro g5 c5 w5 hown5 hgrow5 hat5 hlt5)
      go_roundw
      case rel =>
        have hk29 : ∀ (q : Nat) (cs : Array Value), wr.heap[q]? = some (.cells cs 28) → w5.heap[q]? = some (.cells cs 28) := fun q cs hq => by
          have hql := (Array.getElem?_eq_some_iff.1 hq).1
          have hqa := (Below.heap_alloc wr (.cells #[.string y] 9) q hql).trans hq
          refine (hgrow5.block q (by simp; omega) (fun e => ?_)).trans hqa
          obtain ⟨_, _, cur, h4⟩ := ownG_cells (own.alloc (.cells #[.string y] 9)) e.symm
          exact ne_of_type hqa h4 (by decide) rfl
        exact ⟨k + 1, hlt, by go_num, _, _, _, rfl, by rw [htk.out]; exact hT.more hown5 hgrow5 rfl, hk29 _ _ m0, hk29 _ _ m1⟩
      case measure => simp [intOf]; omega
    · obtain rfl : k = N := by omega
      have z1 : decide ((k : Int) < (k : Int)) = false := by simp
      rw [List.take_of_length_le (by rw [hNl.out]; exact Nat.le_refl _)] at hT
      have hl := hT.len
      rw [hNl.out] at hl
      subst hl
      have q0 := Lib.cell_of_heap m1 0
      have q1 := Lib.cell_of_heap m1 1
      have fz : ∀ j, wr.frozen? ⟨gp + 1, j, none⟩ = false := fun j => by rw [World.frozen?, m1]; rfl
      have m2 := heap_setCell_same _ (gp + 1) 1 _ 28 (.slice a' k c') (heap_setCell_same _ (gp + 1) 0 _ 28 (.int .i64 n) m1)
      have hT2 : OwnT w xs a' k c' ((wr.setCell ⟨gp + 1, 0, none⟩ (.int .i64 n)).setCell ⟨gp + 1, 1, none⟩ (.slice a' k c')) := by
        have hb2 := (hT.bel.setCell (p := ⟨gp + 1, 0, none⟩) (by show w.heap.size ≤ gp + 1; omega) (.int .i64 n)).setCell (p := ⟨gp + 1, 1, none⟩) (by show w.heap.size ≤ gp + 1; omega) (.slice a' k c')
        refine ⟨ownG_kept hT.own (fun q hv hq => ?_), hb2, hT.len⟩
        obtain ⟨_, _, cur, h4⟩ := ownG_cells hT.own hv
        have hne : q ≠ gp + 1 := ne_of_type h4 m1 (by decide)
        rw [Below.heap_setCell _ _ _ _ (by show q ≠ gp + 1; exact hne), Below.heap_setCell _ _ _ _ (by show q ≠ gp + 1; exact hne)]
      clear hT own
      go_wp2_with fail
      exact retP Tryz.results27 rfl rfl m2 ⟨a', c', rfl, hT2⟩
end Go.Proofs.YtgicihmdcnelaaaGreatDoor
namespace Go.Proofs.YtgicihmdcnelaaaGreatDoor
open Go.RowKit Go.Proofs.Sha

set_option maxRecDepth 100000 in
set_option maxHeartbeats 400000 in
theorem held_s (M : Nat → ByteArray) (HM : Hid (MarkSaid M)) (base n c k0 : Nat) (a : Option Addr) (w : World) (h : SRow w base a n c (marksV M k0 n)) (h1 : 1 ≤ k0) (h2 : k0 + n ≤ 4000000) :
    Calls Tryz.prog 70 #[.slice a n c, .int .i64 (k0 : Int)] w fun e w' => e = .returned (.int .i64 ((k0 + n : Nat) : Int)) ∧ Below w.heap.size w w' := by
  obtain ⟨z, hz⟩ : ∃ z : Int, ((k0 + n : Nat) : Int) = z := ⟨_, rfl⟩
  rw [hz]
  have HZ : Hid (((k0 + n : Nat) : Int) = z) := hz
  clear hz
  go_enter Tryz.func70, Tryz.ntmps70
  go_wp2_with fail
  go_loopw [1, 5] (fun t1 t5 wr => ∃ k : Nat, k ≤ n ∧ t1 = .int .i64 ((k0 + k : Nat) : Int) ∧ t5 = .int .i64 (k : Int) ∧ Below w.heap.size w wr) (fun _ t5 _ => n - (intOf t5).toNat)
  case atStart => exact ⟨0, Nat.zero_le _, rfl, rfl, Below.refl _ _⟩
  case round =>
    obtain ⟨k, hk, rfl, rfl, hbw⟩ := hrel
    by_cases hlt : k < n
    · have z1 : decide ((k : Int) < (n : Int)) = true := by simp; omega
      have hx0 : (0 : Int) ≤ (k : Int) := Int.natCast_nonneg _
      have hx1 : (k : Int) < (n : Int) := by omega
      have HK : Hid (∀ w', Calls Tryz.prog 43 #[.int .i64 ((k0 + k : Nat) : Int)] w' fun e w'' => e = .returned (.string (M (k0 + k))) ∧ Below w'.heap.size w' w'') := fun w' => HM.out (k0 + k) (by omega) (by omega) w'
      rcases h.below hbw with h0 | ⟨g, rfl, hrow⟩
      · omega
      · have hcx : wr.cell? ⟨g, k, none⟩ = some (.string (M (k0 + k))) := by
          rw [hrow.cell k hlt, List.getElem?_eq_getElem (by rw [marksV_len]; exact hlt), marksV_at]
        obtain ⟨X, hX⟩ : ∃ X, M (k0 + k) = X := ⟨_, rfl⟩
        rw [hX] at HK hcx
        obtain ⟨p, hp⟩ : ∃ p : Nat, k0 + k = p := ⟨_, rfl⟩
        rw [hp] at HK ⊢
        have hpb : p ≤ 4000000 := by omega
        have hpn : Hid (k0 + (k + 1) = p + 1) := by show _ = _; omega
        have hgl := hrow.lt
        have hq : (X.toList != X.toList) = false := by simp
        clear hX hp hrow
        have HC : Hid (∀ W : World, Below wr.heap.size wr W → W.cell? ⟨g, k, none⟩ = some (.string X)) := fun W hW => (hW.cell hgl).trans hcx
        go_upto_region 4 with fail
        go_region_held3 (fun W => W.cell? ⟨g, k, none⟩ = some (.string X)) (first | exact hcx | exact HC.out _ hb1) (first | (go_at_call 43; refine (HK.out _).mono ?_; rintro e w1 ⟨rfl, hb1'⟩; have hb1 : Below wr.heap.size wr w1 := (Below.refl wr.heap.size wr).drew.trans hb1'; clear hb1'))
        go_wp2_with fail
        go_roundw
        case rel => exact ⟨k + 1, hlt, by rw [hpn.out]; rfl, rfl, hbw.trans (hb1.mono hbw.size)⟩
        case measure => simp [intOf]; omega
    · obtain rfl : k = n := by omega
      have z1 : decide ((k : Int) < (k : Int)) = false := by simp
      rw [HZ.out]
      go_wp2_with fail
      go_ret
      exact ⟨rfl, hbw⟩
end Go.Proofs.YtgicihmdcnelaaaGreatDoor
