import Derived.Test.YtibjhkpgaaapaaaGreatDoorZgbj
import Derived.Test.YtibjhkpgaaapaaaGreatDoorZgax
import Derived.Test.YtibjhkpgaaapaaaGreatDoorZgai
set_option maxRecDepth 100000
set_option maxHeartbeats 4000000
namespace Go.Proofs.YtibjhkpgaaapaaaGreatDoor
open Go.RowKit Go.Proofs.Sha

/-- The blocks that a call has of its own. -/
structure P5 (w : World) (ga gb : Nat) (wd : Nat) (a : Option Addr) (n c : Nat) (over under : ByteArray) (W : World) : Prop where
  sz : w.heap.size = ga
  o1 : ga < gb
  bl : Below w.heap.size w W
  na : W.heap[ga]? = some (.cells #[.int .i64 (wd : Int), .slice a n c] 31)
  nb : W.heap[gb]? = some (.cells #[.string over, .string under] 94)
section
variable {w : World} {ga gb : Nat} {wd : Nat} {a : Option Addr} {n c : Nat} {over under : ByteArray} {W W' : World}
theorem P5.lt (h : P5 w ga gb wd a n c over under W) : gb < W.heap.size := (Array.getElem?_eq_some_iff.1 h.nb).1
theorem P5.below (h : P5 w ga gb wd a n c over under W) (hb : Below W.heap.size W W') : P5 w ga gb wd a n c over under W' := by
  have l := h.lt
  have h1 := h.o1
  exact ⟨h.sz, h1, h.bl.trans (hb.mono h.bl.size), (hb.block _ (by omega)).trans h.na, (hb.block _ (by omega)).trans h.nb⟩
theorem P5.mk0 (w : World) (wd : Nat) (a : Option Addr) (n c : Nat) (over under : ByteArray) : P5 w w.heap.size (w.heap.size + 1) wd a n c over under ((w.alloc (.cells #[.int .i64 (wd : Int), .slice a n c] 31)).alloc (.cells #[.string over, .string under] 94)) := by
  have e2 := heap_alloc_new (w.alloc (.cells #[.int .i64 (wd : Int), .slice a n c] 31)) (.cells #[.string over, .string under] 94)
  rw [World.size_alloc] at e2
  exact ⟨rfl, by omega, ((Below.refl _ _).alloc (Nat.le_refl _) _).alloc (by simp) _, by rw [Below.heap_alloc _ _ _ (by simp)]; exact heap_alloc_new w _, e2⟩
end
/-- What the model's proof of a subtree answers. -/
def LpAt (X : List UInt8) (w : World) (e : Ending) (w' : World) : Prop := (∃ t : ByteArray, e = .returned (.string t) ∧ t.size ≤ 1300000 ∧ Hid (t.data.toList = X)) ∧ Below w.heap.size w w'
theorem lp_step (fnd : ByteArray → FN) (wd : Nat) (hfo : FndOk wd fnd) (hwd32 : wd ≤ 32) (a : Option Addr) (n c g c' : Nat) (lo hi : ByteArray) (hlo : lo.size ≤ 1048576) (hhi : hi.size ≤ 1048576) (w0 : World)
    (HF : Hid (∀ (w' : World) (hash : ByteArray), Below w0.heap.size w0 w' → Calls Tryz.prog 107 #[.agg #[.int .i64 (wd : Int), .slice a n c], .slice (some ⟨g, 0, none⟩) n c', .string hash] w' fun e w'' => e = .returned (nodeT (fnd hash)) ∧ Below w'.heap.size w' w''))
    (f : Nat) (hash over under par : ByteArray) (cnt : Nat)
    (HI : Hid (∀ (hash over under par : ByteArray) (cnt' : Nat) (w' : World), cnt' ≤ 500 → (hash.size = 0 ∨ hash.size = wd) → (goF fnd hgW lo hi f hash over under par cnt').1 = 0 → Below w0.heap.size w0 w' → over.size ≤ 1048576 → under.size ≤ 1048576 →
      Calls Tryz.prog 49 #[.agg #[.int .i64 (wd : Int), .slice a n c], .slice (some ⟨g, 0, none⟩) n c', .string hash, .agg #[.string over, .string under], .string lo, .string hi] w' (LpAt (prL fnd lo hi f hash over under) w')))
    (w : World) (hw0 : Below w0.heap.size w0 w) (hc : cnt ≤ 500) (hsz : hash.size = 0 ∨ hash.size = wd) (h0 : (goF fnd hgW lo hi (f + 1) hash over under par cnt).1 = 0) (ho : over.size ≤ 1048576) (hu : under.size ≤ 1048576) :
    Calls Tryz.prog 49 #[.agg #[.int .i64 (wd : Int), .slice a n c], .slice (some ⟨g, 0, none⟩) n c', .string hash, .agg #[.string over, .string under], .string lo, .string hi] w (LpAt (prL fnd lo hi (f + 1) hash over under) w) := by
  have HW : Hid (∀ w', Calls Tryz.prog 106 #[.agg #[.string over, .string under], .string lo, .string hi] w' fun e w'' => e = .returned (.bool (canW over under lo hi)) ∧ Below w'.heap.size w' w'') := fun w' => wants_any over under lo hi w' ho hu hlo hhi
  have hP := P5.mk0 w wd a n c over under
  cases h1 : emp hash with
  | true =>
    have hb1 := emp_beq h1
    have hs1 := (emp_size h1).1 rfl
    rw [prL_e h1]
    clear h0 HI HF HW
    go_enter Tryz.func49, Tryz.ntmps49
    go_wp2_with fail
    go_ret
    exact ⟨⟨_, rfl, (by decide), rfl⟩, hP.bl⟩
  | false =>
    have hb1 := emp_beq h1
    have hs1 := (emp_size h1).2 rfl
    have hne1 := emp_ne h1
    cases h2 : canW over under lo hi with
    | false =>
      rw [h2] at HW
      rw [prL_s h1 h2]
      have z : ¬ (9223372036854775807 < (⟨#[83]⟩ : ByteArray).size + hash.size) := by show ¬ _ < 1 + hash.size; omega
      have z' : ¬ (9223372036854775807 < 1 + hash.size) := by omega
      have HR : Hid (∀ w', Below w.heap.size w w' → LpAt (83 :: hash.data.toList) w (.returned (.string (⟨#[83]⟩ ++ hash))) w') := fun w' hb => ⟨⟨_, rfl, (by rw [ByteArray.size_append]; show 1 + hash.size ≤ _; omega), (by show (_ : List UInt8) = _; rw [ByteArray.data_append]; simp)⟩, hb⟩
      clear h0 HI HF
      go_enter Tryz.func49, Tryz.ntmps49
      go_wp2_with (go_at_call 106; refine (HW.out _).mono ?_; rintro e W1 ⟨rfl, hb2⟩)
      go_ret
      exact HR.out _ (((P5.mk0 w wd a n c over under).below hb2).bl)
    | true =>
      rw [h2] at HW
      have hsk : (emp hash || !canW over under lo hi) = false := by rw [h1, h2]; rfl
      have hwd : hash.size = wd := by
        rcases hsz with h | h
        · have h9 : emp hash = true := by unfold emp; simp [h]
          rw [h1] at h9; cases h9
        · exact h
      have hlen := prL_len hfo hwd32 (f + 1) hash over under par cnt hc hsz h0
      have hcnt := goF_cnt (f + 1) hash over under par cnt hc h0
      have hC : codeF fnd hash over under par (cnt + 1) = 0 := by
        by_cases hC : codeF fnd hash over under par (cnt + 1) = 0
        · exact hC
        · rw [goF_code hsk hC] at h0; exact absurd h0 hC
      obtain ⟨hz, hfit, hc5⟩ := codeF_zero hC
      obtain ⟨okk, okv, okl, okr⟩ := hfo.node hash hz
      have hfe : fnd hash = (((fnd hash).1.1, (fnd hash).1.2.1, (fnd hash).1.2.2.1, (fnd hash).1.2.2.2), 0) := by rw [← hz]
      obtain ⟨LR, hLR⟩ : ∃ LR, goF fnd hgW lo hi f (fnd hash).1.2.2.1 over (fnd hash).1.1 (fnd hash).1.1 (cnt + 1) = LR := ⟨_, rfl⟩
      obtain ⟨RR, hRR⟩ : ∃ RR, goF fnd hgW lo hi f (fnd hash).1.2.2.2 (fnd hash).1.1 under (fnd hash).1.1 LR.2.1 = RR := ⟨_, rfl⟩
      rw [goF_node hsk hfe hfit hc5 hLR hRR] at h0
      have hl0 : LR.1 = 0 := by
        by_cases hl0 : LR.1 = 0
        · exact hl0
        · rw [if_pos hl0] at h0; exact absurd h0 hl0
      rw [if_neg (fun h => h hl0)] at h0
      have hr0 : RR.1 = 0 := by
        by_cases hr0 : RR.1 = 0
        · exact hr0
        · rw [if_pos hr0] at h0; exact absurd h0 hr0
      have hcl : LR.2.1 ≤ 500 := by
        have := goF_cnt f (fnd hash).1.2.2.1 over (fnd hash).1.1 (fnd hash).1.1 (cnt + 1) hc5 (by rw [hLR]; exact hl0)
        rw [hLR] at this
        exact this.2
      have hks : (fnd hash).1.1.size ≤ 256 := by unfold okKey at okk; have := of_decide_eq_true okk; omega
      have hvs : (fnd hash).1.2.1.size ≤ 2000 := by unfold okVal at okv; exact of_decide_eq_true okv
      have HL : Hid (∀ w', Below w0.heap.size w0 w' → Calls Tryz.prog 49 #[.agg #[.int .i64 (wd : Int), .slice a n c], .slice (some ⟨g, 0, none⟩) n c', .string (fnd hash).1.2.2.1, .agg #[.string over, .string (fnd hash).1.1], .string lo, .string hi] w' (LpAt (prL fnd lo hi f (fnd hash).1.2.2.1 over (fnd hash).1.1) w')) := fun w' hb => HI.out _ _ _ (fnd hash).1.1 (cnt + 1) w' hc5 okl (by rw [hLR]; exact hl0) hb ho (by omega)
      have HRt : Hid (∀ w', Below w0.heap.size w0 w' → Calls Tryz.prog 49 #[.agg #[.int .i64 (wd : Int), .slice a n c], .slice (some ⟨g, 0, none⟩) n c', .string (fnd hash).1.2.2.2, .agg #[.string (fnd hash).1.1, .string under], .string lo, .string hi] w' (LpAt (prL fnd lo hi f (fnd hash).1.2.2.2 (fnd hash).1.1 under) w')) := fun w' hb => HI.out _ _ _ (fnd hash).1.1 LR.2.1 w' hcl okr (by rw [hRR]; exact hr0) hb (by omega) hu
      have HFn : Hid (∀ w', Below w0.heap.size w0 w' → Calls Tryz.prog 107 #[.agg #[.int .i64 (wd : Int), .slice a n c], .slice (some ⟨g, 0, none⟩) n c', .string hash] w' fun e w'' => e = .returned (nodeT (((fnd hash).1.1, (fnd hash).1.2.1, (fnd hash).1.2.2.1, (fnd hash).1.2.2.2), 0)) ∧ Below w'.heap.size w' w'') := fun w' hb => by rw [← hfe]; exact HF.out w' hash hb
      rw [prL_f h1 h2] at hlen ⊢
      clear hLR hRR HI HF hfe hC hfit okk okv okl okr h0 hz
      generalize (fnd hash).1.1 = k at *
      generalize (fnd hash).1.2.1 = v at *
      generalize (fnd hash).1.2.2.1 = l at *
      generalize (fnd hash).1.2.2.2 = r at *
      generalize prL fnd lo hi f l over k = LX at *
      generalize prL fnd lo hi f r k under = RX at *
      unfold nodeT at HFn
      have HK : Hid (∀ w', Calls Tryz.prog 90 #[.string k] w' fun e w'' => ∃ t : ByteArray, e = .returned (.string t) ∧ t.size ≤ k.size + 2 ∧ Hid (t = T (sized k.data.toList)) ∧ Below w'.heap.size w' w'') := fun w' => sized_b k (by omega) (by omega) w'
      have HV : Hid (∀ w', Calls Tryz.prog 90 #[.string v] w' fun e w'' => ∃ t : ByteArray, e = .returned (.string t) ∧ t.size ≤ v.size + 2 ∧ Hid (t = T (sized v.data.toList)) ∧ Below w'.heap.size w' w'') := fun w' => sized_b v (by omega) (by omega) w'
      obtain ⟨X, hX⟩ : ∃ X, (70 :: (sized k.data.toList ++ sized v.data.toList)) ++ (LX ++ RX) = X := ⟨_, rfl⟩
      rw [hX] at hlen ⊢
      have hX : Hid _ := hX
      go_enter Tryz.func49, Tryz.ntmps49
      go_upto_region 2 with fail
      generalize ((w.alloc (.cells #[.int .i64 (wd : Int), .slice a n c] 31)).alloc (.cells #[.string over, .string under] 94)) = W at hP ⊢
      obtain ⟨gb, hgb⟩ : ∃ x, w.heap.size + 1 = x := ⟨_, rfl⟩
      rw [hgb] at hP ⊢
      obtain ⟨ga, hga⟩ : ∃ x, w.heap.size = x := ⟨_, rfl⟩
      rw [show P5 w w.heap.size = P5 w ga by rw [hga]] at hP
      rw [hga]
      clear hgb hga
      have a0 := Lib.cell_of_heap hP.na 0
      have a1 := Lib.cell_of_heap hP.na 1
      have b0 := Lib.cell_of_heap hP.nb 0
      have b1 := Lib.cell_of_heap hP.nb 1
      go_upto_region 5 with (go_at_call 106; refine (HW.out _).mono ?_; rintro e W1 ⟨rfl, hb2⟩; have hP1 := hP.below hb2; clear hb2 a0 a1 b0 b1)
      have hb01 : Below w0.heap.size w0 W1 := hw0.trans (hP1.bl.mono hw0.size)
      have a0 := Lib.cell_of_heap hP1.na 0
      have a1 := Lib.cell_of_heap hP1.na 1
      go_upto_region 6 with (go_at_call 107; refine (HFn.out _ hb01).mono ?_; rintro e W2 ⟨rfl, hb2⟩; have hP2 := hP1.below hb2; clear hb2 a0 a1)
      have hP3 := hP2.below ((Below.refl W2.heap.size W2).alloc (Nat.le_refl _) (.cells #[.string k, .string v, .string l, .string r] 73))
      have hN := heap_alloc_new W2 (.cells #[.string k, .string v, .string l, .string r] 73)
      generalize W2.alloc (.cells #[.string k, .string v, .string l, .string r] 73) = W3 at hP3 hN ⊢
      obtain ⟨gn, hgn⟩ : ∃ x, W2.heap.size = x := ⟨_, rfl⟩
      rw [hgn] at hN ⊢
      clear hgn hP2 hP1 hP hb01
      have n0 := Lib.cell_of_heap hN 0
      have n1 := Lib.cell_of_heap hN 1
      go_region_held3 (fun W => W.cell? ⟨gn, 0, none⟩ = some (.string k) ∧ W.cell? ⟨gn, 1, none⟩ = some (.string v)) (first | exact ⟨n0, n1⟩ | exact ⟨Lib.cell_of_heap hN4 0, Lib.cell_of_heap hN4 1⟩ | exact ⟨Lib.cell_of_heap hN5 0, Lib.cell_of_heap hN5 1⟩) (first | (go_at_call_of 90 (Value.string k); refine (HK.out _).mono ?_; rintro e W4 ⟨tk, rfl, hk2, HT4, hb4⟩; have hb4' : Below W3.heap.size W3 W4 := (Below.refl W3.heap.size W3).drew.trans hb4; have hN4 := below_cells hb4' hN; have z1 : ¬ (9223372036854775807 < (⟨#[70]⟩ : ByteArray).size + tk.size) := (by show ¬ _ < 1 + tk.size; omega); have z2 : ¬ (9223372036854775807 < 1 + tk.size) := (by omega)) | (go_at_call_of 90 (Value.string v); refine (HV.out _).mono ?_; rintro e W5 ⟨tv, rfl, hv2, HT5, hb5⟩; have hN5 := below_cells hb5 hN4; have z3 : ¬ (9223372036854775807 < ((⟨#[70]⟩ : ByteArray) ++ tk).size + tv.size) := (by rw [ByteArray.size_append]; show ¬ _ < 1 + tk.size + tv.size; omega); have z4 : ¬ (9223372036854775807 < 1 + tk.size + tv.size) := (by omega)))
      have hb35 : Below W3.heap.size W3 W5 := hb4'.trans (hb5.mono hb4'.size)
      have hP5 := hP3.below hb35
      obtain ⟨s1, hs1⟩ : ∃ s1, (⟨#[70]⟩ : ByteArray) ++ tk ++ tv = s1 := ⟨_, rfl⟩
      rw [hs1]
      have hs1s : s1.size ≤ 3000 := by rw [← hs1, ByteArray.size_append, ByteArray.size_append]; show 1 + tk.size + tv.size ≤ _; omega
      have hs1L : Hid (s1.data.toList = 70 :: (sized k.data.toList ++ sized v.data.toList)) := by
        show _ = _
        rw [← hs1, HT4.out, HT5.out, ByteArray.data_append, ByteArray.data_append]
        simp [T]
      clear hb4 hb4' hb5 hN4 hb35 hP3 hN n0 n1 z1 z2 z3 z4 HT4 HT5 hs1 hk2 hv2 HFn HW HK HV
      have hb05 : Below w0.heap.size w0 W5 := hw0.trans (hP5.bl.mono hw0.size)
      have a0 := Lib.cell_of_heap hP5.na 0
      have a1 := Lib.cell_of_heap hP5.na 1
      have b0 := Lib.cell_of_heap hP5.nb 0
      have n2 := Lib.cell_of_heap hN5 2
      have n0 := Lib.cell_of_heap hN5 0
      go_upto_region 8 with (go_at_call 49; refine (HL.out _ hb05).mono ?_; rintro e W6 ⟨⟨tl, rfl, htl, HTl⟩, hb6⟩; have hP6 := hP5.below hb6; have hN6 := below_cells hb6 hN5; have hb06 := hb05.trans (hb6.mono hb05.size); clear a0 a1 b0 n2 n0 hb6; have z1 : ¬ (9223372036854775807 < s1.size + tl.size) := (by omega))
      obtain ⟨s2, hs2⟩ : ∃ s2, s1 ++ tl = s2 := ⟨_, rfl⟩
      rw [hs2]
      have hs2s : s2.size ≤ 1303000 := by rw [← hs2, ByteArray.size_append]; omega
      have hs2L : Hid (s2.data.toList = (70 :: (sized k.data.toList ++ sized v.data.toList)) ++ LX) := by
        show _ = _
        rw [← hs2, ByteArray.data_append, Array.toList_append, hs1L.out, HTl.out]
      clear z1 hs1L HTl hs2 htl hs1s
      have a0 := Lib.cell_of_heap hP6.na 0
      have a1 := Lib.cell_of_heap hP6.na 1
      have b1 := Lib.cell_of_heap hP6.nb 1
      have n3 := Lib.cell_of_heap hN6 3
      have n0 := Lib.cell_of_heap hN6 0
      go_wp2_with (go_at_call 49; refine (HRt.out _ hb06).mono ?_; rintro e W7 ⟨⟨tr, rfl, htr, HTr⟩, hb7⟩; have hP7 := hP6.below hb7; have z1 : ¬ (9223372036854775807 < s2.size + tr.size) := (by omega))
      go_ret
      have hXL : (s2 ++ tr).data.toList = X := by
        rw [ByteArray.data_append, Array.toList_append, hs2L.out, HTr.out, ← hX.out]
        simp
      refine ⟨⟨_, rfl, ?_, hXL⟩, hP7.bl⟩
      have hl : (s2 ++ tr).size = X.length := by rw [← hXL]; rfl
      omega
theorem lp_all (fnd : ByteArray → FN) (wd : Nat) (hfo : FndOk wd fnd) (hwd32 : wd ≤ 32) (a : Option Addr) (n c g c' : Nat) (lo hi : ByteArray) (hlo : lo.size ≤ 1048576) (hhi : hi.size ≤ 1048576) (w0 : World)
    (HF : Hid (∀ (w' : World) (hash : ByteArray), Below w0.heap.size w0 w' → Calls Tryz.prog 107 #[.agg #[.int .i64 (wd : Int), .slice a n c], .slice (some ⟨g, 0, none⟩) n c', .string hash] w' fun e w'' => e = .returned (nodeT (fnd hash)) ∧ Below w'.heap.size w' w'')) :
    ∀ (f : Nat) (hash over under par : ByteArray) (cnt : Nat) (w : World), cnt ≤ 500 → (hash.size = 0 ∨ hash.size = wd) → (goF fnd hgW lo hi f hash over under par cnt).1 = 0 → Below w0.heap.size w0 w → over.size ≤ 1048576 → under.size ≤ 1048576 →
    Calls Tryz.prog 49 #[.agg #[.int .i64 (wd : Int), .slice a n c], .slice (some ⟨g, 0, none⟩) n c', .string hash, .agg #[.string over, .string under], .string lo, .string hi] w (LpAt (prL fnd lo hi f hash over under) w)
  | 0, _, _, _, _, _, _, _, _, h, _, _, _ => by rw [goF] at h; exact absurd h (by decide)
  | f + 1, hash, over, under, par, cnt, w, hc, hs, h0, hw, ho, hu =>
    lp_step fnd wd hfo hwd32 a n c g c' lo hi hlo hhi w0 HF f hash over under par cnt (fun hash over under par cnt' w' h1 h2 h3 hb ho hu => lp_all fnd wd hfo hwd32 a n c g c' lo hi hlo hhi w0 HF f hash over under par cnt' w' h1 h2 h3 hb ho hu) w hw hc hs h0 ho hu
theorem srange_err (HD : Hid DigSaid) (D : Dec) (wd : Nat) (HDd : Hid (DecSaid 146 wd D)) (hdo : DecOk wd D) (a : Option Addr) (ss : List ByteArray) (c : Nat) (root lo hi : ByteArray) (w : World) (h : SArg a ss w) (hq : Hid (∀ j, (ss.getD j ⟨#[]⟩).size ≤ 1048575)) (h1 : 1 ≤ wd) (h2 : wd ≤ 32)
    (hr : root.size ≤ 1048576) (hlo : lo.size ≤ 1048576) (hhi : hi.size ≤ 1048576) (hp : poolOk (wd : Int) ss.length = true) (hk : hashOk root.size (wd : Int) = true) (hR0 : (goF (fndD D wd ss) hgW lo hi 501 root ⟨#[]⟩ ⟨#[]⟩ ⟨#[]⟩ 0).1 ≠ 0) :
    Calls Tryz.prog 48 #[.agg #[.int .i64 (wd : Int), .slice a ss.length c], .string root, .string lo, .string hi] w (RangeAt (rangeM (fndD D wd ss) (wd : Int) ss.length root lo hi) w) := by
  have HP := fun w' => poolOk_any (wd : Int) a ss.length c w' h.le
  have HH := fun w' => hashOk_any root (wd : Int) w' hr
  rw [hp] at HP
  rw [hk] at HH
  have hS := SR.mk0 w (wd : Int) a ss.length c
  obtain ⟨R, hR⟩ : ∃ R, goF (fndD D wd ss) hgW lo hi 501 root ⟨#[]⟩ ⟨#[]⟩ ⟨#[]⟩ 0 = R := ⟨_, rfl⟩
  rw [hR] at hR0
  have hRM := rangeM_ok (lo := lo) (hi := hi) (by rw [hp, hk]; rfl : (poolOk (wd : Int) ss.length && hashOk root.size (wd : Int)) = true) hR
  obtain ⟨Z, hZ⟩ : ∃ Z, rangeM (fndD D wd ss) (wd : Int) ss.length root lo hi = Z := ⟨_, rfl⟩
  rw [hZ] at hRM ⊢
  obtain ⟨N, hN⟩ : ∃ N, ss.length = N := ⟨_, rfl⟩
  have HHS : Hid (∀ w', Below w.heap.size w w' → Calls Tryz.prog 50 #[.agg #[.int .i64 (wd : Int), .slice a N c]] w' fun e w'' => ∃ g c', e = .returned (.slice (some ⟨g, 0, none⟩) N c') ∧ (∀ W, Below w''.heap.size w'' W → Calls Tryz.prog 105 #[.agg #[.int .i64 (wd : Int), .slice a N c], .slice (some ⟨g, 0, none⟩) N c', .string root, .string ⟨#[]⟩, .agg #[.string ⟨#[]⟩, .string ⟨#[]⟩], .string lo, .string hi, .int .i64 0] W (GoPost R W)) ∧ Below w'.heap.size w' w'') := by
    intro w' hb
    have hA := h.below hb
    rw [← hN]
    refine (hashes_any HD wd a ss c w' hA hq h1 h2).mono ?_
    rintro e w'' ⟨g, c', rfl, hrow, hb2⟩
    refine ⟨g, c', rfl, fun W hW => ?_, hb2⟩
    have hA2 := hA.below hb2
    rw [← hR]
    refine go_all (fndD D wd ss) wd (fndD_ok D wd ss hdo) a ss.length c g c' lo hi hlo hhi w'' (fun w3 hash hb3 => ?_) 501 root ⟨#[]⟩ ⟨#[]⟩ ⟨#[]⟩ 0 W (by omega) (by omega) hW (by decide) (by decide) (by decide)
    have := lfind_any D wd HDd a ss c g c' (ss.map (hashT wd)) hash w3 (hA2.below hb3) (by rw [List.length_map]) (Nat.lt_of_lt_of_le hrow.lt hb3.size) (fun j hj => by
      have e := (hrow.below hb3).cell j hj
      rw [e, List.getElem?_map, List.getD_eq_getElem?_getD, List.getElem?_eq_getElem (by rw [List.length_map]; exact hj)]
      rfl)
    rw [first_hash] at this
    exact this
  have hRMH : Hid (Z = if R.1 = 0 then (R.2.2, 0) else ([], R.1)) := hRM
  rw [hN] at HP hS ⊢
  clear h hq hN hR hRM hZ hp hk
  go_enter Tryz.func48, Tryz.ntmps48
  go_upto_region 2 with fail
  generalize (w.alloc (.cells #[.int .i64 (wd : Int), .slice a N c] 31)).alloc (.cells #[] 81) = W at hS ⊢
  obtain ⟨gz, hgz⟩ : ∃ x, w.heap.size + 1 = x := ⟨_, rfl⟩
  rw [hgz] at hS ⊢
  obtain ⟨ga, hga⟩ : ∃ x, w.heap.size = x := ⟨_, rfl⟩
  rw [show SR w w.heap.size = SR w ga by rw [hga]] at hS
  rw [hga]
  clear hga hgz
  have k0 := Lib.cell_of_heap hS.na 0
  have k1 := Lib.cell_of_heap hS.na 1
  go_upto_region 4 with (first | (go_at_call 79; refine (HP _).mono ?_; rintro e w1 ⟨rfl, hb1⟩; have hS1 := hS.below hb1; clear k0 k1; have k0 := Lib.cell_of_heap hS1.na 0; have k1 := Lib.cell_of_heap hS1.na 1) | (go_at_call 82; refine (HH _).mono ?_; rintro e w2 ⟨rfl, rfl⟩))
  clear HP HH hb1 hS k0 k1
  have k0 : w1.cell? ⟨ga, 0, none⟩ = some (.int .i64 (wd : Int)) := Lib.cell_of_heap hS1.na 0
  have k1 : w1.cell? ⟨ga, 1, none⟩ = some (.slice a N c) := Lib.cell_of_heap hS1.na 1
  have hbd : Below w1.heap.size w1 w1.drew := (Below.refl _ _).drew
  have HC : Hid (∀ W : World, W.heap[ga]? = some (.cells #[.int .i64 (wd : Int), .slice a N c] 31) → W.cell? ⟨ga, 0, none⟩ = some (.int .i64 (wd : Int)) ∧ W.cell? ⟨ga, 1, none⟩ = some (.slice a N c)) := fun W hW => ⟨Lib.cell_of_heap hW 0, Lib.cell_of_heap hW 1⟩
  have hna := hS1.na
  have hbw := hS1.bl
  obtain ⟨i, hie⟩ : ∃ i, R.1 = i := ⟨_, rfl⟩
  have hZ : Hid (Z = ([], i)) := by show _ = _; rw [hRMH.out, if_neg hR0, hie]
  have HG : Hid (∀ g c' W, Calls Tryz.prog 105 #[.agg #[.int .i64 (wd : Int), .slice a N c], .slice (some ⟨g, 0, none⟩) N c', .string root, .string ⟨#[]⟩, .agg #[.string ⟨#[]⟩, .string ⟨#[]⟩], .string lo, .string hi, .int .i64 0] W (GoPost R W) → Calls Tryz.prog 105 #[.agg #[.int .i64 (wd : Int), .slice a N c], .slice (some ⟨g, 0, none⟩) N c', .string root, .string ⟨#[]⟩, .agg #[.string ⟨#[]⟩, .string ⟨#[]⟩], .string lo, .string hi, .int .i64 0] W fun e w' => e = .returned (.agg #[.slice none 0 0, .int .i64 0, .int .i64 i]) ∧ Below W.heap.size W w') := fun g c' W hc => hc.mono fun e w' h => ⟨by rw [← hie]; exact h.2.1 hR0, h.2.2⟩
  rw [hie] at hR0
  have hbi : (i == 0) = false := beq_eq_false_iff_ne.2 hR0
  clear hie hRMH
  have hlt1 := hS1.lt
  go_region_held3 (fun W => W.cell? ⟨ga, 0, none⟩ = some (.int .i64 (wd : Int)) ∧ W.cell? ⟨ga, 1, none⟩ = some (.slice a N c)) (first | exact HC.out _ hna | exact HC.out _ (hS1.below ((Below.refl _ w1).drew.alloc (Nat.le_refl _) _)).na | exact HC.out _ hS2.na | exact HC.out _ (hS2.below ((Below.refl _ _).alloc (Nat.le_refl _) _)).na | exact HC.out _ hS3.na | exact HC.out _ (hS3.below ((Below.refl _ _).alloc (Nat.le_refl _) _)).na | exact HC.out _ (hS3.set3 hlt1 _ _ _).na | exact HC.out _ (hS3.set3 hlt2 _ _ _).na)
    (first
      | (go_at_call 50; refine (HHS.out (w1.drew.alloc (.cells #[.slice none 0 0, .int .i64 0, .int .i64 0] 158)) (hbw.drew.alloc hbw.size _)).mono ?_; rintro e w2 ⟨g, c', rfl, HGG, hb2⟩; have hS2 := (hS1.below ((Below.refl _ w1).drew.alloc (Nat.le_refl _) (.cells #[.slice none 0 0, .int .i64 0, .int .i64 0] 158))).below hb2; have hlt2 := hS2.lt; have n2 : WB w1.heap.size (.slice none 0 0) (.int .i64 0) (.int .i64 0) w2 := WB.below (show WB w1.heap.size (.slice none 0 0) (.int .i64 0) (.int .i64 0) (w1.drew.alloc (.cells #[.slice none 0 0, .int .i64 0, .int .i64 0] 158)) from heap_alloc_new w1.drew _) hb2; clear hb2)
      | (go_at_call 50; refine (HHS.out w1.drew hbw.drew).mono ?_; rintro e w2 ⟨g, c', rfl, HGG, hb2⟩; have hS2 := hS1.below ((Below.refl w1.heap.size w1).drew.trans hb2); have hlt2 := hS2.lt; clear hb2)
      | (go_at_call 105; refine (HG.out g c' (w2.alloc (.cells #[.slice none 0 0, .int .i64 0, .int .i64 0] 158)) (HGG _ ((Below.refl _ w2).alloc (Nat.le_refl _) _))).mono ?_; rintro e w3 ⟨rfl, hb3⟩; have hS3 := (hS2.below ((Below.refl _ w2).alloc (Nat.le_refl _) (.cells #[.slice none 0 0, .int .i64 0, .int .i64 0] 158))).below hb3; have n3 : WB w2.heap.size (.slice none 0 0) (.int .i64 0) (.int .i64 0) w3 := WB.below (show WB w2.heap.size (.slice none 0 0) (.int .i64 0) (.int .i64 0) (w2.alloc (.cells #[.slice none 0 0, .int .i64 0, .int .i64 0] 158)) from heap_alloc_new w2 _) hb3; clear hb3; obtain ⟨x0, x1, x2, y0, y1, y2⟩ := n3.at)
      | (go_at_call 105; refine (HG.out g c' w2 (HGG _ (Below.refl _ w2))).mono ?_; rintro e w3 ⟨rfl, hb3⟩; have hS3 := hS2.below hb3; have n3 := n2.below hb3; clear hb3; obtain ⟨x0, x1, x2, y0, y1, y2⟩ := n3.at)
      | (go_at_call 105; refine (HG.out g c' w2 (HGG _ (Below.refl _ w2))).mono ?_; rintro e w3 ⟨rfl, hb3⟩; have hS3 := hS2.below hb3; clear hb3))
  · have hS4 := hS3.below ((Below.refl w3.heap.size w3).alloc (Nat.le_refl _) (.cells #[.slice none 0 0, .int .i64 0, .int .i64 i] 158))
    have n4 : WB w3.heap.size (.slice none 0 0) (.int .i64 0) (.int .i64 i) (w3.alloc (.cells #[.slice none 0 0, .int .i64 0, .int .i64 i] 158)) := heap_alloc_new w3 _
    generalize w3.alloc (.cells #[.slice none 0 0, .int .i64 0, .int .i64 i] 158) = W4 at hS4 n4 ⊢
    generalize w3.heap.size = gw at n4 ⊢
    obtain ⟨u0, u1, u2, _, _, _⟩ := n4.at
    have hS5 := hS4.below (Below.refl W4.heap.size W4).drew
    have hfin := hS5.nil i
    rw [← hZ.out] at hfin
    clear k0 k1 hna hbd HGG hZ hS3 n4
    go_wp2_with fail
    go_region
    go_wp2_with fail
    go_ret2
    exact hfin
  · have hS4 := hS3.set3 hlt2 (.slice none 0 0) (.int .i64 0) (.int .i64 i)
    have n4 := n3.set3 (.slice none 0 0) (.int .i64 0) (.int .i64 i)
    generalize ((w3.setCell ⟨w2.heap.size, 0, none⟩ (.slice none 0 0)).setCell ⟨w2.heap.size, 1, none⟩ (.int .i64 0)).setCell ⟨w2.heap.size, 2, none⟩ (.int .i64 i) = W4 at hS4 n4 ⊢
    clear n3 x0 x1 x2 y0 y1 y2
    generalize w2.heap.size = gw at n4 ⊢
    obtain ⟨u0, u1, u2, _, _, _⟩ := n4.at
    have hS5 := hS4.below (Below.refl W4.heap.size W4).drew
    have hfin := hS5.nil i
    rw [← hZ.out] at hfin
    clear k0 k1 hna hbd HGG hZ hS3 n4
    go_wp2_with fail
    go_region
    go_wp2_with fail
    go_ret2
    exact hfin
  · have hS4 := hS3.set3 hlt1 (.slice none 0 0) (.int .i64 0) (.int .i64 i)
    have n4 := n3.set3 (.slice none 0 0) (.int .i64 0) (.int .i64 i)
    generalize ((w3.setCell ⟨w1.heap.size, 0, none⟩ (.slice none 0 0)).setCell ⟨w1.heap.size, 1, none⟩ (.int .i64 0)).setCell ⟨w1.heap.size, 2, none⟩ (.int .i64 i) = W4 at hS4 n4 ⊢
    clear n2 n3 x0 x1 x2 y0 y1 y2
    generalize w1.heap.size = gw at n4 ⊢
    obtain ⟨u0, u1, u2, _, _, _⟩ := n4.at
    have hS5 := hS4.below (Below.refl W4.heap.size W4).drew
    have hfin := hS5.nil i
    rw [← hZ.out] at hfin
    clear k0 k1 hna hbd HGG hZ hS3 n4
    go_wp2_with fail
    go_region
    go_wp2_with fail
    go_ret2
    exact hfin
end Go.Proofs.YtibjhkpgaaapaaaGreatDoor
