import Derived.Test.YtibjhkpgaaapaaaGreatDoorZvbl
import Derived.Test.YtibjhkpgaaapaaaGreatDoorZvba
namespace Go.Proofs.YtibjhkpgaaapaaaGreatDoor
open Go.RowKit Go.Proofs.Sha

theorem SubPost.bad {q rb wd : Nat} {lo hi s : ByteArray} {R : Option (PT × Nat × Nat)} {w w' : World} (hR : R = none) (hm : Mw q rb w w') : SubPost q rb wd lo hi s R w badP w' := ⟨fun t a' c' h => (by rw [hR] at h; cases h), fun _ => rfl, hm⟩
theorem SubPost.good {q rb wd : Nat} {lo hi s : ByteArray} {R : Option (PT × Nat × Nat)} {w w' : World} {t : PT} {a c : Nat} {x : Value} (hR : R = some (t, a, c)) (hp : PA wd w.heap.size t x w') (hr : RS q rb wd lo hi s a c w') (hm : Mw q rb w w') : SubPost q rb wd lo hi s R w (.returned x) w' := ⟨fun t' a' c' h => (by rw [hR] at h; cases h; exact ⟨x, rfl, hp, hr⟩), fun h => (by rw [hR] at h; cases h), hm⟩
set_option maxRecDepth 100000 in
set_option maxHeartbeats 4000000 in
theorem sub_step (q rb wd : Nat) (h1 : 1 ≤ wd) (h2 : wd ≤ 32) (lo hi s : ByteArray) (hs : s.size ≤ 1048576) (f : Nat) (HS : Hid (SubSaid q rb wd lo hi s f)) : SubSaid q rb wd lo hi s (f + 1) := by
  intro over under pk par a cnt w hR hP hK ha hc hfu
  obtain ⟨R, hRe⟩ : ∃ R, rdP s lo hi wd (f + 1) a over under pk cnt = R := ⟨_, rfl⟩
  rw [hRe]
  rw [rdP] at hRe
  have hRe : Hid _ := hRe
  have hA : Below w.heap.size w (w.alloc (.cells #[.string over, .string under, .pointer par] 144)) := (Below.refl _ _).alloc (Nat.le_refl _) _
  have nA := heap_alloc_new w (.cells #[.string over, .string under, .pointer par] 144)
  have hF0 : ∃ ga, FF q rb wd lo hi s over under pk par ga w a cnt (w.alloc (.cells #[.string over, .string under, .pointer par] 144)) := ⟨w.heap.size, hR.below hA, Mw.of_below hA, rfl, nA, hP.mw hR (Mw.of_below hA), hK.below hA⟩
  clear hR hP hK nA
  go_enter Tryz.func96, Tryz.ntmps96
  go_upto_region 1 with fail
  generalize w.alloc (.cells #[.string over, .string under, .pointer par] 144) = W0 at hF0 hA ⊢
  obtain ⟨ga, hF⟩ := hF0
  rw [hF.sz]
  clear hA
  by_cases hlt : a < s.size
  case neg =>
    have hRn : Hid (R = none) := by show _ = _; rw [← hRe.out, if_neg hlt]
    have HN : Hid (∀ W, FF q rb wd lo hi s over under pk par ga w a cnt W → Calls Tryz.prog 140 #[.pointer (some ⟨q, 0, none⟩), .iface 208 (.agg #[.int .i64 1, .bool false])] W fun e W' => e = badP ∧ Mw q rb w W') := fun W hW => by
      refine (rp_letter_no q rb wd lo hi s cnt a W hW.rs.pr hW.rs.rd hs ha hlt).mono ?_
      rintro e W' ⟨he, hm⟩
      exact ⟨he, hW.mw.trans (Mw.of_mv hm)⟩
    clear hlt
    go_wp2_with (first | (go_at_call 141; refine (letter_any _).mono ?_; rintro e w2 ⟨rfl, hb2⟩; have hF1 := hF.below hb2) | (go_at_call 140; refine (HN.out _ hF1).mono ?_; rintro e w3 ⟨rfl, hm3⟩))
    exact ⟨rfl, SubPost.bad hRn.out hm3⟩
  have HL : Hid (∀ W, FF q rb wd lo hi s over under pk par ga w a cnt W → Calls Tryz.prog 140 #[.pointer (some ⟨q, 0, none⟩), .iface 208 (.agg #[.int .i64 1, .bool false])] W fun e W' => e = .returned (.int .i64 (bAt s a : Int)) ∧ FF q rb wd lo hi s over under pk par ga w (a + 1) cnt W') := fun W hW => by
    refine (rp_letter_ok q rb wd lo hi s cnt a W hW.rs.pr hW.rs.rd hs hlt).mono ?_
    rintro e W' ⟨he, hr, hm⟩
    exact ⟨he, hW.step (hW.rs.step hr hm) (Mw.of_mv hm)⟩
  have HC : Hid (∀ W, Calls Tryz.prog 142 #[.agg #[.string lo, .string hi], .agg #[.string over, .string under, .pointer par]] W fun e W' => e = .returned (.bool (canW over under lo hi)) ∧ Below W.heap.size W W') := fun W => can_any lo hi over under par W
  have hRe2 : Hid ((if bAt s a = 69 then some (PT.e, a + 1, cnt)
      else if bAt s a = 83 then
        if canW over under lo hi = false ∧ a + 1 + wd ≤ s.size then some (PT.s (s.extract (a + 1) (a + 1 + wd)), a + 1 + wd, cnt) else none
      else if bAt s a = 70 ∧ canW over under lo hi = true then rdF s lo hi wd f (a + 1) over under pk cnt else none) = R) := by
    show _ = _
    rw [← hRe.out, if_pos hlt]
    rfl
  have ha1 : a + 1 ≤ s.size := hlt
  clear hRe hlt
  obtain ⟨b, hb⟩ : ∃ b, bAt s a = b := ⟨_, rfl⟩
  rw [hb] at HL hRe2
  clear hb
  obtain ⟨cw, hcw⟩ : ∃ cw, canW over under lo hi = cw := ⟨_, rfl⟩
  rw [hcw] at HC hRe2
  clear hcw
  go_upto_region 2 with (first | (go_at_call 141; refine (letter_any _).mono ?_; rintro e w2 ⟨rfl, hb2⟩; have hF1 := hF.below hb2) | (go_at_call 140; refine (HL.out _ hF1).mono ?_; rintro e w3 ⟨rfl, hF2⟩))
  clear hF hF1 hb2 HL
  clear w2 W0
  have a0 : w3.cell? ⟨ga, 0, none⟩ = some (.string over) := Lib.cell_of_heap hF2.na 0
  have a1' : w3.cell? ⟨ga, 1, none⟩ = some (.string under) := Lib.cell_of_heap hF2.na 1
  have a2' : w3.cell? ⟨ga, 2, none⟩ = some (.pointer par) := Lib.cell_of_heap hF2.na 2
  have q2 : w3.cell? ⟨q, 2, none⟩ = some (.string lo) := Lib.cell_of_heap hF2.rs.pr 2
  have q3 : w3.cell? ⟨q, 3, none⟩ = some (.string hi) := Lib.cell_of_heap hF2.rs.pr 3
  have hC2 : Hid (∀ W, FF q rb wd lo hi s over under pk par ga w (a + 1) cnt W → W.cell? ⟨ga, 0, none⟩ = some (.string over) ∧ W.cell? ⟨ga, 1, none⟩ = some (.string under) ∧ W.cell? ⟨ga, 2, none⟩ = some (.pointer par) ∧ W.cell? ⟨q, 2, none⟩ = some (.string lo) ∧ W.cell? ⟨q, 3, none⟩ = some (.string hi)) := fun W hW => ⟨Lib.cell_of_heap hW.na 0, Lib.cell_of_heap hW.na 1, Lib.cell_of_heap hW.na 2, Lib.cell_of_heap hW.rs.pr 2, Lib.cell_of_heap hW.rs.pr 3⟩
  go_region_held3 (fun W => W.cell? ⟨ga, 0, none⟩ = some (.string over) ∧ W.cell? ⟨ga, 1, none⟩ = some (.string under) ∧ W.cell? ⟨ga, 2, none⟩ = some (.pointer par) ∧ W.cell? ⟨q, 2, none⟩ = some (.string lo) ∧ W.cell? ⟨q, 3, none⟩ = some (.string hi)) (first | exact ⟨a0, a1', a2', q2, q3⟩ | exact hC2.out _ hF3) (first | (go_at_call 142; refine (HC.out _).mono ?_; rintro e w4 ⟨rfl, hb4'⟩; have hb4 : Below w3.heap.size w3 w4 := (Below.refl w3.heap.size w3).drew.trans hb4'; have hF3 := hF2.below hb4))
  clear hF2 hb4 hb4' a0 a1' a2' q2 q3 HC hC2
  clear w3
  by_cases hbE : b = 69
  · subst hbE
    have hRv : Hid (R = some (.e, a + 1, cnt)) := by show _ = _; rw [← hRe2.out, if_pos rfl]
    clear hRe2
    go_wp2_with fail
    go_ret
    exact SubPost.good hRv.out rfl hF3.rs hF3.mw
  have zE : ((b : Int) == 69) = false := by simp; omega
  by_cases hbS : b = 83
  · subst hbS
    cases cw with
    | true =>
      have hRn : Hid (R = none) := by show _ = _; rw [← hRe2.out, if_neg (by decide), if_pos rfl, if_neg (by simp)]
      clear hRe2
      go_wp2_with fail
      exact ⟨rfl, SubPost.bad hRn.out hF3.mw⟩
    | false =>
      have q1 : w4.cell? ⟨q, 1, none⟩ = some (.int .i64 (wd : Int)) := Lib.cell_of_heap hF3.rs.pr 1
      by_cases hw : a + 1 + wd ≤ s.size
      · have hRv : Hid (R = some (.s (s.extract (a + 1) (a + 1 + wd)), a + 1 + wd, cnt)) := by show _ = _; rw [← hRe2.out, if_neg (by decide), if_pos rfl, if_pos ⟨rfl, hw⟩]
        have HP : Hid (∀ W, FF q rb wd lo hi s over under pk par ga w (a + 1) cnt W → Calls Tryz.prog 143 #[.pointer (some ⟨q, 0, none⟩), .iface 214 (.agg #[.int .i64 (wd : Int)])] W fun e W' => e = .returned (.string (s.extract (a + 1) (a + 1 + wd))) ∧ FF q rb wd lo hi s over under pk par ga w (a + 1 + wd) cnt W') := fun W hW => by
          refine (rp_plain_ok wd h2 q rb wd lo hi s cnt (a + 1) W hW.rs.pr hW.rs.rd hs hw).mono ?_
          rintro e W' ⟨he, hr, hm⟩
          exact ⟨he, hW.step (hW.rs.step hr hm) (Mw.of_mv hm)⟩
        generalize s.extract (a + 1) (a + 1 + wd) = X at HP hRv
        clear hRe2 hw
        go_wp2_with (first | (go_at_call 143; refine (HP.out _ hF3).mono ?_; rintro e w5 ⟨rfl, hF5⟩))
        go_ret
        exact SubPost.good hRv.out rfl hF5.rs hF5.mw
      · have hRn : Hid (R = none) := by show _ = _; rw [← hRe2.out, if_neg (by decide), if_pos rfl, if_neg (fun h => hw h.2)]
        have HP : Hid (∀ W, FF q rb wd lo hi s over under pk par ga w (a + 1) cnt W → Calls Tryz.prog 143 #[.pointer (some ⟨q, 0, none⟩), .iface 214 (.agg #[.int .i64 (wd : Int)])] W fun e W' => e = badP ∧ Mw q rb w W') := fun W hW => by
          refine (rp_plain_no wd h2 q rb wd lo hi s cnt (a + 1) W hW.rs.pr hW.rs.rd hs ha1 hw).mono ?_
          rintro e W' ⟨he, hm⟩
          exact ⟨he, hW.mw.trans (Mw.of_mv hm)⟩
        clear hRe2 hw
        go_wp2_with (first | (go_at_call 143; refine (HP.out _ hF3).mono ?_; rintro e w5 ⟨rfl, hm5⟩))
        exact ⟨rfl, SubPost.bad hRn.out hm5⟩
  have zS : ((b : Int) == 83) = false := by simp; omega
  by_cases hbF : b = 70
  · subst hbF
    cases cw with
    | false =>
      have hRn : Hid (R = none) := by show _ = _; rw [← hRe2.out, if_neg (by decide), if_neg (by decide), if_neg (by simp)]
      clear hRe2
      go_wp2_with fail
      exact ⟨rfl, SubPost.bad hRn.out hF3.mw⟩
    | true =>
      have hRv : Hid (rdF s lo hi wd f (a + 1) over under pk cnt = R) := by show _ = _; rw [← hRe2.out, if_neg (by decide), if_neg (by decide), if_pos ⟨rfl, rfl⟩]
      have a0 : w4.cell? ⟨ga, 0, none⟩ = some (.string over) := Lib.cell_of_heap hF3.na 0
      have a1' : w4.cell? ⟨ga, 1, none⟩ = some (.string under) := Lib.cell_of_heap hF3.na 1
      have a2' : w4.cell? ⟨ga, 2, none⟩ = some (.pointer par) := Lib.cell_of_heap hF3.na 2
      have HU := full_any q rb wd h1 h2 lo hi s hs f HS over under pk par (a + 1) cnt w4 hF3.rs hF3.pa hF3.kt ha1 hc (by omega)
      rw [hRv.out] at HU
      clear hRv hRe2
      cases R with
      | none =>
        have HU2 : Calls Tryz.prog 144 #[.pointer (some ⟨q, 0, none⟩), .agg #[.string over, .string under, .pointer par]] w4 fun e w' => e = badP ∧ Mw q rb w w' := by
          refine HU.mono ?_
          rintro e w' ⟨_, he, hm⟩
          exact ⟨he rfl, hF3.mw.trans hm⟩
        clear HU
        go_wp2_with (first | (go_at_call 144; refine HU2.mono ?_; rintro e w5 ⟨rfl, hm5⟩))
        exact ⟨rfl, SubPost.bad rfl hm5⟩
      | some Y =>
        obtain ⟨t, a', c'⟩ := Y
        have HU2 : Calls Tryz.prog 144 #[.pointer (some ⟨q, 0, none⟩), .agg #[.string over, .string under, .pointer par]] w4 fun e w' => ∃ b, e = .returned (.pointer (some ⟨b, 0, none⟩)) ∧ SubPost q rb wd lo hi s (some (t, a', c')) w (.returned (.iface 84 (.pointer (some ⟨b, 0, none⟩)))) w' := by
          refine HU.mono ?_
          rintro e w' ⟨hy, _, hm⟩
          obtain ⟨b, he, hp, hr⟩ := hy t a' c' rfl
          exact ⟨b, he, SubPost.good rfl (hp.mono hF3.mw.size) hr (hF3.mw.trans hm)⟩
        clear HU
        go_wp2_with (first | (go_at_call 144; refine HU2.mono ?_; rintro e w5 ⟨pb, rfl, hp5⟩))
        go_ret
        exact hp5
  have zF : ((b : Int) == 70) = false := by simp; omega
  have hRn : Hid (R = none) := by show _ = _; rw [← hRe2.out, if_neg hbE, if_neg hbS, if_neg (fun h => hbF h.1)]
  clear hRe2 hbE hbS hbF
  go_wp2_with fail
  exact ⟨rfl, SubPost.bad hRn.out hF3.mw⟩
theorem sub_all (q rb wd : Nat) (h1 : 1 ≤ wd) (h2 : wd ≤ 32) (lo hi s : ByteArray) (hs : s.size ≤ 1048576) : ∀ f, SubSaid q rb wd lo hi s f
  | 0 => fun _ _ _ _ _ _ _ _ _ _ _ h h' => by omega
  | f + 1 => sub_step q rb wd h1 h2 lo hi s hs f (sub_all q rb wd h1 h2 lo hi s hs f)
end Go.Proofs.YtibjhkpgaaapaaaGreatDoor
namespace Go.Proofs.YtibjhkpgaaapaaaGreatDoor
open Go.RowKit Go.Proofs.Sha

theorem root_any (m : Nat) (t : Tr PairT) (p : Option Addr) (w : World) {n0 : Nat} (h : TA n0 (hf m) t p w) : Calls Tryz.prog 131 #[.pointer p] w fun e w' => e = .returned (.string (rootT m t)) ∧ w' = w := by
  have hp := h.ptr
  cases t with
  | nil =>
    obtain rfl : p = none := h
    have q := ptr_nil w
    have hr : Hid (rootT m .nil = ⟨#[]⟩) := rfl
    clear hp
    go_enter Tryz.func131, Tryz.ntmps131
    go_wp2_with fail
    go_ret
    exact ⟨by rw [hr.out]; rfl, rfl⟩
  | node l x r =>
    obtain ⟨b, pl, pr, rfl, _, hb, _, _⟩ := h
    have q := ptr_some _ w hp
    have c := hb.c38
    have e : (hf m (.node l x r)).2 = rootT m (.node l x r) := rfl
    rw [e] at c
    generalize rootT m (.node l x r) = H at c
    clear hp hb e
    go_enter Tryz.func131, Tryz.ntmps131
    go_wp2_with fail
    go_ret
    exact ⟨rfl, rfl⟩
def someT : Tr PairT → Bool
  | .nil => false
  | .node _ _ _ => true
theorem isUn_any (t : Tr PairT) (p : Option Addr) (w : World) {n0 : Nat} (h : TA n0 bare t p w) : Calls Tryz.prog 177 #[.pointer p] w fun e w' => e = .returned (.bool (someT t)) ∧ w' = w := by
  have hp := h.ptr
  cases t with
  | nil =>
    obtain rfl : p = none := h
    have q : (binOp .neq 115 (.pointer none) (.pointer none)).run Tryz.prog w = .ok (.bool false) w := by
      have := ptr_nil w
      simp only [binOp] at this ⊢
      cases hq : (Op.equal 115 (.pointer none) (.pointer none)).run Tryz.prog w <;> simp_all
    clear hp
    go_enter Tryz.func177, Tryz.ntmps177
    go_wp2_with fail
    go_ret
    exact ⟨rfl, rfl⟩
  | node l x r =>
    obtain ⟨b, pl, pr, rfl, _, hb, _, _⟩ := h
    have q : (binOp .neq 115 (.pointer (some ⟨b, 0, none⟩)) (.pointer none)).run Tryz.prog w = .ok (.bool true) w := by
      have := ptr_some _ w hp
      simp only [binOp] at this ⊢
      cases hq : (Op.equal 115 (.pointer (some ⟨b, 0, none⟩)) (.pointer none)).run Tryz.prog w <;> simp_all
    have c := hb.c37
    have e : (bare (.node l x r)).1 = ⟨#[]⟩ := rfl
    rw [e] at c
    clear hp hb e
    go_enter Tryz.func177, Tryz.ntmps177
    go_wp2_with fail
    go_ret
    exact ⟨rfl, rfl⟩
theorem subs_any (b : Nat) (x : PairT) (l r : Option Addr) (e : ByteArray × ByteArray) (w : World) (h : TB b x l r e w) : Calls Tryz.prog 227 #[.pointer (some ⟨b, 0, none⟩)] w fun e w' => e = .returned (.tuple #[.pointer l, .pointer r]) ∧ Below w.heap.size w w' := by
  have c1 := h.c35
  have c2 := h.c36
  clear h
  go_enter Tryz.func227, Tryz.ntmps227
  go_wp2_with fail
  go_region_held3 (fun W => W.cell? ⟨b, 35, none⟩ = some (.pointer l) ∧ W.cell? ⟨b, 36, none⟩ = some (.pointer r)) (exact ⟨c1, c2⟩) (fail)
  go_wp2_with fail
  go_ret2
  exact ⟨rfl, (Below.refl _ _).drew⟩
/-- The table of the hash lies in the first block. -/
def KTab (w : World) : Prop := ∀ j, j < 64 → w.cell? ⟨0, j, none⟩ = some (.int .u32 ((kTab.getD j 0).toNat : Int))
theorem KTab.below {w w' : World} (h : KTab w) (hb : Below w.heap.size w w') : KTab w' := fun j hj => (hb.cell (World.block_lt_of_cell? w _ (h j hj))).trans (h j hj)
theorem KTab.upd {M : Nat → Prop} {w w' : World} (h : KTab w) (hu : Upd M w w') (hn : ¬ M 0) : KTab w' := fun j hj => hu.cell (h j hj) hn
theorem TB.ne0 {b : Nat} {x : PairT} {l r : Option Addr} {e : ByteArray × ByteArray} {w : World} (h : TB b x l r e w) (hk : KTab w) : 0 ≠ b := fun q => by
  subst q
  have := h.c0.symm.trans (hk 0 (by omega))
  simp at this

set_option maxRecDepth 100000 in
set_option maxHeartbeats 2000000 in
theorem addHash_any (m : Nat) (h1 : 1 ≤ m) (h2 : m ≤ 32) (b : Nat) (x : PairT) (pl pr : Option Addr) (l r : Tr PairT) (e0 : ByteArray × ByteArray) (w : World) (hb : TB b x pl pr e0 w) {n0 : Nat} (hl : TA n0 (hf m) l pl w) (hr : TA n0 (hf m) r pr w) (hx1 : x.1.size ≤ 1048576) (hx2 : x.2.size ≤ 1048576) (hk : KTab w) :
    Calls Tryz.prog 179 #[.pointer (some ⟨b, 0, none⟩), .int .i64 (m : Int)] w fun e w' => e = .returned (.tuple #[]) ∧ TB b x pl pr (hf m (.node l x r)) w' ∧ Upd (fun k => k = b) w w' := by
  have HC : Hid (∀ w', Below w.heap.size w w' → w'.cell? ⟨b, 0, none⟩ = some (.string x.1) ∧ w'.cell? ⟨b, 1, none⟩ = some (.string x.2) ∧ w'.cell? ⟨b, 35, none⟩ = some (.pointer pl) ∧ w'.cell? ⟨b, 36, none⟩ = some (.pointer pr)) := fun w' h => ⟨(hb.below h (Nat.le_refl _)).c0, (hb.below h (Nat.le_refl _)).c1, (hb.below h (Nat.le_refl _)).c35, (hb.below h (Nat.le_refl _)).c36⟩
  have HL : Hid (∀ w', Below w.heap.size w w' → Calls Tryz.prog 131 #[.pointer pl] w' fun e w'' => e = .returned (.string (rootT m l)) ∧ w'' = w') := fun w' h => root_any m l pl w' (hl.below h (Nat.le_refl _))
  have HR : Hid (∀ w', Below w.heap.size w w' → Calls Tryz.prog 131 #[.pointer pr] w' fun e w'' => e = .returned (.string (rootT m r)) ∧ w'' = w') := fun w' h => root_any m r pr w' (hr.below h (Nat.le_refl _))
  have hsl := rootT_size m h2 l
  have hsr := rootT_size m h2 r
  have HE : Hid (∀ w', Calls Tryz.prog 186 #[.agg #[.string x.1, .string x.2, .string (rootT m l), .string (rootT m r)], .int .i64 (m : Int)] w' fun e w'' => ∃ t, e = .returned (.string t) ∧ Hid (t = encT m (.node l x r)) ∧ Below w'.heap.size w' w'') := fun w' => enc_impl x.1 x.2 _ _ _ w' hx1 hx2 (by omega) (by omega)
  have HT : Hid (hf m (.node l x r) = (encT m (.node l x r), digB (encT m (.node l x r)) m)) := rfl
  have hes : (encT m (.node l x r)).size ≤ 1048576 := by
    have := (encS_size x.1 x.2 (rootT m l) (rootT m r) m).1
    show (encS x.1 x.2 (rootT m l) (rootT m r) m).size ≤ 1048576
    omega
  clear hsl hsr
  generalize hf m (.node l x r) = F at HT ⊢
  generalize encT m (.node l x r) = E at HE HT hes
  generalize rootT m l = A at HL HE
  generalize rootT m r = C at HR HE
  have HD : Hid (∀ w', KTab w' → Calls Tryz.prog 145 #[.string E, .int .i64 (m : Int)] w' fun e w'' => e = .returned (.string (digB E m)) ∧ Below w'.heap.size w' w'') := fun w' h => edig_any E m w' hes h1 h2 h
  generalize digB E m = G at HD HT
  have hne := hb.ne0 hk
  obtain ⟨xk, xv⟩ := x
  dsimp only at HC HE hx1 hx2
  have HB : Hid (TB b (xk, xv) pl pr e0 w) := hb
  have HKT : Hid (KTab w) := hk
  clear hl hr hb hk hes hx1 hx2
  have hb0 : Below w.heap.size w w.drew := (Below.refl _ _).drew
  go_enter Tryz.func179, Tryz.ntmps179
  go_upto_region 0 with fail
  go_region_held3 (fun W => W.cell? ⟨b, 0, none⟩ = some (.string xk) ∧ W.cell? ⟨b, 1, none⟩ = some (.string xv) ∧ W.cell? ⟨b, 35, none⟩ = some (.pointer pl) ∧ W.cell? ⟨b, 36, none⟩ = some (.pointer pr)) (first | exact HC.out _ hb0 | exact HC.out _ hb2 | exact ⟨HS3.out.c0, HS3.out.c1, HS3.out.c35, HS3.out.c36⟩) (first | (go_at_call_of 131 (Value.pointer pl); refine (HL.out _ hb0).mono ?_; rintro e w1 ⟨rfl, rfl⟩) | (go_at_call_of 131 (Value.pointer pr); refine (HR.out _ hb0).mono ?_; rintro e w1 ⟨rfl, rfl⟩) | (go_at_call 186; refine (HE.out _).mono ?_; rintro e w2 ⟨t, rfl, ht, hb2'⟩; have hb2 : Below w.heap.size w w2 := hb0.trans hb2'; have hB2 := HB.out.below hb2 (Nat.le_refl _); have c37 := hB2.c37; have f37 := hB2.frozen (o := 37); have HS3 : Hid (TB b (xk, xv) pl pr (t, e0.2) (w2.setCell ⟨b, 37, none⟩ (.string t))) := hB2.setEnc t; clear hb2'))
  have hU : Upd (fun k => k = b) w (w2.setCell ⟨b, 37, none⟩ (.string t)) := (Upd.of_below hb2).setCell b 37 _ rfl
  have hT3 : TB b (xk, xv) pl pr (t, e0.2) (w2.setCell ⟨b, 37, none⟩ (.string t)) := HS3.out
  have hk3 := HKT.out.upd hU hne
  clear HS3 f37 c37 hB2 hb2 HKT HB HC HL HR HE hb0 hne
  generalize w2.setCell ⟨b, 37, none⟩ (.string t) = w3 at hU hT3 hk3 ⊢
  obtain rfl : t = E := ht.out
  have c37 := hT3.c37
  have HK3 : Hid (KTab w3) := hk3
  clear hk3
  dsimp only at c37
  go_wp2_with (first | (go_at_call 145; refine (HD.out _ HK3.out).mono ?_; rintro e w4 ⟨rfl, hb4⟩; have hT4 := hT3.below hb4 (Nat.le_refl _); have c38 := hT4.c38; have f38 := hT4.frozen (o := 38)))
  go_end0
  refine ⟨rfl, ?_, (hU.trans (Upd.of_below hb4)).setCell b 38 _ rfl⟩
  rw [HT.out]
  exact hT4.setHash G
theorem clo_no (c : Nat) (p : Option Addr) (i : Int) (hi : i = 0 ∨ i = 1) (w : World) : Calls Tryz.prog 178 #[.pointer p, .int .i64 i, .pointer (some ⟨c, 0, none⟩)] w fun e w' => e = .returned (.bool true) ∧ w' = w := by
  have hz : (i == 2) = false := by rcases hi with rfl | rfl <;> rfl
  go_enter Tryz.func178, Tryz.ntmps178
  go_wp2_with fail
  go_ret
  exact ⟨rfl, rfl⟩
theorem clo_yes (m : Nat) (h1 : 1 ≤ m) (h2 : m ≤ 32) (c b : Nat) (x : PairT) (pl pr : Option Addr) (l r : Tr PairT) (e0 : ByteArray × ByteArray) (w : World) (hb : TB b x pl pr e0 w) {n0 : Nat} (hl : TA n0 (hf m) l pl w) (hr : TA n0 (hf m) r pr w) (hx1 : x.1.size ≤ 1048576) (hx2 : x.2.size ≤ 1048576) (hk : KTab w) (hc : w.cell? ⟨c, 0, none⟩ = some (.int .i64 (m : Int))) :
    Calls Tryz.prog 178 #[.pointer (some ⟨b, 0, none⟩), .int .i64 2, .pointer (some ⟨c, 0, none⟩)] w fun e w' => e = .returned (.bool true) ∧ TB b x pl pr (hf m (.node l x r)) w' ∧ Upd (fun k => k = b) w w' := by
  have HA := addHash_any m h1 h2 b x pl pr l r e0 w hb hl hr hx1 hx2 hk
  clear hb hl hr hk hx1 hx2
  go_enter Tryz.func178, Tryz.ntmps178
  go_wp2_with (go_at_call 179; refine HA.mono ?_; rintro e w1 ⟨rfl, hT, hU⟩)
  go_ret
  exact ⟨rfl, hT, hU⟩
end Go.Proofs.YtibjhkpgaaapaaaGreatDoor
namespace Go.Proofs.YtibjhkpgaaapaaaGreatDoor
open Go.RowKit Go.Proofs.Sha

set_option maxRecDepth 100000 in
set_option maxHeartbeats 2000000 in
theorem walk_hash (m : Nat) (h1 : 1 ≤ m) (h2 : m ≤ 32) (c n0 : Nat) : ∀ (t : Tr PairT) (p : Option Addr) (bs : List Nat) (w : World), TAL n0 bare t p bs w → bs.Nodup → (∀ x ∈ t.inord, x.1.size ≤ 1048576 ∧ x.2.size ≤ 1048576) → KTab w → w.cell? ⟨c, 0, none⟩ = some (.int .i64 (m : Int)) →
    Calls Tryz.prog 159 #[.pointer p, .func (.func 177) #[] #[], .func (.func 178) #[] #[.pointer (some ⟨c, 0, none⟩)]] w fun e w' => e = .returned (.bool true) ∧ TAL n0 (hf m) t p bs w' ∧ Upd (fun k => k ∈ bs) w w' := by
  intro t
  induction t with
  | nil =>
    intro p bs w ht hnd hsz hk hc
    obtain ⟨rfl, rfl⟩ := ht
    have HU := isUn_any .nil none w (n0 := n0) rfl
    have hs : someT .nil = false := rfl
    rw [hs] at HU
    clear hs hsz hk hc hnd
    go_enter Tryz.func159, Tryz.ntmps159
    go_wp2_with (go_at_call 177; refine HU.mono ?_; rintro e w1 ⟨rfl, rfl⟩)
    go_ret
    exact ⟨rfl, ⟨rfl, rfl⟩, Upd.refl _ _⟩
  | node l x r ihl ihr =>
    intro p bs w ht hnd hsz hk hc
    have HU := isUn_any (.node l x r) p w ht.ta
    have hs : someT (.node l x r) = true := rfl
    rw [hs] at HU
    clear hs
    obtain ⟨b, pl, pr, bl, br, rfl, rfl, hge, hb, hl, hr⟩ := ht
    obtain ⟨n1, n2, n3⟩ := List.nodup_append.1 hnd
    obtain ⟨n4, n5⟩ := List.nodup_cons.1 n2
    have d1 : b ∉ bl := fun q => n3 b q b (by simp) rfl
    have d2 : ∀ k ∈ br, k ∉ bl := fun k hk q => n3 k q k (by simp [hk]) rfl
    have hm : ∀ w' : World, (method 427 115 (.pointer (some ⟨b, 0, none⟩)) "loop.example/s03048/impl.subtrees").run Tryz.prog w' = .ok (227, .pointer (some ⟨b, 0, none⟩)) w' := fun _ => by kernel_rfl
    have H0 := fun w' => clo_no c (some ⟨b, 0, none⟩) 0 (.inl rfl) w'
    have H1 := fun w' => clo_no c (some ⟨b, 0, none⟩) 1 (.inr rfl) w'
    have HS := subs_any b x pl pr _ w hb
    have HL : Hid (∀ w0, Below w.heap.size w w0 → Calls Tryz.prog 159 #[.pointer pl, .func (.func 177) #[] #[], .func (.func 178) #[] #[.pointer (some ⟨c, 0, none⟩)]] w0 fun e w' => e = .returned (.bool true) ∧ TAL n0 (hf m) l pl bl w' ∧ Upd (fun k => k ∈ bl) w w') := fun w0 hb0 => by
      have u0 : Upd (fun _ => False) w w0 := Upd.of_below hb0
      refine (ihl pl bl w0 (hl.upd u0 (fun _ _ q => q)) n1 (fun y hy => hsz y (by simp [Tr.inord, hy])) (hk.below hb0) (u0.cell hc id)).mono ?_
      rintro e w' ⟨he, hT, hU⟩
      exact ⟨he, hT, (Upd.of_below hb0).trans hU⟩
    have hc0 : c ∉ bl ∧ c ∉ br ∧ c ≠ b := ⟨hl.notin c hc (fun s => by simp), hr.notin c hc (fun s => by simp), fun q => by
      subst q
      have := hb.c0.symm.trans hc
      simp at this⟩
    have hk0 : 0 ∉ bl ∧ 0 ∉ br ∧ 0 ≠ b := ⟨hl.notin 0 (hk 0 (by omega)) (fun s => by simp), hr.notin 0 (hk 0 (by omega)) (fun s => by simp), hb.ne0 hk⟩
    have HR : Hid (∀ w1, Upd (fun k => k ∈ bl) w w1 → Calls Tryz.prog 159 #[.pointer pr, .func (.func 177) #[] #[], .func (.func 178) #[] #[.pointer (some ⟨c, 0, none⟩)]] w1 fun e w' => e = .returned (.bool true) ∧ TAL n0 (hf m) r pr br w' ∧ Upd (fun k => k ∈ br) w1 w') := fun w1 hu1 => ihr pr br w1 (hr.upd hu1 (fun k hk q => d2 k hk q)) n5 (fun y hy => hsz y (by simp [Tr.inord, hy])) (hk.upd hu1 hk0.1) (hu1.cell hc hc0.1)
    have HY : Hid (∀ w1 w2, Upd (fun k => k ∈ bl) w w1 → TAL n0 (hf m) l pl bl w1 → Upd (fun k => k ∈ br) w1 w2 → TAL n0 (hf m) r pr br w2 → Calls Tryz.prog 178 #[.pointer (some ⟨b, 0, none⟩), .int .i64 2, .pointer (some ⟨c, 0, none⟩)] w2 fun e w3 => e = .returned (.bool true) ∧ TAL n0 (hf m) (.node l x r) (some ⟨b, 0, none⟩) (bl ++ b :: br) w3 ∧ Upd (fun k => k ∈ bl ++ b :: br) w w3) := fun w1 w2 u1 t1 u2 t2 => by
      have tl2 : TAL n0 (hf m) l pl bl w2 := t1.upd u2 (fun k hk q => d2 k q hk)
      have tb2 : TB b x pl pr (bare (.node l x r)) w2 := (hb.upd u1 d1).upd u2 n4
      refine (clo_yes m h1 h2 c b x pl pr l r _ w2 tb2 tl2.ta t2.ta (hsz x (by simp [Tr.inord])).1 (hsz x (by simp [Tr.inord])).2 ((hk.upd u1 hk0.1).upd u2 hk0.2.1) (u2.cell (u1.cell hc hc0.1) hc0.2.1)).mono ?_
      rintro e w3 ⟨he, hT, hU⟩
      refine ⟨he, ⟨b, pl, pr, bl, br, rfl, rfl, hge, hT, tl2.upd hU (fun k hk q => d1 (q ▸ hk)), t2.upd hU (fun k hk q => n4 (q ▸ hk))⟩, ?_⟩
      exact ((u1.mono (fun k hk => by simp [hk])).trans (u2.mono (fun k hk => by simp [hk]))).trans (hU.mono (fun k hk => by simp [hk]))
    clear hb hl hr hk hc hnd n1 n2 n3 n4 n5 d1 d2 hc0 hk0 hsz ihl ihr
    go_enter Tryz.func159, Tryz.ntmps159
    go_wp2_with (first | (go_at_call 177; refine HU.mono ?_; rintro e w1 ⟨rfl, rfl⟩) | (go_at_call_of 178 (Value.int .i64 0); refine (H0 _).mono ?_; rintro e w1 ⟨rfl, rfl⟩) | (go_at_call_of 178 (Value.int .i64 1); refine (H1 _).mono ?_; rintro e w1 ⟨rfl, rfl⟩) | (go_at_call 227; refine HS.mono ?_; rintro e w0 ⟨rfl, hb0⟩) | (go_at_call_of 159 (Value.pointer pl); refine (HL.out _ hb0).mono ?_; rintro e w1 ⟨rfl, ht1, hu1⟩) | (go_at_call_of 159 (Value.pointer pr); refine (HR.out _ hu1).mono ?_; rintro e w2 ⟨rfl, ht2, hu2⟩) | (go_at_call_of 178 (Value.int .i64 2); refine (HY.out _ _ hu1 ht1 hu2 ht2).mono ?_; rintro e w3 ⟨rfl, ht3, hu3⟩))
    go_ret
    exact ⟨rfl, ht3, hu3⟩
end Go.Proofs.YtibjhkpgaaapaaaGreatDoor
