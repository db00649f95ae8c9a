import Derived.Test.YtfmpjlpakldheaaGreatDoorZybv
import Derived.Test.YtfmpjlpakldheaaGreatDoorZybi
import Derived.Test.YtfmpjlpakldheaaGreatDoorZyat
import Derived.Test.YtfmpjlpakldheaaGreatDoorZybe
import Derived.Test.YtfmpjlpakldheaaGreatDoorZybs
import Derived.Test.YtfmpjlpakldheaaGreatDoorZybt
import Derived.Test.YtfmpjlpakldheaaGreatDoorZybu
import Derived.Test.YtfmpjlpakldheaaGreatDoorZyac
import Derived.Test.YtfmpjlpakldheaaGreatDoorZybj
import Derived.Test.YtfmpjlpakldheaaGreatDoorZybp
import Derived.Test.YtfmpjlpakldheaaGreatDoorZybr
namespace Go.Proofs.YtfmpjlpakldheaaGreatDoor
open Go.RowKit Go.Proofs.Sha

theorem own_cap {w : World} {base n c t z : Nat} {a : Option Addr} {xs : List Value} (h : w.ownsRow base t z (.slice a n c) n xs) : n ≤ c := by
  rcases h.2 with ⟨e, h0⟩ | ⟨g, cap, cur, e, hb, hg, q1, q2, q3, q4⟩
  · simp only [Value.slice.injEq] at e
    omega
  · simp only [Value.slice.injEq, true_and] at e
    obtain ⟨rfl, rfl⟩ := e
    exact q1
/-- What Diff answers of two maps. -/
def diffR (A B : List PairT × Int) : List ChT × Int := if A.2 ≠ 0 then ([], A.2) else if B.2 ≠ 0 then ([], B.2) else (chg A.1 B.1, 0)
def DiffAt (X : List ChT × Int) (w : World) (e : Ending) (w' : World) : Prop := ∃ a c, e = .returned (.tuple #[.slice a X.1.length c, .int .i64 X.2]) ∧ OwnC w X.1 a X.1.length c w'
theorem DiffAt.nil {w w' : World} (x : Int) (hb : Below w.heap.size w w') : DiffAt ([], x) w (.returned (.tuple #[.slice none 0 0, .int .i64 x])) w' := ⟨none, 0, rfl, (OwnC.none w').up hb⟩
theorem DiffAt.up {X : List ChT × Int} {w w1 w' : World} {e : Ending} (h : DiffAt X w1 e w') (hb : Below w.heap.size w w1) : ∃ a c, e = .returned (.tuple #[.slice a X.1.length c, .int .i64 X.2]) ∧ DiffAt X w e w' := by
  obtain ⟨a, c, he, ho⟩ := h
  exact ⟨a, c, he, a, c, he, ho.up hb⟩
/-- What a loading gives: few pairs, small ones. -/
def Lok (A : List PairT × Int) : Prop := A.1.length ≤ 500 ∧ SmallP A.1
set_option maxRecDepth 100000 in
set_option maxHeartbeats 1000000 in
theorem diff_any (A B : List PairT × Int) (a b : ByteArray) (sb : Nat) (w : World) (hA : Lok A) (hB : Lok B)
    (H1 : Hid (∀ w', Below w.heap.size w w' → Calls Tryz.prog 69 #[.pointer (some ⟨sb, 0, none⟩), .string a] w' (RangeAt A w')))
    (H2 : Hid (∀ w', Below w.heap.size w w' → Calls Tryz.prog 69 #[.pointer (some ⟨sb, 0, none⟩), .string b] w' (RangeAt B w'))) :
    Calls Tryz.prog 85 #[.pointer (some ⟨sb, 0, none⟩), .string a, .string b] w (DiffAt (diffR A B) w) := by
  obtain ⟨P, x⟩ := A
  obtain ⟨Q, y⟩ := B
  unfold diffR
  simp only
  by_cases hx : x = 0
  · subst hx
    rw [if_neg (by simp)]
    by_cases hy : y = 0
    · subst hy
      rw [if_neg (by simp)]
      have HB : Hid (∀ w1 w2 a1 c1 a2 c2, Below w.heap.size w w1 → OwnP w1 P a1 P.length c1 w1 ∨ True → w1.ownsRow w.heap.size 34 2 (.slice a1 P.length c1) P.length (flatP P) → Below w1.heap.size w1 w2 → w2.ownsRow w1.heap.size 34 2 (.slice a2 Q.length c2) Q.length (flatP Q) → Calls Tryz.prog 130 #[.slice a1 P.length c1, .slice a2 Q.length c2] w2 (ChAt (chg P Q) w2)) := fun w1 w2 a1 c1 a2 c2 hb1 _ ho1 hb2 ho2 =>
        between_any a1 a2 P Q c1 c2 w2 ((own_parg ho1 hA.2).below hb2) (own_parg ho2 hB.2) hA.1 hB.1 (own_cap ho1) (own_cap ho2)
      have HF : Hid (∀ w2 w3 a3 c3, Below w.heap.size w w2 → OwnC w2 (chg P Q) a3 (chg P Q).length c3 w3 → DiffAt (chg P Q, 0) w (.returned (.tuple #[.slice a3 (chg P Q).length c3, .int .i64 0])) w3) := fun w2 w3 a3 c3 hb ho => ⟨a3, c3, rfl, ho.up hb⟩
      generalize chg P Q = CH at HB HF ⊢
      go_enter Tryz.func85, Tryz.ntmps85
      go_wp2_with fail
      refine (H1.out _ (Below.refl _ _)).mono ?_
      rintro e w1 ⟨⟨a1, c1, rfl, ho1⟩, hb1⟩
      simp only at ho1
      go_wp2_with fail
      refine (H2.out _ hb1).mono ?_
      rintro e w2 ⟨⟨a2, c2, rfl, ho2⟩, hb2⟩
      simp only at ho2
      have hb12 := hb1.trans (hb2.mono hb1.size)
      have HB' := HB.out w1 w2 a1 c1 a2 c2 hb1 (.inr trivial) ho1 hb2 ho2
      go_wp2_with (first | (go_at_call 130; refine HB'.mono ?_; rintro e w3 ⟨a3, c3, rfl, ho3⟩))
      go_ret2
      exact HF.out _ _ _ _ hb12 ho3
    · rw [if_pos hy]
      have HN : Hid (∀ w', Below w.heap.size w w' → DiffAt ([], y) w (.returned (.tuple #[.slice none 0 0, .int .i64 y])) w') := fun w' hb => DiffAt.nil y hb
      have z1 : (y == 0) = false := by simpa using hy
      go_enter Tryz.func85, Tryz.ntmps85
      go_wp2_with fail
      refine (H1.out _ (Below.refl _ _)).mono ?_
      rintro e w1 ⟨⟨a1, c1, rfl, ho1⟩, hb1⟩
      go_wp2_with fail
      refine (H2.out _ hb1).mono ?_
      rintro e w2 ⟨⟨a2, c2, rfl, ho2⟩, hb2⟩
      have hb12 := hb1.trans (hb2.mono hb1.size)
      go_wp2_with fail
      go_ret2
      exact HN.out _ hb12
  · rw [if_pos hx]
    have HN : Hid (∀ w', Below w.heap.size w w' → DiffAt ([], x) w (.returned (.tuple #[.slice none 0 0, .int .i64 x])) w') := fun w' hb => DiffAt.nil x hb
    have z1 : (x == 0) = false := by simpa using hx
    go_enter Tryz.func85, Tryz.ntmps85
    go_wp2_with fail
    refine (H1.out _ (Below.refl _ _)).mono ?_
    rintro e w1 ⟨⟨a1, c1, rfl, ho1⟩, hb1⟩
    go_wp2_with fail
    go_ret2
    exact HN.out _ hb1
end Go.Proofs.YtfmpjlpakldheaaGreatDoor
namespace Go.Proofs.YtfmpjlpakldheaaGreatDoor
open Go.RowKit Go.Proofs.Sha

theorem ku_step : ∀ {cs : List ChT}, KeysUp (cs.map (·.1)) → ∀ k, k + 1 < cs.length → lessB (cs.getD k noCh).1 (cs.getD (k + 1) noCh).1 = true
  | [], _, k, h => absurd h (Nat.not_lt_zero _)
  | [c], _, k, h => by simp at h
  | c :: d :: cs, hu, 0, _ => hu.1 d.1 List.mem_cons_self
  | c :: d :: cs, hu, k + 1, h => ku_step (cs := d :: cs) hu.2 k (by simpa using h)
theorem DiffAt.carg {X : List ChT × Int} {w w' : World} {e : Ending} (hl : X.1.length ≤ 1048576) (hs : ∀ x ∈ X.1, x.1.size ≤ 1048576 ∧ x.2.2.2.2.size ≤ 1048576) (h : DiffAt X w e w') : ∃ a c, e = .returned (.tuple #[.slice a X.1.length c, .int .i64 X.2]) ∧ CArg a X.1 w' ∧ Below w.heap.size w w' := by
  obtain ⟨a, c, rfl, ho⟩ := h
  exact ⟨a, c, rfl, ho.carg hl hs, ho.bel⟩
set_option maxRecDepth 100000 in
set_option maxHeartbeats 4000000 in
theorem diff_walk (a : Option Addr) (xs : List Nat) (cap : Nat) (n : Int) (ss : List ByteArray) (r1 r2 : ByteArray) (C B : List ChT) (PA QB : List PairT) (x xb pa qb : Int) (w : World) (hL : xs.length ≤ 1048576) (hB : BL a xs w) (hK : KT w)
    (HDw : ∀ w, BL a xs w → Calls Tryz.prog 32 #[.slice a xs.length cap] w (DGot n ss r1 r2 w))
    (HSD : ∀ w ap cp, SArg ap ss w → Calls Tryz.prog 33 #[.agg #[.int .i64 n, .slice ap ss.length cp], .string r1, .string r2] w (DiffAt (C, x) w))
    (HID : ∀ w ap cp, SArg ap ss w → KT w → Calls Tryz.prog 34 #[.agg #[.int .i64 n, .slice ap ss.length cp], .string r1, .string r2] w (DiffAt (C, x) w))
    (HIB : ∀ w ap cp, SArg ap ss w → KT w → Calls Tryz.prog 34 #[.agg #[.int .i64 n, .slice ap ss.length cp], .string r2, .string r1] w (DiffAt (B, xb) w))
    (HL1 : ∀ w ap cp, SArg ap ss w → Calls Tryz.prog 26 #[.agg #[.int .i64 n, .slice ap ss.length cp], .string r1] w (RangeAt (PA, pa) w))
    (HL2 : ∀ w ap cp, SArg ap ss w → Calls Tryz.prog 26 #[.agg #[.int .i64 n, .slice ap ss.length cp], .string r2] w (RangeAt (QB, qb) w))
    (hC1 : C.length ≤ 10000) (hC2 : ∀ x ∈ C, x.1.size ≤ 1048576 ∧ x.2.2.2.2.size ≤ 1048576) (hB1 : B.length ≤ 10000) (hB2 : ∀ x ∈ B, x.1.size ≤ 1048576 ∧ x.2.2.2.2.size ≤ 1048576)
    (hPs : SmallP PA) (hPl : PA.length ≤ 10000) (hQs : SmallP QB) (hQl : QB.length ≤ 10000)
    (hbad : ¬ (pa = 0 ∧ qb = 0) → C = []) (hgood : pa = 0 → qb = 0 → xb = 0 ∧ KeysUp (C.map (·.1)) ∧ (∀ c ∈ C, ¬ (c.2.1 = c.2.2.2.1 ∧ c.2.2.1 = c.2.2.2.2)) ∧ appl PA C = QB ∧ appl QB B = PA) :
    Calls Tryz.prog 7 #[.slice a xs.length cap] w fun e w' => e = .returned (.bool true) ∧ Below w.heap.size w w' := by
  have H1 : Hid (∀ w', Below w.heap.size w w' → Calls Tryz.prog 32 #[.slice a xs.length cap] w' (DGot n ss r1 r2 w')) := fun w' hb => HDw w' (hB.below hb)
  unfold DGot at H1
  have z0 : decide ((1048576 : Int) < (xs.length : Int)) = false := by simp; omega
  obtain ⟨L, hLL⟩ : ∃ L, xs.length = L := ⟨_, rfl⟩
  rw [hLL] at H1 z0 hL ⊢
  clear hLL
  obtain ⟨N, hN⟩ : ∃ N, ss.length = N := ⟨_, rfl⟩
  rw [hN] at H1 HSD HID HIB HL1 HL2
  clear HDw
  obtain ⟨M, hM⟩ : ∃ M, C.length = M := ⟨_, rfl⟩
  obtain ⟨Mb, hMb⟩ : ∃ M, B.length = M := ⟨_, rfl⟩
  obtain ⟨Mp, hMp⟩ : ∃ M, PA.length = M := ⟨_, rfl⟩
  obtain ⟨Mq, hMq⟩ : ∃ M, QB.length = M := ⟨_, rfl⟩
  have JSD : Hid (∀ w' ap cp, SArg ap ss w' → Calls Tryz.prog 33 #[.agg #[.int .i64 n, .slice ap N cp], .string r1, .string r2] w' fun e w'' => ∃ a c, e = .returned (.tuple #[.slice a M c, .int .i64 x]) ∧ CArg a C w'' ∧ Below w'.heap.size w' w'') := fun w' ap cp h => (HSD w' ap cp h).mono fun e w'' q => by have := q.carg (by simp only; omega) hC2; simp only [hM] at this; exact this
  have JID : Hid (∀ w' ap cp, SArg ap ss w' → KT w' → Calls Tryz.prog 34 #[.agg #[.int .i64 n, .slice ap N cp], .string r1, .string r2] w' fun e w'' => ∃ a c, e = .returned (.tuple #[.slice a M c, .int .i64 x]) ∧ CArg a C w'' ∧ Below w'.heap.size w' w'') := fun w' ap cp h hk => (HID w' ap cp h hk).mono fun e w'' q => by have := q.carg (by simp only; omega) hC2; simp only [hM] at this; exact this
  have JIB : Hid (∀ w' ap cp, SArg ap ss w' → KT w' → Calls Tryz.prog 34 #[.agg #[.int .i64 n, .slice ap N cp], .string r2, .string r1] w' fun e w'' => ∃ a c, e = .returned (.tuple #[.slice a Mb c, .int .i64 xb]) ∧ CArg a B w'' ∧ Below w'.heap.size w' w'') := fun w' ap cp h hk => (HIB w' ap cp h hk).mono fun e w'' q => by have := q.carg (by simp only; omega) hB2; simp only [hMb] at this; exact this
  have JL1 : Hid (∀ w' ap cp, SArg ap ss w' → Calls Tryz.prog 26 #[.agg #[.int .i64 n, .slice ap N cp], .string r1] w' fun e w'' => ∃ a c, e = .returned (.tuple #[.slice a Mp c, .int .i64 pa]) ∧ PArg a PA w'' ∧ Below w'.heap.size w' w'') := fun w' ap cp h => (HL1 w' ap cp h).mono fun e w'' q => by have := q.parg hPs; simp only [hMp] at this; exact this
  have JL2 : Hid (∀ w' ap cp, SArg ap ss w' → Calls Tryz.prog 26 #[.agg #[.int .i64 n, .slice ap N cp], .string r2] w' fun e w'' => ∃ a c, e = .returned (.tuple #[.slice a Mq c, .int .i64 qb]) ∧ PArg a QB w'' ∧ Below w'.heap.size w' w'') := fun w' ap cp h => (HL2 w' ap cp h).mono fun e w'' q => by have := q.parg hQs; simp only [hMq] at this; exact this
  have KP : Hid (∀ w' a b c d, PArg a PA w' → PArg b PA w' → Calls Tryz.prog 22 #[.slice a Mp c, .slice b Mp d] w' fun e w'' => e = .returned (.bool true) ∧ Below w'.heap.size w' w'') := fun w' a b c d h1 h2 => by
    have := wsame_any a b PA PA c d w' h1 h2
    rw [hMp, decide_eq_true rfl] at this
    exact this
  have KQ : Hid (∀ w' a b c d, PArg a QB w' → PArg b QB w' → Calls Tryz.prog 22 #[.slice a Mq c, .slice b Mq d] w' fun e w'' => e = .returned (.bool true) ∧ Below w'.heap.size w' w'') := fun w' a b c d h1 h2 => by
    have := wsame_any a b QB QB c d w' h1 h2
    rw [hMq, decide_eq_true rfl] at this
    exact this
  have KA : Hid (pa = 0 → qb = 0 → ∀ w' a b c d, PArg a PA w' → CArg b C w' → Calls Tryz.prog 36 #[.slice a Mp c, .slice b M d] w' fun e w'' => ∃ a' c', e = .returned (.slice a' Mq c') ∧ PArg a' QB w'' ∧ Below w'.heap.size w' w'') := fun h1 h2 w' a b c d h3 h4 => by
    have := wapplied_any a PA c b C d w' h3 h4 hPl hC1
    rw [(hgood h1 h2).2.2.2.1, hMp, hM, hMq] at this
    exact this
  have KB : Hid (pa = 0 → qb = 0 → ∀ w' a b c d, PArg a QB w' → CArg b B w' → Calls Tryz.prog 36 #[.slice a Mq c, .slice b Mb d] w' fun e w'' => ∃ a' c', e = .returned (.slice a' Mp c') ∧ PArg a' PA w'' ∧ Below w'.heap.size w' w'') := fun h1 h2 w' a b c d h3 h4 => by
    have := wapplied_any a QB c b B d w' h3 h4 hQl hB1
    rw [(hgood h1 h2).2.2.2.2, hMq, hMb, hMp] at this
    exact this
  have G0 : Hid (pa = 0 → qb = 0 → xb = 0) := fun h1 h2 => (hgood h1 h2).1
  have G1 : Hid (pa = 0 → qb = 0 → ∀ k, k + 1 < M → lessB (C.getD k noCh).1 (C.getD (k + 1) noCh).1 = true) := fun h1 h2 k hk => ku_step (hgood h1 h2).2.1 k (by omega)
  have G2 : Hid (pa = 0 → qb = 0 → ∀ k, k < M → ¬ ((C.getD k noCh).2.1 = (C.getD k noCh).2.2.2.1 ∧ (C.getD k noCh).2.2.1 = (C.getD k noCh).2.2.2.2)) := fun h1 h2 k hk => (hgood h1 h2).2.2.1 _ (by rw [List.getD_eq_getElem?_getD, List.getElem?_eq_getElem (by omega : k < C.length)]; exact List.getElem_mem _)
  have G3 : Hid (¬ (pa = 0 ∧ qb = 0) → M = 0) := fun h => by rw [← hM, hbad h]; rfl
  have hKh : Hid (KT w) := hK
  have hMl : Hid (C.length = M) := hM
  have hM1 : M ≤ 10000 := by omega
  clear HSD HID HIB HL1 HL2 hM hMb hMp hMq hbad hgood hK hB hN hC1 hC2 hB1 hB2 hPs hPl hQs hQl
  go_enter Tryz.func7, Tryz.ntmps7
  go_upto_region 4 with (first | (go_at_call 32; refine (H1.out _ (Below.refl _ _)).mono ?_; rintro e w1 ⟨ap1, cp1, rfl, hS1, hb1⟩))
  have al : Below w1.heap.size w1 (w1.alloc (.cells #[.int .i64 n, .slice ap1 N cp1] 37)) := (Below.refl _ _).alloc (Nat.le_refl _) _
  have nA := heap_alloc_new w1 (.cells #[.int .i64 n, .slice ap1 N cp1] 37)
  have hSA := hS1.below al
  have hbA := hb1.trans (al.mono hb1.size)
  generalize w1.alloc (.cells #[.int .i64 n, .slice ap1 N cp1] 37) = wA at nA hSA hbA ⊢
  obtain ⟨gp, hgp⟩ : ∃ g, w1.heap.size = g := ⟨_, rfl⟩
  rw [hgp] at nA
  try rw [hgp]
  clear hgp al hS1 hb1
  go_upto_region 5 with (first | (go_at_call 32; refine (H1.out _ hbA).mono ?_; rintro e w2 ⟨ap2, cp2, rfl, hS2, hb2⟩))
  have al : Below w2.heap.size w2 (w2.alloc (.cells #[.int .i64 n, .slice ap2 N cp2] 37)) := (Below.refl _ _).alloc (Nat.le_refl _) _
  have hbAB := hb2.trans (al.mono hb2.size)
  have nQ := heap_alloc_new w2 (.cells #[.int .i64 n, .slice ap2 N cp2] 37)
  have nP := pblk_below hbAB nA
  have hSq := hS2.below al
  have hSp := hSA.below hbAB
  have hbB := hbA.trans (hbAB.mono hbA.size)
  generalize w2.alloc (.cells #[.int .i64 n, .slice ap2 N cp2] 37) = wB at nQ nP hSq hSp hbB ⊢
  obtain ⟨gq, hgq⟩ : ∃ g, w2.heap.size = g := ⟨_, rfl⟩
  rw [hgq] at nQ
  try rw [hgq]
  clear hgq al hS2 hb2 hSA hbA hbAB nA H1
  have hKB : Hid (KT wB) := hKh.out.below hbB
  clear hKh
  have q0 := Lib.cell_of_heap nQ 0
  have q1 := Lib.cell_of_heap nQ 1
  go_upto_region 6 with (first | (go_at_call 33; refine (JSD.out _ ap2 cp2 hSq).mono ?_; rintro e w3 ⟨a3, c3, rfl, _, hb3⟩))
  clear q0 q1 JSD
  have nP3 := pblk_below hb3 nP
  have p0 := Lib.cell_of_heap nP3 0
  have p1 := Lib.cell_of_heap nP3 1
  have zx : ((x : Int) != x) = false := by simp
  have zx' : ((x : Int) == x) = true := by simp
  go_upto_region 9 with (first | (go_at_call 34; refine (JID.out _ ap1 cp1 (hSp.below hb3) (hKB.out.below hb3)).mono ?_; rintro e w4 ⟨a4, c4, rfl, hC4, hb4'⟩; have hb4 := hb3.trans (hb4'.mono hb3.size)))
  clear p0 p1 JID nP3 hb3 hb4' zx zx'
  have nQ4 := pblk_below hb4 nQ
  have q0 := Lib.cell_of_heap nQ4 0
  have q1 := Lib.cell_of_heap nQ4 1
  go_upto_region 10 with (first | (go_at_call 26; refine (JL1.out _ ap2 cp2 (hSq.below hb4)).mono ?_; rintro e w5 ⟨a5, c5, rfl, hP5, hb5'⟩; have hb5 := hb4.trans (hb5'.mono hb4.size); have hC5 := hC4.below hb5'))
  clear q0 q1 JL1 nQ4 hb4 hb5' hC4
  have nQ5 := pblk_below hb5 nQ
  have q0 := Lib.cell_of_heap nQ5 0
  have q1 := Lib.cell_of_heap nQ5 1
  go_upto_region 11 with (first | (go_at_call 26; refine (JL2.out _ ap2 cp2 (hSq.below hb5)).mono ?_; rintro e w6 ⟨a6, c6, rfl, hQ6, hb6'⟩; have hb6 := hb5.trans (hb6'.mono hb5.size); have hC6 := hC5.below hb6'; have hP6 := hP5.below hb6'))
  clear q0 q1 JL2 nQ5 hb5 hb6' hC5 hP5 hSq nQ
  have hbw6 := hbB.trans (hb6.mono hbB.size)
  by_cases hpa : pa = 0
  · by_cases hqb : qb = 0
    · have hxb := G0.out hpa hqb
      subst hpa hqb hxb
      have KA' : Hid _ := KA.out rfl rfl
      have KB' : Hid _ := KB.out rfl rfl
      have G1' : Hid _ := G1.out rfl rfl
      have G2' : Hid _ := G2.out rfl rfl
      clear KA KB G0 G3 G1 G2
      go_wp2_with fail
      go_loopw [17] (fun t wr => ∃ k : Nat, k ≤ M ∧ t = .int .i64 (k : Int) ∧ Below w6.heap.size w6 wr) (fun t _ => M - (intOf t).toNat)
      case atStart => exact ⟨0, Nat.zero_le _, rfl, Below.refl _ _⟩
      case round =>
        obtain ⟨k, hk, rfl, hbw⟩ := hrel
        by_cases hlt : k < M
        · have z1 : decide ((k : Int) < (M : Int)) = true := by simp; omega
          have hx0 : (0 : Int) ≤ (k : Int) := Int.natCast_nonneg _
          have hx1 : (k : Int) < (M : Int) := by omega
          obtain ⟨b1, off1, rfl, hbl1, hc⟩ := hC6.at_ (by rw [hMl.out]; omega)
          obtain ⟨h61, h62, h63, h64, h65⟩ := hc k (by rw [hMl.out]; exact hlt)
          have hszk := (hC6.sz k).1
          have hg2 : Hid _ := G2'.out k hlt
          obtain ⟨p, hpe'⟩ : ∃ p, C.getD k noCh = p := ⟨_, rfl⟩
          have hpe : Hid (C.getD k noCh = p) := hpe'
          rw [hpe'] at h61 h62 h63 h64 h65 hszk hg2
          clear hpe'
          obtain ⟨pk, p1, p2, p3, p4⟩ := p
          simp only at h61 h62 h63 h64 h65 hszk hg2
          have hk1 := (hbw.cell (p := ⟨b1, off1 + k * 5, none⟩) hbl1).trans h61
          by_cases hk0 : k = 0
          · have y0 : ¬ (0 < (k : Int)) := by omega
            have y1 : decide (0 < (k : Int)) = false := by rw [decide_eq_false_iff_not]; exact y0
            have y2 : ¬ (0 < k) := by omega
            have y3 : decide (0 < k) = false := by rw [decide_eq_false_iff_not]; exact y2
            clear hc hk0
            go_upto_region 16 with fail
            go_quiet (fail)
            go_upto_region 18 with fail
            have hbq := below_draws nq hbw
            generalize wr.drewN nq = W2 at hbq ⊢
            have hc2 := (hbq.cell (p := ⟨b1, off1 + k * 5 + 1, none⟩) hbl1).trans h62
            have hc3 := (hbq.cell (p := ⟨b1, off1 + k * 5 + 2, none⟩) hbl1).trans h63
            have hc4 := (hbq.cell (p := ⟨b1, off1 + k * 5 + 3, none⟩) hbl1).trans h64
            have hc5 := (hbq.cell (p := ⟨b1, off1 + k * 5 + 4, none⟩) hbl1).trans h65
            clear h61 h62 h63 h64 h65
            cases p1 with
            | true => cases p3 with
              | true =>
                have zz : (p2.toList == p4.toList) = false := by rw [ba_eq, decide_eq_false (fun e => hg2.out ⟨rfl, e⟩)]
                go_quiet (fail)
                go_wp2_with fail
                go_roundw
                case rel => exact ⟨k + 1, hlt, by go_num, below_draws _ hbq⟩
                case measure => simp [intOf]; omega
              | false =>
                go_quiet (fail)
                go_wp2_with fail
                go_roundw
                case rel => exact ⟨k + 1, hlt, by go_num, below_draws _ hbq⟩
                case measure => simp [intOf]; omega
            | false => cases p3 with
              | true =>
                go_quiet (fail)
                go_wp2_with fail
                go_roundw
                case rel => exact ⟨k + 1, hlt, by go_num, below_draws _ hbq⟩
                case measure => simp [intOf]; omega
              | false =>
                have zz : (p2.toList == p4.toList) = false := by rw [ba_eq, decide_eq_false (fun e => hg2.out ⟨rfl, e⟩)]
                go_quiet (fail)
                go_wp2_with fail
                go_roundw
                case rel => exact ⟨k + 1, hlt, by go_num, below_draws _ hbq⟩
                case measure => simp [intOf]; omega
          · have y0 : 0 < (k : Int) := by omega
            have y1 : decide (0 < (k : Int)) = true := by rw [decide_eq_true_eq]; exact y0
            have y2 : 0 < k := by omega
            have y3 : decide (0 < k) = true := by rw [decide_eq_true_eq]; exact y2
            have hd1 := (hbw.cell (p := ⟨b1, off1 + (k - 1) * 5, none⟩) hbl1).trans (hc (k - 1) (by rw [hMl.out]; omega)).1
            have hs3 := (hC6.sz (k - 1)).1
            have hg1 := G1'.out (k - 1) (by omega)
            rw [show k - 1 + 1 = k by omega, hpe.out] at hg1
            generalize (C.getD (k - 1) noCh).1 = pl at hd1 hs3 hg1
            simp only at hg1
            have H2 : Hid (∀ w', Calls Tryz.prog 35 #[.string pl, .string pk] w' fun e w'' => e = .returned (.bool true) ∧ ∃ m, w'' = w'.drewN m) := fun w' => by
              have := wless_q pl pk w' hs3 hszk
              rw [hg1] at this
              exact this
            have x0 : (0 : Int) ≤ (k : Int) - 1 := by omega
            have x1 : (k : Int) - 1 < (M : Int) := by omega
            have x2 : ((k : Int) - 1).toNat = k - 1 := by omega
            have x3 : wrap64 ((k : Int) - 1) = (k : Int) - 1 := by unfold wrap64; omega
            clear hc hg1 hs3
            go_upto_region 16 with fail
            go_quiet (first | (go_at_call 35; exact Calls.quiet_of (H2.out _)))
            go_upto_region 18 with fail
            have hbq := below_draws nq hbw
            generalize wr.drewN nq = W2 at hbq ⊢
            have hc2 := (hbq.cell (p := ⟨b1, off1 + k * 5 + 1, none⟩) hbl1).trans h62
            have hc3 := (hbq.cell (p := ⟨b1, off1 + k * 5 + 2, none⟩) hbl1).trans h63
            have hc4 := (hbq.cell (p := ⟨b1, off1 + k * 5 + 3, none⟩) hbl1).trans h64
            have hc5 := (hbq.cell (p := ⟨b1, off1 + k * 5 + 4, none⟩) hbl1).trans h65
            clear h61 h62 h63 h64 h65
            cases p1 with
            | true => cases p3 with
              | true =>
                have zz : (p2.toList == p4.toList) = false := by rw [ba_eq, decide_eq_false (fun e => hg2.out ⟨rfl, e⟩)]
                go_quiet (fail)
                go_wp2_with fail
                go_roundw
                case rel => exact ⟨k + 1, hlt, by go_num, below_draws _ hbq⟩
                case measure => simp [intOf]; omega
              | false =>
                go_quiet (fail)
                go_wp2_with fail
                go_roundw
                case rel => exact ⟨k + 1, hlt, by go_num, below_draws _ hbq⟩
                case measure => simp [intOf]; omega
            | false => cases p3 with
              | true =>
                go_quiet (fail)
                go_wp2_with fail
                go_roundw
                case rel => exact ⟨k + 1, hlt, by go_num, below_draws _ hbq⟩
                case measure => simp [intOf]; omega
              | false =>
                have zz : (p2.toList == p4.toList) = false := by rw [ba_eq, decide_eq_false (fun e => hg2.out ⟨rfl, e⟩)]
                go_quiet (fail)
                go_wp2_with fail
                go_roundw
                case rel => exact ⟨k + 1, hlt, by go_num, below_draws _ hbq⟩
                case measure => simp [intOf]; omega
        · obtain rfl : k = M := by omega
          have z1 : decide ((k : Int) < (k : Int)) = false := by simp
          have hb7 := hb6.trans (hbw.mono hb6.size)
          have nP7 := pblk_below hb7 nP
          have p0 := Lib.cell_of_heap nP7 0
          have p1 := Lib.cell_of_heap nP7 1
          have hbw7 := hbw6.trans (hbw.mono hbw6.size)
          have hC7 := hC6.below hbw
          have hP7 := hP6.below hbw
          have hQ7 := hQ6.below hbw
          clear G1' G2'
          go_upto_region 21 with (first | (go_at_call 34; refine (JIB.out _ ap1 cp1 (hSp.below hb7) (hKB.out.below hb7)).mono ?_; rintro e w8 ⟨a8, c8, rfl, hB8, hb8'⟩; have hb8 := hbw7.trans (hb8'.mono hbw7.size); have hC8 := hC7.below hb8'; have hP8 := hP7.below hb8'; have hQ8 := hQ7.below hb8'))
          clear p0 p1 nP7 JIB hC7 hP7 hQ7 hbw7 hb7
          go_wp2_with (first | (go_at_call_of 36 (Value.slice a5 Mp c5); refine (KA'.out _ a5 a4 c5 c4 hP8 hC8).mono ?_; rintro e w9 ⟨a9, c9, rfl, hX9, hb9'⟩; have hb9 := hb8.trans (hb9'.mono hb8.size); have hP9 := hP8.below hb9'; have hQ9 := hQ8.below hb9'; have hB9 := hB8.below hb9') | (go_at_call_of 22 (Value.slice a9 Mq c9); refine (KQ.out _ a9 a6 c9 c6 hX9 hQ9).mono ?_; rintro e w10 ⟨rfl, hb10'⟩; have hb10 := hb9.trans (hb10'.mono hb9.size); have hP10 := hP9.below hb10'; have hQ10 := hQ9.below hb10'; have hB10 := hB9.below hb10') | (go_at_call_of 36 (Value.slice a6 Mq c6); refine (KB'.out _ a6 a8 c6 c8 hQ10 hB10).mono ?_; rintro e w11 ⟨a11, c11, rfl, hX11, hb11'⟩; have hb11 := hb10.trans (hb11'.mono hb10.size); have hP11 := hP10.below hb11') | (go_at_call_of 22 (Value.slice a11 Mp c11); refine (KP.out _ a11 a5 c11 c5 hX11 hP11).mono ?_; rintro e w12 ⟨rfl, hb12'⟩; have hb12 := hb11.trans (hb12'.mono hb11.size)))
          go_ret
          exact ⟨rfl, hb12⟩
    · subst hpa
      have hM0 := G3.out (fun q => hqb q.2)
      have zq : ((qb : Int) != 0) = true := by simp [hqb]
      have zq' : ((qb : Int) == 0) = false := by simp [hqb]
      have zM : ((M : Int) == 0) = true := by simp [hM0]
      clear hM0 G3
      go_wp2_with fail
      go_ret
      exact ⟨rfl, hbw6⟩
  · have hM0 := G3.out (fun q => hpa q.1)
    have zq : ((pa : Int) != 0) = true := by simp [hpa]
    have zq' : ((pa : Int) == 0) = false := by simp [hpa]
    have zM : ((M : Int) == 0) = true := by simp [hM0]
    clear hM0 G3
    go_wp2_with fail
    go_ret
    exact ⟨rfl, hbw6⟩
end Go.Proofs.YtfmpjlpakldheaaGreatDoor
namespace Go.Proofs.YtfmpjlpakldheaaGreatDoor
open Go.RowKit Go.Proofs.Sha

end Go.Proofs.YtfmpjlpakldheaaGreatDoor
namespace Go.Proofs.YtfmpjlpakldheaaGreatDoor
open Go.RowKit Go.Proofs.Sha

/-- One reading of nodes that is both the program's and the model's. -/
theorem dec_both (n : Int) : ∃ D : Dec, (∀ wd : Nat, (wd : Int) = n → DecOk wd D) ∧ Hid (∀ wd : Nat, (wd : Int) = n → 1 ≤ wd → wd ≤ 32 → DecSaid 181 wd D) ∧ Hid (∀ wd : Nat, (wd : Int) = n → 1 ≤ wd → wd ≤ 32 → DecSaid 148 wd D) := by
  obtain ⟨f, hf⟩ := Classical.axiomOfChoice (dec_ex n)
  obtain ⟨D, hD⟩ : ∃ D : Dec, D = ⟨fun s => (f s).1, fun s => (f s).2.1, fun s => (f s).2.2.1, fun s => (f s).2.2.2.1, fun s => (f s).2.2.2.2⟩ := ⟨_, rfl⟩
  refine ⟨D, fun wd hwd s hs => ?_, ?_, ?_⟩
  · have h1 := hf s
    rw [hD] at hs
    simp only at hs
    rw [hs] at h1
    have h2 := nodeOk_out (decOk_of h1)
    rw [hD]
    simp only
    unfold okKey okVal
    refine ⟨decide_eq_true (by omega), decide_eq_true (by omega), by omega, by omega⟩
  · intro wd hwd _ _ s w' hs
    refine (dec_impl s wd w' hs).mono ?_
    rintro e w'' ⟨h1, hb⟩
    rw [hwd] at h1
    rw [hD]
    exact ⟨h1.one (hf s), hb⟩
  · intro wd hwd _ _ s w' hs
    refine (dec_any s wd w' hs).mono ?_
    rintro e w'' ⟨h1, hb⟩
    rw [hwd] at h1
    rw [hD]
    exact ⟨h1.one (hf s), hb⟩
theorem u8_wf {x : Int} (h : (Lit.int .u8 x).wf = true) : 0 ≤ x ∧ x < 256 := by
  have e1 : IntKind.u8.min = 0 := rfl
  have e2 : IntKind.u8.max = 255 := rfl
  unfold Lit.wf at h
  rw [Bool.and_eq_true, decide_eq_true_eq, decide_eq_true_eq, e1, e2] at h
  omega
/-- The code, as numbers. -/
theorem BL.of {a : Option Addr} {xs : List Int} {w : World} (hl : xs.length ≤ 1048576) (hw : ∀ x ∈ xs, (Lit.int .u8 x).wf = true)
    (h : 0 < xs.length → ∃ b off : Nat, a = some ⟨b, off, none⟩ ∧ b < w.heap.size ∧ ∀ j, j < xs.length → w.cell? ⟨b, off + j, none⟩ = some (.int .u8 (xs.getD j 0))) : ∃ ys : List Nat, ys.length = xs.length ∧ Code8 ys ∧ BL a ys w := by
  have hg : ∀ j, (xs.map Int.toNat).getD j 0 = (xs.getD j 0).toNat := fun j => by
    rw [List.getD_eq_getElem?_getD, List.getD_eq_getElem?_getD, List.getElem?_map]
    cases xs[j]? <;> rfl
  have hm : ∀ j, 0 ≤ xs.getD j 0 ∧ xs.getD j 0 < 256 := fun j => by
    by_cases hj : j < xs.length
    · have : xs.getD j 0 ∈ xs := by
        rw [List.getD_eq_getElem?_getD, List.getElem?_eq_getElem hj]
        exact List.getElem_mem hj
      exact u8_wf (hw _ this)
    · rw [List.getD_eq_getElem?_getD, List.getElem?_eq_none (by omega)]
      exact ⟨Int.le_refl _, by decide⟩
  refine ⟨xs.map Int.toNat, List.length_map _, ⟨by rw [List.length_map]; exact hl, fun j => ?_⟩, ⟨fun hp => ?_⟩⟩
  · rw [hg]
    have := hm j
    omega
  · rw [List.length_map] at hp
    obtain ⟨b, off, ha, hlt, hc⟩ := h hp
    refine ⟨b, off, ha, hlt, fun j hj => ?_⟩
    rw [List.length_map] at hj
    rw [hc j hj, hg, Int.toNat_of_nonneg (hm j).1]
end Go.Proofs.YtfmpjlpakldheaaGreatDoor
namespace Go.Proofs.YtfmpjlpakldheaaGreatDoor
open Go.RowKit Go.Proofs.Sha

end Go.Proofs.YtfmpjlpakldheaaGreatDoor
namespace Go.Proofs.YtfmpjlpakldheaaGreatDoor
open Go.RowKit Go.Proofs.Sha

theorem digSaid : DigSaid := fun t k w' ht h1 h2 => sdig_yes t k w' ht h1 h2
end Go.Proofs.YtfmpjlpakldheaaGreatDoor
