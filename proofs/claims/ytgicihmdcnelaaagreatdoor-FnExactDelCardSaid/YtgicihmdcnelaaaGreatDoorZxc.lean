import Derived.Test.YtgicihmdcnelaaaGreatDoorZxb
import Derived.Test.YtgicihmdcnelaaaGreatDoorZbf
import Derived.Test.YtgicihmdcnelaaaGreatDoorZbd
import Derived.Test.YtgicihmdcnelaaaGreatDoorZaq
import Derived.Test.YtgicihmdcnelaaaGreatDoorZbl
namespace Go.Proofs.YtgicihmdcnelaaaGreatDoor
open Go.RowKit Go.Proofs.Sha

set_option maxRecDepth 100000 in
theorem around_any (key : ByteArray) (hk : key.size ≤ 1048576) (n0 : Nat) (t : Tr PairT) (p : Option Addr) (w : World) (h0 : n0 ≤ w.heap.size) (ht : TA n0 bare t p w) :
    Calls Tryz.prog 73 #[.pointer p, .string key] w fun e w' => ∃ pl pr, e = .returned (.tuple #[.pointer pl, .pointer pr]) ∧ TA n0 bare (Tr.around key t).1 pl w' ∧ TA n0 bare (Tr.around key t).2 pr w' ∧ Below w.heap.size w w' := by
  have H1 := split_any key n0 t p w h0 ht
  have H2 : Hid (∀ q w', Below w.heap.size w w' → TA n0 bare (Tr.cut key t).2 q w' → Calls Tryz.prog 96 #[.pointer q, .string (zeroK key)] w' fun e w'' => ∃ pl pr, e = .returned (.tuple #[.pointer pl, .pointer pr]) ∧ TA n0 bare (Tr.cut (zeroK key) (Tr.cut key t).2).2 pr w'' ∧ Below w'.heap.size w' w'') := fun q w' hb hq => (split_any (zeroK key) n0 _ q w' (Nat.le_trans h0 hb.size) hq).mono (by
    rintro e w'' ⟨pl, pr, he, _, h2, h3⟩
    exact ⟨pl, pr, he, h2, h3⟩)
  have hz : Hid (zeroK key = key ++ ⟨#[0]⟩) := rfl
  have hsum : ¬ (9223372036854775807 < key.size + (⟨#[0]⟩ : ByteArray).size) := by show ¬ _ < key.size + 1; omega
  have hsum' : ¬ (9223372036854775807 < key.size + 1) := by omega
  have HA : Hid (∀ pl pr W, TA n0 bare (Tr.cut key t).1 pl W → TA n0 bare (Tr.cut (zeroK key) (Tr.cut key t).2).2 pr W → Below w.heap.size w W → ∃ pl' pr', Ending.returned (.tuple #[.pointer pl, .pointer pr]) = .returned (.tuple #[.pointer pl', .pointer pr']) ∧ TA n0 bare (Tr.around key t).1 pl' W ∧ TA n0 bare (Tr.around key t).2 pr' W ∧ Below w.heap.size w W) := fun pl pr W h1 h2 h3 => ⟨pl, pr, rfl, h1, h2, h3⟩
  clear ht
  go_enter Tryz.func73, Tryz.ntmps73
  go_wp2_with fail
  refine H1.mono ?_
  rintro e w1 ⟨p1, p2, rfl, t1, t2, hb1⟩
  have H3 := H2.out _ _ hb1 t2
  rw [hz.out] at H3
  go_wp2_with fail
  refine H3.mono ?_
  rintro e w2 ⟨p3, p4, rfl, t4, hb2⟩
  have hfin := HA.out p1 p4 w2 (t1.below hb2 (Nat.le_refl _)) t4 (hb1.trans (hb2.mono hb1.size))
  clear H1 H2 H3 HA
  go_wp2_with fail
  go_ret2
  exact hfin
set_option maxRecDepth 100000 in
theorem del_any (key : ByteArray) (hk : key.size ≤ 1048576) (n0 : Nat) (t : Tr PairT) (p : Option Addr) (w : World) (h0 : n0 ≤ w.heap.size) (ht : TA n0 bare t p w) :
    Calls Tryz.prog 51 #[.pointer p, .string key] w fun e w' => ∃ q, e = .returned (.pointer q) ∧ TA n0 bare (Tr.merge abP (Tr.around key t).1 (Tr.around key t).2) q w' ∧ Below w.heap.size w w' := by
  have H1 := around_any key hk n0 t p w h0 ht
  have H2 : Hid (∀ pl pr w', Below w.heap.size w w' → TA n0 bare (Tr.around key t).1 pl w' → TA n0 bare (Tr.around key t).2 pr w' → Calls Tryz.prog 68 #[.pointer pl, .pointer pr] w' fun e w'' => ∃ q, e = .returned (.pointer q) ∧ TA n0 bare (Tr.merge abP (Tr.around key t).1 (Tr.around key t).2) q w'' ∧ Below w'.heap.size w' w'') := fun pl pr w' hb h1 h2 => merge_any above_said n0 _ _ _ pl pr w' (Nat.le_refl _) (Nat.le_trans h0 hb.size) h1 h2
  clear ht
  generalize Tr.merge abP (Tr.around key t).1 (Tr.around key t).2 = T at H2 ⊢
  go_enter Tryz.func51, Tryz.ntmps51
  go_wp2_with fail
  refine H1.mono ?_
  rintro e w1 ⟨p1, p2, rfl, t1, t2, hb1⟩
  go_wp2_with fail
  refine (H2.out _ _ _ hb1 t1 t2).mono ?_
  rintro e w2 ⟨q, rfl, hq, hb2⟩
  go_wp2_with fail
  go_ret
  exact ⟨q, rfl, hq, hb1.trans (hb2.mono hb1.size)⟩
set_option maxRecDepth 100000 in
set_option maxHeartbeats 1000000 in
theorem put_any (key val : ByteArray) (hk : key.size ≤ 1048576) (n0 : Nat) (t : Tr PairT) (p : Option Addr) (w : World) (h0 : n0 ≤ w.heap.size) (ht : TA n0 bare t p w) (hK : KTab w) :
    Calls Tryz.prog 74 #[.pointer p, .agg #[.string key, .string val]] w fun e w' => ∃ q, e = .returned (.pointer q) ∧ TA n0 bare (Tr.merge abP (Tr.merge abP (Tr.around key t).1 (.node .nil (key, val) .nil)) (Tr.around key t).2) q w' ∧ Below w.heap.size w w' := by
  have hA : Below w.heap.size w (w.alloc (.cells #[.string key, .string val] 60)) := (Below.refl _ _).alloc (Nat.le_refl _) _
  have nA := heap_alloc_new w (.cells #[.string key, .string val] 60)
  have H1 := around_any key hk n0 t p _ (Nat.le_trans h0 hA.size) (ht.below hA (Nat.le_refl _))
  have HS : Hid (∀ w', Below w.heap.size w w' → Calls Tryz.prog 69 #[.agg #[.string key, .string val]] w' fun e w'' => ∃ q, e = .returned (.pointer q) ∧ TA n0 bare (.node .nil (key, val) .nil) q w'' ∧ Below w'.heap.size w' w'') := fun w' hb => (single_any rank_said (fun w1 w2 k hb => KTab.below k hb) key val w' hk (hK.below hb)).mono (by
    rintro e w'' ⟨b, he, hge, hB, hb''⟩
    exact ⟨_, he, ⟨b, none, none, rfl, Nat.le_trans (Nat.le_trans h0 hb.size) hge, hB, rfl, rfl⟩, hb''⟩)
  have H2 : Hid (∀ (s t : Tr PairT) pl pr w', Below w.heap.size w w' → TA n0 bare s pl w' → TA n0 bare t pr w' → Calls Tryz.prog 68 #[.pointer pl, .pointer pr] w' fun e w'' => ∃ q, e = .returned (.pointer q) ∧ TA n0 bare (Tr.merge abP s t) q w'' ∧ Below w'.heap.size w' w'') := fun s t pl pr w' hb h1 h2 => merge_any above_said n0 _ s t pl pr w' (Nat.le_refl _) (Nat.le_trans h0 hb.size) h1 h2
  obtain ⟨ga, hga⟩ : ∃ g, w.heap.size = g := ⟨_, rfl⟩
  have c0 := Lib.cell_of_heap nA 0
  have c1 := Lib.cell_of_heap nA 1
  clear ht
  go_enter Tryz.func74, Tryz.ntmps74
  go_upto_region 1 with fail
  generalize w.alloc (.cells #[.string key, .string val] 60) = w0 at hA nA H1 c0 c1 ⊢
  rw [hga] at nA c0 c1
  try rw [hga]
  go_wp2_with fail
  refine H1.mono ?_
  rintro e w1 ⟨p1, p2, rfl, t1, t2, hb1⟩
  have nA1 := pblk_below hb1 nA
  have hbw1 := hA.trans (hb1.mono hA.size)
  clear c0 c1 nA H1 hb1
  have c0 := Lib.cell_of_heap nA1 0
  have c1 := Lib.cell_of_heap nA1 1
  go_wp2_with fail
  refine (HS.out _ hbw1).mono ?_
  rintro e w2 ⟨p3, rfl, t3, hb2⟩
  have hbw2 := hbw1.trans (hb2.mono hbw1.size)
  have t1' := t1.below hb2 (Nat.le_refl _)
  have t2' := t2.below hb2 (Nat.le_refl _)
  clear c0 c1 nA1 t1 t2
  go_wp2_with fail
  refine (H2.out _ _ _ _ _ hbw2 t1' t3).mono ?_
  rintro e w3 ⟨p4, rfl, t4, hb3⟩
  have hbw3 := hbw2.trans (hb3.mono hbw2.size)
  have t2'' := t2'.below hb3 (Nat.le_refl _)
  clear t1' t2' t3
  go_wp2_with fail
  refine (H2.out _ _ _ _ _ hbw3 t4 t2'').mono ?_
  rintro e w4 ⟨p5, rfl, t5, hb4⟩
  have hbw4 := hbw3.trans (hb4.mono hbw3.size)
  go_wp2_with fail
  go_ret
  exact ⟨p5, rfl, t5, hbw4⟩
set_option maxRecDepth 100000 in
set_option maxHeartbeats 1000000 in
theorem room_any (key val : ByteArray) (hk : key.size ≤ 1048576) (n0 : Nat) (ps : List PairT) (hku : KeysUp (keys ps)) (p : Option Addr) (w : World) (h0 : n0 ≤ w.heap.size) (ht : TA n0 bare (cutTree ps) p w) (hK : KTab w) (hn : (wth ps key val).length ≤ 100000) (hsm : SmallP (wth ps key val)) :
    Calls Tryz.prog 55 #[.pointer p, .agg #[.string key, .string val]] w fun e w' => ∃ q, e = .returned (.tuple #[.pointer q, .int .i64 (if 500 < (wth ps key val).length then 6 else 0)]) ∧ ((wth ps key val).length ≤ 500 → TA n0 bare (cutTree (wth ps key val)) q w') ∧ Below w.heap.size w w' := by
  have hA : Below w.heap.size w (w.alloc (.cells #[.string key, .string val] 60)) := (Below.refl _ _).alloc (Nat.le_refl _) _
  have nA := heap_alloc_new w (.cells #[.string key, .string val] 60)
  have H1 := put_any key val hk n0 (cutTree ps) p _ (Nat.le_trans h0 hA.size) (ht.below hA (Nat.le_refl _)) (hK.below hA)
  rw [put_tree key val hku] at H1
  have hin := cutTree_inord (wth ps key val)
  have H2 : Hid (∀ q w', TA n0 bare (cutTree (wth ps key val)) q w' → Calls Tryz.prog 75 #[.pointer q] w' fun e w'' => (∃ a cap, e = .returned (.slice a (wth ps key val).length cap)) ∧ Below w'.heap.size w' w'') := fun q w' hq => by
    have := pairsOf_any bare (cutTree (wth ps key val)) q w' hq.base (by rw [cutTree_size]; exact hn) (by rw [hin]; exact hsm)
    rw [hin] at this
    refine this.mono ?_
    rintro e w'' ⟨⟨a, cap, he, _⟩, hb⟩
    exact ⟨⟨a, cap, he⟩, hb⟩
  obtain ⟨ga, hga⟩ : ∃ g, w.heap.size = g := ⟨_, rfl⟩
  have c0 := Lib.cell_of_heap nA 0
  have c1 := Lib.cell_of_heap nA 1
  obtain ⟨L, hL⟩ : ∃ L, (wth ps key val).length = L := ⟨_, rfl⟩
  rw [hL] at H2 hn ⊢
  obtain ⟨v, hv⟩ : ∃ v : Int, (if 500 < L then (6 : Int) else 0) = v := ⟨_, rfl⟩
  rw [hv]
  have hvH : Hid ((if 500 < L then (6 : Int) else 0) = v) := hv
  generalize cutTree (wth ps key val) = T at H1 H2 ⊢
  clear ht hL hsm hin hv
  go_enter Tryz.func55, Tryz.ntmps55
  go_upto_region 1 with fail
  generalize w.alloc (.cells #[.string key, .string val] 60) = w0 at hA nA H1 c0 c1 ⊢
  rw [hga] at nA c0 c1
  try rw [hga]
  go_wp2_with fail
  refine H1.mono ?_
  rintro e w1 ⟨q, rfl, tq, hb1⟩
  have hbw1 := hA.trans (hb1.mono hA.size)
  clear c0 c1 nA H1 hb1
  go_wp2_with fail
  refine (H2.out _ _ tq).mono ?_
  rintro e w2 ⟨⟨a2, c2, rfl⟩, hb2⟩
  have hbw2 := hbw1.trans (hb2.mono hbw1.size)
  have tq2 := tq.below hb2 (Nat.le_refl _)
  clear tq
  by_cases hl : 500 < L
  · have hv6 : Hid (v = 6) := by
      have := hvH.out
      rw [if_pos hl] at this
      exact this.symm
    have z : decide ((500 : Int) < (L : Int)) = true := by rw [decide_eq_true_eq]; omega
    have z' : ((L : Int) > 500) := by omega
    go_wp2_with fail
    go_ret2
    exact ⟨none, by rw [hv6.out]; rfl, fun q => by omega, hbw2⟩
  · have hv0 : Hid (v = 0) := by
      have := hvH.out
      rw [if_neg hl] at this
      exact this.symm
    have z : decide ((500 : Int) < (L : Int)) = false := by rw [decide_eq_false_iff_not]; omega
    have z' : ¬ ((L : Int) > 500) := by omega
    go_wp2_with fail
    go_ret2
    exact ⟨q, by rw [hv0.out]; rfl, fun _ => tq2, hbw2⟩
end Go.Proofs.YtgicihmdcnelaaaGreatDoor
namespace Go.Proofs.YtgicihmdcnelaaaGreatDoor
open Go.RowKit Go.Proofs.Sha

set_option maxRecDepth 100000 in
set_option maxHeartbeats 1000000 in
theorem ld_any (fnd : ByteArray → FN) (wd : Nat) (hfo : FndOk wd fnd) (sb : Nat) (root : ByteArray) (v0 v2 : Value) (w : World) (hb : w.heap[sb]? = some (.cells #[v0, .int .i64 (wd : Int), v2] 95)) (hr : root.size ≤ 1048576)
    (HF : Hid (∀ (hash : ByteArray) w', hash.size = wd → Below w.heap.size w w' → Calls Tryz.prog 143 #[.pointer (some ⟨sb, 0, none⟩), .string hash] w' fun e w'' => e = .returned (nodeT (fnd hash)) ∧ Below w'.heap.size w' w''))
    (HR : Hid (∀ (k : ByteArray) w', okKey k = true → Below w.heap.size w w' → Calls Tryz.prog 92 #[Value.string k] w' fun e w'' => e = .returned (.agg (rkL k).toArray) ∧ Below w'.heap.size w' w'')) :
    Calls Tryz.prog 72 #[.pointer (some ⟨sb, 0, none⟩), .string root] w (RangeAt (if hashOk root.size (wd : Int) = true then (if (goF fnd hgW ⟨#[]⟩ ⟨#[]⟩ 501 root ⟨#[]⟩ ⟨#[]⟩ ⟨#[]⟩ 0).1 = 0 then ((goF fnd hgW ⟨#[]⟩ ⟨#[]⟩ 501 root ⟨#[]⟩ ⟨#[]⟩ ⟨#[]⟩ 0).2.2, 0) else ([], (goF fnd hgW ⟨#[]⟩ ⟨#[]⟩ 501 root ⟨#[]⟩ ⟨#[]⟩ ⟨#[]⟩ 0).1)) else ([], 1)) w) := by
  have HP := pw_any fnd wd hfo sb ⟨#[]⟩ ⟨#[]⟩ root v0 v2 w hb hr HF HR
  generalize (if hashOk root.size (wd : Int) = true then (if (goF fnd hgW ⟨#[]⟩ ⟨#[]⟩ 501 root ⟨#[]⟩ ⟨#[]⟩ ⟨#[]⟩ 0).1 = 0 then ((goF fnd hgW ⟨#[]⟩ ⟨#[]⟩ 501 root ⟨#[]⟩ ⟨#[]⟩ ⟨#[]⟩ 0).2.2, (0 : Int)) else ([], (goF fnd hgW ⟨#[]⟩ ⟨#[]⟩ 501 root ⟨#[]⟩ ⟨#[]⟩ ⟨#[]⟩ 0).1)) else ([], 1)) = X at HP ⊢
  have HQ : Hid (∀ e w2, RangeAt X w e w2 → ∃ a' c', e = .returned (.tuple #[.slice a' X.1.length c', .int .i64 X.2]) ∧ RangeAt X w e w2) := fun e w2 hR => by
    obtain ⟨⟨a', c', he, ho⟩, hb2⟩ := hR
    exact ⟨a', c', he, ⟨⟨a', c', he, ho⟩, hb2⟩⟩
  clear HF HR hfo hb
  go_enter Tryz.func72, Tryz.ntmps72
  go_wp2_with (first | (go_at_call 95; refine HP.mono ?_; intro e w3 hR3; obtain ⟨a3, c3, rfl, hR3⟩ := HQ.out _ _ hR3))
  go_ret2
  exact hR3
set_option maxRecDepth 100000 in
theorem sload_any (X : List PairT × Int) (v : Value) (root : ByteArray) (w : World) (hv : ∃ n a m c, v = .agg #[.int .i64 n, .slice a m c]) (HP : ∀ w', Below w.heap.size w w' → Calls Tryz.prog 71 #[v, .string root, .string ⟨#[]⟩, .string ⟨#[]⟩] w' (RangeAt X w')) :
    Calls Tryz.prog 45 #[v, .string root] w (RangeAt X w) := by
  obtain ⟨n, a, m, c, rfl⟩ := hv
  have hA : Below w.heap.size w (w.alloc (.cells #[.int .i64 n, .slice a m c] 28)) := (Below.refl _ _).alloc (Nat.le_refl _) _
  have HP' := HP _ hA
  have HQ : Hid (∀ e w2, RangeAt X (w.alloc (.cells #[.int .i64 n, .slice a m c] 28)) e w2 → ∃ a' c', e = .returned (.tuple #[.slice a' X.1.length c', .int .i64 X.2]) ∧ RangeAt X w e w2) := fun e w2 hR => by
    obtain ⟨⟨a', c', he, ho⟩, hb2⟩ := hR
    exact ⟨a', c', he, ⟨⟨a', c', he, own2_mono ho hA.size⟩, hA.trans (hb2.mono hA.size)⟩⟩
  clear HP
  go_enter Tryz.func45, Tryz.ntmps45
  go_wp2_with (first | (go_at_call 71; refine HP'.mono ?_; intro e w3 hR3; obtain ⟨a3, c3, rfl, hR3⟩ := HQ.out _ _ hR3))
  go_ret2
  exact hR3
end Go.Proofs.YtgicihmdcnelaaaGreatDoor
namespace Go.Proofs.YtgicihmdcnelaaaGreatDoor
open Go.RowKit Go.Proofs.Sha

theorem delC_any (key : ByteArray) (hk : key.size ≤ 1048576) (ck n0 : Nat) (ps : List PairT) (hku : KeysUp (keys ps)) (p : Option Addr) (w : World) (h0 : n0 ≤ w.heap.size) (ht : TA n0 bare (cutTree ps) p w) (hc : w.cell? ⟨ck, 0, none⟩ = some (.string key)) :
    Calls Tryz.prog 49 #[.pointer p, .pointer (some ⟨ck, 0, none⟩)] w fun e w' => ∃ q, e = .returned (.tuple #[.pointer q, .int .i64 (if okKey key = true then 0 else 1)]) ∧ (okKey key = true → TA n0 bare (cutTree (wout ps key)) q w') ∧ Below w.heap.size w w' := by
  have HV := fun w' => vkey_any key w' hk
  have HDl := del_any key hk n0 (cutTree ps) p w h0 ht
  rw [del_tree key hku] at HDl
  generalize cutTree (wout ps key) = T at HDl ⊢
  clear ht
  cases ho : okKey key with
  | false =>
    rw [ho] at HV
    have hi : (if false = true then (0 : Int) else 1) = 1 := if_neg (by decide)
    rw [hi]
    clear hi
    go_enter Tryz.func49, Tryz.ntmps49
    go_wp2_with (first | (go_at_call 50; refine (HV _).mono ?_; rintro e w1 ⟨rfl, rfl⟩))
    go_ret2
    exact ⟨none, rfl, (fun q => by cases q), Below.refl _ _⟩
  | true =>
    rw [ho] at HV
    have hi : (if true = true then (0 : Int) else 1) = 0 := if_pos rfl
    rw [hi]
    clear hi
    go_enter Tryz.func49, Tryz.ntmps49
    go_wp2_with (first | (go_at_call 50; refine (HV _).mono ?_; rintro e w1 ⟨rfl, rfl⟩) | (go_at_call 51; refine HDl.mono ?_; rintro e w2 ⟨q, rfl, hq, hb2⟩))
    go_ret2
    exact ⟨q, rfl, fun _ => hq, hb2⟩
/-- The code of a Put. -/
def putCd (key val : ByteArray) (ps : List PairT) : Int := if (okKey key && okVal val) = true then (if 500 < (wth ps key val).length then 6 else 0) else 1
theorem putC_any (key val : ByteArray) (hk : key.size ≤ 1048576) (hv : val.size ≤ 1048576) (ck cv n0 : Nat) (ps : List PairT) (hku : KeysUp (keys ps)) (p : Option Addr) (w : World) (h0 : n0 ≤ w.heap.size) (ht : TA n0 bare (cutTree ps) p w) (hK : KTab w) (hn : (wth ps key val).length ≤ 100000) (hsm : SmallP (wth ps key val)) (hc : w.cell? ⟨ck, 0, none⟩ = some (.string key)) (hc2 : w.cell? ⟨cv, 0, none⟩ = some (.string val)) :
    Calls Tryz.prog 53 #[.pointer p, .pointer (some ⟨ck, 0, none⟩), .pointer (some ⟨cv, 0, none⟩)] w fun e w' => ∃ q, e = .returned (.tuple #[.pointer q, .int .i64 (putCd key val ps)]) ∧ (putCd key val ps = 0 → TA n0 bare (cutTree (wth ps key val)) q w') ∧ Below w.heap.size w w' := by
  have HV := fun w' => vkey_any key w' hk
  have HV2 := fun w' => vval_any val w' hv
  have HR := room_any key val hk n0 ps hku p w h0 ht hK hn hsm
  have hcd : putCd key val ps = if (okKey key && okVal val) = true then (if 500 < (wth ps key val).length then 6 else 0) else 1 := rfl
  obtain ⟨L, hL⟩ : ∃ L, (wth ps key val).length = L := ⟨_, rfl⟩
  rw [hL] at HR hcd
  obtain ⟨v, hvv⟩ : ∃ v : Int, (if 500 < L then (6 : Int) else 0) = v := ⟨_, rfl⟩
  rw [hvv] at HR hcd
  have hv0 : Hid (v = 0 → L ≤ 500) := fun q => by
    rw [← hvv] at q
    split at q
    · cases q
    · omega
  generalize putCd key val ps = cd at hcd ⊢
  generalize cutTree (wth ps key val) = T at HR ⊢
  clear ht hL hvv hn hsm
  cases ho : okKey key with
  | false =>
    rw [ho] at HV hcd
    rw [Bool.false_and, if_neg (by decide)] at hcd
    subst hcd
    go_enter Tryz.func53, Tryz.ntmps53
    go_wp2_with (first | (go_at_call 50; refine (HV _).mono ?_; rintro e w1 ⟨rfl, rfl⟩))
    go_ret2
    exact ⟨none, rfl, (fun q => by cases q), Below.refl _ _⟩
  | true =>
    rw [ho] at HV hcd
    cases ho2 : okVal val with
    | false =>
      rw [ho2] at HV2 hcd
      rw [Bool.and_false, if_neg (by decide)] at hcd
      subst hcd
      go_enter Tryz.func53, Tryz.ntmps53
      go_wp2_with (first | (go_at_call 50; refine (HV _).mono ?_; rintro e w1 ⟨rfl, rfl⟩) | (go_at_call 54; refine (HV2 _).mono ?_; rintro e w2 ⟨rfl, rfl⟩))
      go_ret2
      exact ⟨none, rfl, (fun q => by cases q), Below.refl _ _⟩
    | true =>
      rw [ho2] at HV2 hcd
      rw [Bool.and_self, if_pos rfl] at hcd
      subst hcd
      go_enter Tryz.func53, Tryz.ntmps53
      go_wp2_with (first | (go_at_call 50; refine (HV _).mono ?_; rintro e w1 ⟨rfl, rfl⟩) | (go_at_call 54; refine (HV2 _).mono ?_; rintro e w2 ⟨rfl, rfl⟩) | (go_at_call 55; refine HR.mono ?_; rintro e w3 ⟨q, rfl, hq, hb3⟩))
      go_ret2
      exact ⟨q, rfl, fun h => hq (hv0.out h), hb3⟩
/-- What Put and Del answer: by what loads, the code of the change, and the map behind it. -/
def chgO (n : Int) (ss : List ByteArray) (X : List PairT × Int) (cd : Int) (qs : List PairT) : SvO := if X.2 ≠ 0 then codeO X.2 else if cd ≠ 0 then codeO cd else savO n.toNat ss (cutTree qs)
end Go.Proofs.YtgicihmdcnelaaaGreatDoor
namespace Go.Proofs.YtgicihmdcnelaaaGreatDoor
open Go.RowKit Go.Proofs.Sha

set_option maxRecDepth 100000 in
set_option maxHeartbeats 2000000 in
theorem chgD_any (HH : Hid (HashSaid KTab)) (D : Dec) (n : Int) (HD : Hid (∀ wd : Nat, (wd : Int) = n → 1 ≤ wd → wd ≤ 32 → DecSaid 145 wd D)) (hdo : ∀ wd : Nat, (wd : Int) = n → DecOk wd D) (a : Option Addr) (ss : List ByteArray) (c : Nat) (root : ByteArray) (ck : Nat) (w : World) (h : SArg a ss w) (hK : KTab w) (hr : root.size ≤ 1048576) (cf : List PairT → Int) (tf : List PairT → List PairT)
    (HC : Hid (∀ (wd : Nat) ps, (wd : Int) = n → KeysUp (keys ps) → ps.length ≤ 500 → SmallP ps → (∀ p ∈ ps, okKey p.1 = true ∧ okVal p.2 = true) → (cf ps = 0 → Apart (tf ps) ∧ ∀ x ∈ tf ps, x.1.size ≤ 1048576 ∧ x.2.size ≤ 1048576) ∧ ∀ n0 p w1, Below w.heap.size w w1 → n0 ≤ w1.heap.size → TA n0 bare (cutTree ps) p w1 → Calls Tryz.prog 49 #[.pointer p, .pointer (some ⟨ck, 0, none⟩)] w1 fun e w2 => ∃ q, e = .returned (.tuple #[.pointer q, .int .i64 (cf ps)]) ∧ (cf ps = 0 → TA n0 bare (cutTree (tf ps)) q w2) ∧ Below w1.heap.size w1 w2)) :
    Calls Tryz.prog 48 #[.agg #[.int .i64 n, .slice a ss.length c], .string root, .func (.func 49) #[] #[.pointer (some ⟨ck, 0, none⟩)]] w (SavedIs (chgO n ss (rangeM (fndD D n.toNat ss) n ss.length root ⟨#[]⟩ ⟨#[]⟩) (cf (rangeM (fndD D n.toNat ss) n ss.length root ⟨#[]⟩ ⟨#[]⟩).1) (tf (rangeM (fndD D n.toNat ss) n ss.length root ⟨#[]⟩ ⟨#[]⟩).1)) w) := by
  have HV : Hid (∀ w', Calls Tryz.prog 35 #[.agg #[.int .i64 n, .slice a ss.length c]] w' fun e w'' => e = .returned (.bool (poolOk n ss.length)) ∧ Below w'.heap.size w' w'') := fun w' => validPool_any n a ss.length c w' h.le
  have hbA : Below w.heap.size w ((w.alloc (.cells #[.int .i64 n, .slice a ss.length c] 28)).alloc (.cells #[.int .i64 0, .int .i64 0, .slice none 0 0, .string ⟨#[]⟩, .string ⟨#[]⟩, .string ⟨#[]⟩] 30)) := ((Below.refl _ _).alloc (Nat.le_refl _) _).alloc (by simp) _
  have nB := heap_alloc_new (w.alloc (.cells #[.int .i64 n, .slice a ss.length c] 28)) (.cells #[.int .i64 0, .int .i64 0, .slice none 0 0, .string ⟨#[]⟩, .string ⟨#[]⟩, .string ⟨#[]⟩] 30)
  have nA := (Below.heap_alloc (w.alloc (.cells #[.int .i64 n, .slice a ss.length c] 28)) (.cells #[.int .i64 0, .int .i64 0, .slice none 0 0, .string ⟨#[]⟩, .string ⟨#[]⟩, .string ⟨#[]⟩] 30) w.heap.size (by simp)).trans (heap_alloc_new w _)
  rw [World.size_alloc] at nB
  obtain ⟨gp, hgp⟩ : ∃ g, w.heap.size = g := ⟨_, rfl⟩
  have hge' : w.heap.size ≤ gp + 1 := by omega
  obtain ⟨X, hX⟩ : ∃ X, rangeM (fndD D n.toNat ss) n ss.length root ⟨#[]⟩ ⟨#[]⟩ = X := ⟨_, rfl⟩
  rw [hX]
  obtain ⟨O, hO⟩ : ∃ O, chgO n ss X (cf X.1) (tf X.1) = O := ⟨_, rfl⟩
  rw [hO]
  have HO : Hid (chgO n ss X (cf X.1) (tf X.1) = O) := hO
  clear hO
  go_enter Tryz.func48, Tryz.ntmps48
  go_upto_region 1 with fail
  generalize ((w.alloc (.cells #[.int .i64 n, .slice a ss.length c] 28)).alloc (.cells #[.int .i64 0, .int .i64 0, .slice none 0 0, .string ⟨#[]⟩, .string ⟨#[]⟩, .string ⟨#[]⟩] 30)) = wA at hbA nA nB ⊢
  try rw [hgp]
  rw [hgp] at nA nB
  have p0 := Lib.cell_of_heap nA 0
  have p1 := Lib.cell_of_heap nA 1
  have HB : Hid (∀ W, Below wA.heap.size wA W → Below w.heap.size w W ∧ SB (gp + 1) 0 0 none 0 0 ⟨#[]⟩ ⟨#[]⟩ ⟨#[]⟩ W ∧ W.cell? ⟨gp, 0, none⟩ = some (.int .i64 n) ∧ W.cell? ⟨gp, 1, none⟩ = some (.slice a ss.length c)) := fun W hW => ⟨hbA.trans (hW.mono hbA.size), pblk_below hW nB, Lib.cell_of_heap (pblk_below hW nA) 0, Lib.cell_of_heap (pblk_below hW nA) 1⟩
  cases hp : poolOk n ss.length with
  | false =>
    have ho : Hid (O = codeO 1) := by
      show _ = _
      rw [← HO.out, ← hX, rangeM_bad (by rw [hp]; rfl)]
      rfl
    rw [hp] at HV
    clear h hK HH HC HD HO hX
    go_wp2_with (first | (go_at_call 35; refine (HV.out _).mono ?_; rintro e w1 ⟨rfl, hb1⟩; obtain ⟨hbw, hB1, _, _⟩ := HB.out _ hb1; obtain ⟨d0, d1, d2, d3, d4, d5, df⟩ := hB1.at))
    exact retS Tryz.results48 rfl rfl (hB1.all 1 0 none 0 0 ⟨#[]⟩ ⟨#[]⟩ ⟨#[]⟩) (by rw [ho.out]; exact SavedIs.code hbw hB1 hge')
  | true =>
    rw [hp] at HV
    have hp' : 1 ≤ n ∧ n ≤ 32 ∧ ss.length ≤ 20000 := of_decide_eq_true hp
    obtain ⟨wd, rfl⟩ : ∃ wd : Nat, n = (wd : Int) := ⟨n.toNat, by omega⟩
    have hfo : FndOk wd (fndD D wd ss) := fndD_ok D wd ss (hdo wd rfl)
    have hup : KeysUp (keys X.1) := by rw [← hX]; exact rangeM_up (wd := wd) (by rw [Int.toNat_natCast]; exact hfo) _ _ _ _ _
    have hsm : X.1.length ≤ 500 ∧ SmallP X.1 := by rw [← hX]; exact rangeM_small (wd := wd) (by rw [Int.toNat_natCast]; exact hfo) _ _ _ _ _
    have hok : ∀ p ∈ X.1, okKey p.1 = true ∧ okVal p.2 = true := by
      intro p hpm
      rw [← hX, Int.toNat_natCast] at hpm
      unfold rangeM at hpm
      split at hpm
      · split at hpm
        · exact goF_ok hfo _ _ _ _ _ _ p hpm
        · cases hpm
      · cases hpm
    obtain ⟨hap, HCr⟩ := HC.out wd X.1 rfl hup hsm.1 hsm.2 hok
    have hrM : X = (if hashOk root.size (wd : Int) = true then (if (goF (fndD D wd ss) hgW ⟨#[]⟩ ⟨#[]⟩ 501 root ⟨#[]⟩ ⟨#[]⟩ ⟨#[]⟩ 0).1 = 0 then ((goF (fndD D wd ss) hgW ⟨#[]⟩ ⟨#[]⟩ 501 root ⟨#[]⟩ ⟨#[]⟩ ⟨#[]⟩ 0).2.2, (0 : Int)) else ([], (goF (fndD D wd ss) hgW ⟨#[]⟩ ⟨#[]⟩ 501 root ⟨#[]⟩ ⟨#[]⟩ ⟨#[]⟩ 0).1)) else ([], 1)) := by
      rw [← hX]
      unfold rangeM
      rw [hp, Bool.true_and, Int.toNat_natCast]
    have HS : Hid (∀ w', Below w.heap.size w w' → Calls Tryz.prog 38 #[.agg #[.int .i64 (wd : Int), .slice a ss.length c]] w' fun e w'' => ∃ sb r a' c', e = .returned (.pointer (some ⟨sb, 0, none⟩)) ∧ StockAt sb r (sb + 1) wd ss a' c' w'' ∧ Below w'.heap.size w' w'') := fun w' hb => stockOf_any HH (fun w1 w2 h1 hb => KTab.below h1 hb) wd a ss c w' (h.below hb) (hK.below hb) (by omega)
    have HL : Hid (∀ w1 sb r a' c', Below w.heap.size w w1 → StockAt sb r (sb + 1) wd ss a' c' w1 → Calls Tryz.prog 72 #[.pointer (some ⟨sb, 0, none⟩), .string root] w1 fun e w2 => ∃ a3 c3, e = .returned (.tuple #[.slice a3 X.1.length c3, .int .i64 X.2]) ∧ PArg a3 X.1 w2 ∧ Below w1.heap.size w1 w2) := fun w1 sb r a' c' hb1 hs => by
      have := ld_any (fndD D wd ss) wd hfo sb root _ _ w1 hs.blk hr (fun hash w' hh hb' => stockFind_any D sb r (sb + 1) wd (HD.out wd rfl (by omega) (by omega)) ss a' c' hash w' (hs.below hb') h.sz (by have := h.le; omega) (by omega) hh) (fun k w' hk hb' => rank_any k w' (by unfold okKey at hk; have := of_decide_eq_true hk; omega) ((hK.below hb1).below hb'))
      rw [← hrM] at this
      refine this.mono ?_
      rintro e w2 ⟨⟨a3, c3, he, ho⟩, hb2⟩
      exact ⟨a3, c3, he, own_parg ho hsm.2, hb2⟩
    have HT : Hid (∀ a3 c3 w', Below w.heap.size w w' → PArg a3 X.1 w' → Calls Tryz.prog 39 #[.slice a3 X.1.length c3] w' fun e w'' => ∃ p, e = .returned (.pointer p) ∧ TA w'.heap.size bare (cutTree X.1) p w'' ∧ Below w'.heap.size w' w'') := fun a3 c3 w' hb hpa => by
      have := treeOf_any rank_said (fun w1 w2 k hb => KTab.below k hb) a3 X.1 c3 w' hpa (hK.below hb)
      rw [merged_cut X.1 (ku_apart hup)] at this
      exact this
    have HX : Hid (cf X.1 = 0 → ∀ w3 w5 sb r a' c' q, Below w.heap.size w w3 → SB (gp + 1) 0 0 none 0 0 ⟨#[]⟩ ⟨#[]⟩ ⟨#[]⟩ w3 → StockAt sb r (sb + 1) wd ss a' c' w3 → TA w3.heap.size bare (cutTree (tf X.1)) q w5 → Below w3.heap.size w3 w5 → Calls Tryz.prog 37 #[.pointer (some ⟨sb, 0, none⟩), .pointer q] w5 fun e W => ∃ a m c, e = .returned (svV (savO wd ss (cutTree (tf X.1))).cd (savO wd ss (cutTree (tf X.1))).n a m c (savO wd ss (cutTree (tf X.1))).root (savO wd ss (cutTree (tf X.1))).x (savO wd ss (cutTree (tf X.1))).y) ∧ SB (gp + 1) 0 0 none 0 0 ⟨#[]⟩ ⟨#[]⟩ ⟨#[]⟩ W ∧ SavedIs (savO wd ss (cutTree (tf X.1))) w (.returned (svV (savO wd ss (cutTree (tf X.1))).cd (savO wd ss (cutTree (tf X.1))).n a m c (savO wd ss (cutTree (tf X.1))).root (savO wd ss (cutTree (tf X.1))).x (savO wd ss (cutTree (tf X.1))).y)) (set6 W (gp + 1) (savO wd ss (cutTree (tf X.1))).cd (savO wd ss (cutTree (tf X.1))).n a m c (savO wd ss (cutTree (tf X.1))).root (savO wd ss (cutTree (tf X.1))).x (savO wd ss (cutTree (tf X.1))).y)) := fun hcf w3 w5 sb r a' c' q hb3 hB3 hS3 hT5 hb5 => by
      obtain ⟨ha, hsz⟩ := hap hcf
      have hin := cutTree_inord (tf X.1)
      refine (saved_any HH sb r (sb + 1) wd ss a' c' (cutTree (tf X.1)) q w3.heap.size w3 w5 hb5 (Nat.le_refl _) (fun W hW => hS3.below (hb5.trans hW)) (fun W hW => (hK.below hb3).below (hb5.trans hW)) hb5.size hT5 (by rw [hin]; exact ha) (by rw [hin]; exact hsz) hp'.2.2 h.sz (by omega) (by omega)).mono ?_
      intro e W hE
      exact SavedIs.put hE hb3 hB3 (by omega)
    have HCc : Hid _ := HCr
    clear HCr
    obtain ⟨qs, hqs⟩ : ∃ qs, tf X.1 = qs := ⟨_, rfl⟩
    obtain ⟨cd, hcd⟩ : ∃ cd, cf X.1 = cd := ⟨_, rfl⟩
    rw [hqs, hcd] at HX HCc HO
    obtain ⟨ps, xc⟩ := X
    dsimp only at HX HCc HO HL HT
    obtain ⟨K, hKK⟩ : ∃ K, ps.length = K := ⟨_, rfl⟩
    rw [hKK] at HL HT
    clear h hK HH HC HD hX hrM hup hsm hok hap hqs hcd hKK hp'
    by_cases hx : xc = 0
    · subst hx
      by_cases hc0 : cd = 0
      · subst hc0
        have ho : Hid (O = savO wd ss (cutTree qs)) := by
          show _ = _
          rw [← HO.out]
          rfl
        have HX' := HX.out rfl
        generalize savO wd ss (cutTree qs) = O' at HX' ho
        obtain ⟨od, on, oxs, oroot, ox, oy⟩ := O'
        dsimp only at HX'
        have HX'' : Hid _ := HX'
        clear HX HX' HO
        go_wp2_with (first | (go_at_call 35; refine (HV.out _).mono ?_; rintro e w1 ⟨rfl, hb1⟩; obtain ⟨hbw1, hB1, q0, q1⟩ := HB.out _ hb1) | (go_at_call 38; refine (HS.out _ hbw1).mono ?_; rintro e w2 ⟨sb, r, a2, c2, rfl, hS2, hb2⟩; have hB2 : SB (gp + 1) 0 0 none 0 0 ⟨#[]⟩ ⟨#[]⟩ ⟨#[]⟩ w2 := pblk_below hb2 hB1; have hbw2 := hbw1.trans (hb2.mono hbw1.size); clear q0 q1) | (go_at_call 72; refine (HL.out _ _ _ _ _ hbw2 hS2).mono ?_; rintro e w3 ⟨a3, c3, rfl, hP3, hb3⟩; have hB3 : SB (gp + 1) 0 0 none 0 0 ⟨#[]⟩ ⟨#[]⟩ ⟨#[]⟩ w3 := pblk_below hb3 hB2; have hbw3 := hbw2.trans (hb3.mono hbw2.size); have hS3 := hS2.below hb3) | (go_at_call 39; refine (HT.out _ _ _ hbw3 hP3).mono ?_; rintro e w4 ⟨p4, rfl, hT4, hb4⟩; have hbw4 := hbw3.trans (hb4.mono hbw3.size); have hs4 := hb4.size) | (go_at_call 49; refine (HCc.out _ _ _ hbw4 hs4 hT4).mono ?_; rintro e w5 ⟨q5, rfl, hT5, hb5⟩; have hb35 := hb4.trans (hb5.mono hs4)) | (go_at_call 37; refine (HX''.out _ _ _ _ _ _ _ hbw3 hB3 hS3 (hT5 (by trivial)) hb35).mono ?_; rintro e w6 ⟨a6, m6, c6, rfl, hB6, hF6⟩; obtain ⟨d0, d1, d2, d3, d4, d5, df⟩ := hB6.at))
        exact retS Tryz.results48 rfl rfl (hB6.all od on a6 m6 c6 oroot ox oy) (by rw [ho.out]; exact hF6)
      · have ho : Hid (O = codeO cd) := by
          show _ = _
          rw [← HO.out]
          unfold chgO
          rw [if_neg (by simp), if_pos hc0]
        have zc : (cd != 0) = true := by simp [hc0]
        clear HX HO hc0
        go_wp2_with (first | (go_at_call 35; refine (HV.out _).mono ?_; rintro e w1 ⟨rfl, hb1⟩; obtain ⟨hbw1, hB1, q0, q1⟩ := HB.out _ hb1) | (go_at_call 38; refine (HS.out _ hbw1).mono ?_; rintro e w2 ⟨sb, r, a2, c2, rfl, hS2, hb2⟩; have hB2 : SB (gp + 1) 0 0 none 0 0 ⟨#[]⟩ ⟨#[]⟩ ⟨#[]⟩ w2 := pblk_below hb2 hB1; have hbw2 := hbw1.trans (hb2.mono hbw1.size); clear q0 q1) | (go_at_call 72; refine (HL.out _ _ _ _ _ hbw2 hS2).mono ?_; rintro e w3 ⟨a3, c3, rfl, hP3, hb3⟩; have hB3 : SB (gp + 1) 0 0 none 0 0 ⟨#[]⟩ ⟨#[]⟩ ⟨#[]⟩ w3 := pblk_below hb3 hB2; have hbw3 := hbw2.trans (hb3.mono hbw2.size)) | (go_at_call 39; refine (HT.out _ _ _ hbw3 hP3).mono ?_; rintro e w4 ⟨p4, rfl, hT4, hb4⟩; have hbw4 := hbw3.trans (hb4.mono hbw3.size); have hs4 := hb4.size) | (go_at_call 49; refine (HCc.out _ _ _ hbw4 hs4 hT4).mono ?_; rintro e w5 ⟨q5, rfl, _, hb5⟩; have hB5 : SB (gp + 1) 0 0 none 0 0 ⟨#[]⟩ ⟨#[]⟩ ⟨#[]⟩ w5 := pblk_below hb5 (pblk_below hb4 hB3); have hbw5 := hbw4.trans (hb5.mono hbw4.size); obtain ⟨d0, d1, d2, d3, d4, d5, df⟩ := hB5.at))
        exact retS Tryz.results48 rfl rfl (hB5.all cd 0 none 0 0 ⟨#[]⟩ ⟨#[]⟩ ⟨#[]⟩) (by rw [ho.out]; exact SavedIs.code hbw5 hB5 hge')
    · have ho : Hid (O = codeO xc) := by
        show _ = _
        rw [← HO.out]
        unfold chgO
        rw [if_pos hx]
      have zc : (xc != 0) = true := by simp [hx]
      clear HX HO HCc HT
      go_wp2_with (first | (go_at_call 35; refine (HV.out _).mono ?_; rintro e w1 ⟨rfl, hb1⟩; obtain ⟨hbw1, hB1, q0, q1⟩ := HB.out _ hb1) | (go_at_call 38; refine (HS.out _ hbw1).mono ?_; rintro e w2 ⟨sb, r, a2, c2, rfl, hS2, hb2⟩; have hB2 : SB (gp + 1) 0 0 none 0 0 ⟨#[]⟩ ⟨#[]⟩ ⟨#[]⟩ w2 := pblk_below hb2 hB1; have hbw2 := hbw1.trans (hb2.mono hbw1.size); clear q0 q1) | (go_at_call 72; refine (HL.out _ _ _ _ _ hbw2 hS2).mono ?_; rintro e w3 ⟨a3, c3, rfl, hP3, hb3⟩; have hB3 : SB (gp + 1) 0 0 none 0 0 ⟨#[]⟩ ⟨#[]⟩ ⟨#[]⟩ w3 := pblk_below hb3 hB2; have hbw3 := hbw2.trans (hb3.mono hbw2.size); obtain ⟨d0, d1, d2, d3, d4, d5, df⟩ := hB3.at))
      exact retS Tryz.results48 rfl rfl (hB3.all xc 0 none 0 0 ⟨#[]⟩ ⟨#[]⟩ ⟨#[]⟩) (by rw [ho.out]; exact SavedIs.code hbw3 hB3 hge')
end Go.Proofs.YtgicihmdcnelaaaGreatDoor
namespace Go.Proofs.YtgicihmdcnelaaaGreatDoor
open Go.RowKit Go.Proofs.Sha

set_option maxRecDepth 100000 in
set_option maxHeartbeats 2000000 in
theorem chgP_any (HH : Hid (HashSaid KTab)) (D : Dec) (n : Int) (HD : Hid (∀ wd : Nat, (wd : Int) = n → 1 ≤ wd → wd ≤ 32 → DecSaid 145 wd D)) (hdo : ∀ wd : Nat, (wd : Int) = n → DecOk wd D) (a : Option Addr) (ss : List ByteArray) (c : Nat) (root : ByteArray) (ck cv : Nat) (w : World) (h : SArg a ss w) (hK : KTab w) (hr : root.size ≤ 1048576) (cf : List PairT → Int) (tf : List PairT → List PairT)
    (HC : Hid (∀ (wd : Nat) ps, (wd : Int) = n → KeysUp (keys ps) → ps.length ≤ 500 → SmallP ps → (∀ p ∈ ps, okKey p.1 = true ∧ okVal p.2 = true) → (cf ps = 0 → Apart (tf ps) ∧ ∀ x ∈ tf ps, x.1.size ≤ 1048576 ∧ x.2.size ≤ 1048576) ∧ ∀ n0 p w1, Below w.heap.size w w1 → n0 ≤ w1.heap.size → TA n0 bare (cutTree ps) p w1 → Calls Tryz.prog 53 #[.pointer p, .pointer (some ⟨ck, 0, none⟩), .pointer (some ⟨cv, 0, none⟩)] w1 fun e w2 => ∃ q, e = .returned (.tuple #[.pointer q, .int .i64 (cf ps)]) ∧ (cf ps = 0 → TA n0 bare (cutTree (tf ps)) q w2) ∧ Below w1.heap.size w1 w2)) :
    Calls Tryz.prog 48 #[.agg #[.int .i64 n, .slice a ss.length c], .string root, .func (.func 53) #[] #[.pointer (some ⟨ck, 0, none⟩), .pointer (some ⟨cv, 0, none⟩)]] w (SavedIs (chgO n ss (rangeM (fndD D n.toNat ss) n ss.length root ⟨#[]⟩ ⟨#[]⟩) (cf (rangeM (fndD D n.toNat ss) n ss.length root ⟨#[]⟩ ⟨#[]⟩).1) (tf (rangeM (fndD D n.toNat ss) n ss.length root ⟨#[]⟩ ⟨#[]⟩).1)) w) := by
  have HV : Hid (∀ w', Calls Tryz.prog 35 #[.agg #[.int .i64 n, .slice a ss.length c]] w' fun e w'' => e = .returned (.bool (poolOk n ss.length)) ∧ Below w'.heap.size w' w'') := fun w' => validPool_any n a ss.length c w' h.le
  have hbA : Below w.heap.size w ((w.alloc (.cells #[.int .i64 n, .slice a ss.length c] 28)).alloc (.cells #[.int .i64 0, .int .i64 0, .slice none 0 0, .string ⟨#[]⟩, .string ⟨#[]⟩, .string ⟨#[]⟩] 30)) := ((Below.refl _ _).alloc (Nat.le_refl _) _).alloc (by simp) _
  have nB := heap_alloc_new (w.alloc (.cells #[.int .i64 n, .slice a ss.length c] 28)) (.cells #[.int .i64 0, .int .i64 0, .slice none 0 0, .string ⟨#[]⟩, .string ⟨#[]⟩, .string ⟨#[]⟩] 30)
  have nA := (Below.heap_alloc (w.alloc (.cells #[.int .i64 n, .slice a ss.length c] 28)) (.cells #[.int .i64 0, .int .i64 0, .slice none 0 0, .string ⟨#[]⟩, .string ⟨#[]⟩, .string ⟨#[]⟩] 30) w.heap.size (by simp)).trans (heap_alloc_new w _)
  rw [World.size_alloc] at nB
  obtain ⟨gp, hgp⟩ : ∃ g, w.heap.size = g := ⟨_, rfl⟩
  have hge' : w.heap.size ≤ gp + 1 := by omega
  obtain ⟨X, hX⟩ : ∃ X, rangeM (fndD D n.toNat ss) n ss.length root ⟨#[]⟩ ⟨#[]⟩ = X := ⟨_, rfl⟩
  rw [hX]
  obtain ⟨O, hO⟩ : ∃ O, chgO n ss X (cf X.1) (tf X.1) = O := ⟨_, rfl⟩
  rw [hO]
  have HO : Hid (chgO n ss X (cf X.1) (tf X.1) = O) := hO
  clear hO
  go_enter Tryz.func48, Tryz.ntmps48
  go_upto_region 1 with fail
  generalize ((w.alloc (.cells #[.int .i64 n, .slice a ss.length c] 28)).alloc (.cells #[.int .i64 0, .int .i64 0, .slice none 0 0, .string ⟨#[]⟩, .string ⟨#[]⟩, .string ⟨#[]⟩] 30)) = wA at hbA nA nB ⊢
  try rw [hgp]
  rw [hgp] at nA nB
  have p0 := Lib.cell_of_heap nA 0
  have p1 := Lib.cell_of_heap nA 1
  have HB : Hid (∀ W, Below wA.heap.size wA W → Below w.heap.size w W ∧ SB (gp + 1) 0 0 none 0 0 ⟨#[]⟩ ⟨#[]⟩ ⟨#[]⟩ W ∧ W.cell? ⟨gp, 0, none⟩ = some (.int .i64 n) ∧ W.cell? ⟨gp, 1, none⟩ = some (.slice a ss.length c)) := fun W hW => ⟨hbA.trans (hW.mono hbA.size), pblk_below hW nB, Lib.cell_of_heap (pblk_below hW nA) 0, Lib.cell_of_heap (pblk_below hW nA) 1⟩
  cases hp : poolOk n ss.length with
  | false =>
    have ho : Hid (O = codeO 1) := by
      show _ = _
      rw [← HO.out, ← hX, rangeM_bad (by rw [hp]; rfl)]
      rfl
    rw [hp] at HV
    clear h hK HH HC HD HO hX
    go_wp2_with (first | (go_at_call 35; refine (HV.out _).mono ?_; rintro e w1 ⟨rfl, hb1⟩; obtain ⟨hbw, hB1, _, _⟩ := HB.out _ hb1; obtain ⟨d0, d1, d2, d3, d4, d5, df⟩ := hB1.at))
    exact retS Tryz.results48 rfl rfl (hB1.all 1 0 none 0 0 ⟨#[]⟩ ⟨#[]⟩ ⟨#[]⟩) (by rw [ho.out]; exact SavedIs.code hbw hB1 hge')
  | true =>
    rw [hp] at HV
    have hp' : 1 ≤ n ∧ n ≤ 32 ∧ ss.length ≤ 20000 := of_decide_eq_true hp
    obtain ⟨wd, rfl⟩ : ∃ wd : Nat, n = (wd : Int) := ⟨n.toNat, by omega⟩
    have hfo : FndOk wd (fndD D wd ss) := fndD_ok D wd ss (hdo wd rfl)
    have hup : KeysUp (keys X.1) := by rw [← hX]; exact rangeM_up (wd := wd) (by rw [Int.toNat_natCast]; exact hfo) _ _ _ _ _
    have hsm : X.1.length ≤ 500 ∧ SmallP X.1 := by rw [← hX]; exact rangeM_small (wd := wd) (by rw [Int.toNat_natCast]; exact hfo) _ _ _ _ _
    have hok : ∀ p ∈ X.1, okKey p.1 = true ∧ okVal p.2 = true := by
      intro p hpm
      rw [← hX, Int.toNat_natCast] at hpm
      unfold rangeM at hpm
      split at hpm
      · split at hpm
        · exact goF_ok hfo _ _ _ _ _ _ p hpm
        · cases hpm
      · cases hpm
    obtain ⟨hap, HCr⟩ := HC.out wd X.1 rfl hup hsm.1 hsm.2 hok
    have hrM : X = (if hashOk root.size (wd : Int) = true then (if (goF (fndD D wd ss) hgW ⟨#[]⟩ ⟨#[]⟩ 501 root ⟨#[]⟩ ⟨#[]⟩ ⟨#[]⟩ 0).1 = 0 then ((goF (fndD D wd ss) hgW ⟨#[]⟩ ⟨#[]⟩ 501 root ⟨#[]⟩ ⟨#[]⟩ ⟨#[]⟩ 0).2.2, (0 : Int)) else ([], (goF (fndD D wd ss) hgW ⟨#[]⟩ ⟨#[]⟩ 501 root ⟨#[]⟩ ⟨#[]⟩ ⟨#[]⟩ 0).1)) else ([], 1)) := by
      rw [← hX]
      unfold rangeM
      rw [hp, Bool.true_and, Int.toNat_natCast]
    have HS : Hid (∀ w', Below w.heap.size w w' → Calls Tryz.prog 38 #[.agg #[.int .i64 (wd : Int), .slice a ss.length c]] w' fun e w'' => ∃ sb r a' c', e = .returned (.pointer (some ⟨sb, 0, none⟩)) ∧ StockAt sb r (sb + 1) wd ss a' c' w'' ∧ Below w'.heap.size w' w'') := fun w' hb => stockOf_any HH (fun w1 w2 h1 hb => KTab.below h1 hb) wd a ss c w' (h.below hb) (hK.below hb) (by omega)
    have HL : Hid (∀ w1 sb r a' c', Below w.heap.size w w1 → StockAt sb r (sb + 1) wd ss a' c' w1 → Calls Tryz.prog 72 #[.pointer (some ⟨sb, 0, none⟩), .string root] w1 fun e w2 => ∃ a3 c3, e = .returned (.tuple #[.slice a3 X.1.length c3, .int .i64 X.2]) ∧ PArg a3 X.1 w2 ∧ Below w1.heap.size w1 w2) := fun w1 sb r a' c' hb1 hs => by
      have := ld_any (fndD D wd ss) wd hfo sb root _ _ w1 hs.blk hr (fun hash w' hh hb' => stockFind_any D sb r (sb + 1) wd (HD.out wd rfl (by omega) (by omega)) ss a' c' hash w' (hs.below hb') h.sz (by have := h.le; omega) (by omega) hh) (fun k w' hk hb' => rank_any k w' (by unfold okKey at hk; have := of_decide_eq_true hk; omega) ((hK.below hb1).below hb'))
      rw [← hrM] at this
      refine this.mono ?_
      rintro e w2 ⟨⟨a3, c3, he, ho⟩, hb2⟩
      exact ⟨a3, c3, he, own_parg ho hsm.2, hb2⟩
    have HT : Hid (∀ a3 c3 w', Below w.heap.size w w' → PArg a3 X.1 w' → Calls Tryz.prog 39 #[.slice a3 X.1.length c3] w' fun e w'' => ∃ p, e = .returned (.pointer p) ∧ TA w'.heap.size bare (cutTree X.1) p w'' ∧ Below w'.heap.size w' w'') := fun a3 c3 w' hb hpa => by
      have := treeOf_any rank_said (fun w1 w2 k hb => KTab.below k hb) a3 X.1 c3 w' hpa (hK.below hb)
      rw [merged_cut X.1 (ku_apart hup)] at this
      exact this
    have HX : Hid (cf X.1 = 0 → ∀ w3 w5 sb r a' c' q, Below w.heap.size w w3 → SB (gp + 1) 0 0 none 0 0 ⟨#[]⟩ ⟨#[]⟩ ⟨#[]⟩ w3 → StockAt sb r (sb + 1) wd ss a' c' w3 → TA w3.heap.size bare (cutTree (tf X.1)) q w5 → Below w3.heap.size w3 w5 → Calls Tryz.prog 37 #[.pointer (some ⟨sb, 0, none⟩), .pointer q] w5 fun e W => ∃ a m c, e = .returned (svV (savO wd ss (cutTree (tf X.1))).cd (savO wd ss (cutTree (tf X.1))).n a m c (savO wd ss (cutTree (tf X.1))).root (savO wd ss (cutTree (tf X.1))).x (savO wd ss (cutTree (tf X.1))).y) ∧ SB (gp + 1) 0 0 none 0 0 ⟨#[]⟩ ⟨#[]⟩ ⟨#[]⟩ W ∧ SavedIs (savO wd ss (cutTree (tf X.1))) w (.returned (svV (savO wd ss (cutTree (tf X.1))).cd (savO wd ss (cutTree (tf X.1))).n a m c (savO wd ss (cutTree (tf X.1))).root (savO wd ss (cutTree (tf X.1))).x (savO wd ss (cutTree (tf X.1))).y)) (set6 W (gp + 1) (savO wd ss (cutTree (tf X.1))).cd (savO wd ss (cutTree (tf X.1))).n a m c (savO wd ss (cutTree (tf X.1))).root (savO wd ss (cutTree (tf X.1))).x (savO wd ss (cutTree (tf X.1))).y)) := fun hcf w3 w5 sb r a' c' q hb3 hB3 hS3 hT5 hb5 => by
      obtain ⟨ha, hsz⟩ := hap hcf
      have hin := cutTree_inord (tf X.1)
      refine (saved_any HH sb r (sb + 1) wd ss a' c' (cutTree (tf X.1)) q w3.heap.size w3 w5 hb5 (Nat.le_refl _) (fun W hW => hS3.below (hb5.trans hW)) (fun W hW => (hK.below hb3).below (hb5.trans hW)) hb5.size hT5 (by rw [hin]; exact ha) (by rw [hin]; exact hsz) hp'.2.2 h.sz (by omega) (by omega)).mono ?_
      intro e W hE
      exact SavedIs.put hE hb3 hB3 (by omega)
    have HCc : Hid _ := HCr
    clear HCr
    obtain ⟨qs, hqs⟩ : ∃ qs, tf X.1 = qs := ⟨_, rfl⟩
    obtain ⟨cd, hcd⟩ : ∃ cd, cf X.1 = cd := ⟨_, rfl⟩
    rw [hqs, hcd] at HX HCc HO
    obtain ⟨ps, xc⟩ := X
    dsimp only at HX HCc HO HL HT
    obtain ⟨K, hKK⟩ : ∃ K, ps.length = K := ⟨_, rfl⟩
    rw [hKK] at HL HT
    clear h hK HH HC HD hX hrM hup hsm hok hap hqs hcd hKK hp'
    by_cases hx : xc = 0
    · subst hx
      by_cases hc0 : cd = 0
      · subst hc0
        have ho : Hid (O = savO wd ss (cutTree qs)) := by
          show _ = _
          rw [← HO.out]
          rfl
        have HX' := HX.out rfl
        generalize savO wd ss (cutTree qs) = O' at HX' ho
        obtain ⟨od, on, oxs, oroot, ox, oy⟩ := O'
        dsimp only at HX'
        have HX'' : Hid _ := HX'
        clear HX HX' HO
        go_wp2_with (first | (go_at_call 35; refine (HV.out _).mono ?_; rintro e w1 ⟨rfl, hb1⟩; obtain ⟨hbw1, hB1, q0, q1⟩ := HB.out _ hb1) | (go_at_call 38; refine (HS.out _ hbw1).mono ?_; rintro e w2 ⟨sb, r, a2, c2, rfl, hS2, hb2⟩; have hB2 : SB (gp + 1) 0 0 none 0 0 ⟨#[]⟩ ⟨#[]⟩ ⟨#[]⟩ w2 := pblk_below hb2 hB1; have hbw2 := hbw1.trans (hb2.mono hbw1.size); clear q0 q1) | (go_at_call 72; refine (HL.out _ _ _ _ _ hbw2 hS2).mono ?_; rintro e w3 ⟨a3, c3, rfl, hP3, hb3⟩; have hB3 : SB (gp + 1) 0 0 none 0 0 ⟨#[]⟩ ⟨#[]⟩ ⟨#[]⟩ w3 := pblk_below hb3 hB2; have hbw3 := hbw2.trans (hb3.mono hbw2.size); have hS3 := hS2.below hb3) | (go_at_call 39; refine (HT.out _ _ _ hbw3 hP3).mono ?_; rintro e w4 ⟨p4, rfl, hT4, hb4⟩; have hbw4 := hbw3.trans (hb4.mono hbw3.size); have hs4 := hb4.size) | (go_at_call 53; refine (HCc.out _ _ _ hbw4 hs4 hT4).mono ?_; rintro e w5 ⟨q5, rfl, hT5, hb5⟩; have hb35 := hb4.trans (hb5.mono hs4)) | (go_at_call 37; refine (HX''.out _ _ _ _ _ _ _ hbw3 hB3 hS3 (hT5 (by trivial)) hb35).mono ?_; rintro e w6 ⟨a6, m6, c6, rfl, hB6, hF6⟩; obtain ⟨d0, d1, d2, d3, d4, d5, df⟩ := hB6.at))
        exact retS Tryz.results48 rfl rfl (hB6.all od on a6 m6 c6 oroot ox oy) (by rw [ho.out]; exact hF6)
      · have ho : Hid (O = codeO cd) := by
          show _ = _
          rw [← HO.out]
          unfold chgO
          rw [if_neg (by simp), if_pos hc0]
        have zc : (cd != 0) = true := by simp [hc0]
        clear HX HO hc0
        go_wp2_with (first | (go_at_call 35; refine (HV.out _).mono ?_; rintro e w1 ⟨rfl, hb1⟩; obtain ⟨hbw1, hB1, q0, q1⟩ := HB.out _ hb1) | (go_at_call 38; refine (HS.out _ hbw1).mono ?_; rintro e w2 ⟨sb, r, a2, c2, rfl, hS2, hb2⟩; have hB2 : SB (gp + 1) 0 0 none 0 0 ⟨#[]⟩ ⟨#[]⟩ ⟨#[]⟩ w2 := pblk_below hb2 hB1; have hbw2 := hbw1.trans (hb2.mono hbw1.size); clear q0 q1) | (go_at_call 72; refine (HL.out _ _ _ _ _ hbw2 hS2).mono ?_; rintro e w3 ⟨a3, c3, rfl, hP3, hb3⟩; have hB3 : SB (gp + 1) 0 0 none 0 0 ⟨#[]⟩ ⟨#[]⟩ ⟨#[]⟩ w3 := pblk_below hb3 hB2; have hbw3 := hbw2.trans (hb3.mono hbw2.size)) | (go_at_call 39; refine (HT.out _ _ _ hbw3 hP3).mono ?_; rintro e w4 ⟨p4, rfl, hT4, hb4⟩; have hbw4 := hbw3.trans (hb4.mono hbw3.size); have hs4 := hb4.size) | (go_at_call 53; refine (HCc.out _ _ _ hbw4 hs4 hT4).mono ?_; rintro e w5 ⟨q5, rfl, _, hb5⟩; have hB5 : SB (gp + 1) 0 0 none 0 0 ⟨#[]⟩ ⟨#[]⟩ ⟨#[]⟩ w5 := pblk_below hb5 (pblk_below hb4 hB3); have hbw5 := hbw4.trans (hb5.mono hbw4.size); obtain ⟨d0, d1, d2, d3, d4, d5, df⟩ := hB5.at))
        exact retS Tryz.results48 rfl rfl (hB5.all cd 0 none 0 0 ⟨#[]⟩ ⟨#[]⟩ ⟨#[]⟩) (by rw [ho.out]; exact SavedIs.code hbw5 hB5 hge')
    · have ho : Hid (O = codeO xc) := by
        show _ = _
        rw [← HO.out]
        unfold chgO
        rw [if_pos hx]
      have zc : (xc != 0) = true := by simp [hx]
      clear HX HO HCc HT
      go_wp2_with (first | (go_at_call 35; refine (HV.out _).mono ?_; rintro e w1 ⟨rfl, hb1⟩; obtain ⟨hbw1, hB1, q0, q1⟩ := HB.out _ hb1) | (go_at_call 38; refine (HS.out _ hbw1).mono ?_; rintro e w2 ⟨sb, r, a2, c2, rfl, hS2, hb2⟩; have hB2 : SB (gp + 1) 0 0 none 0 0 ⟨#[]⟩ ⟨#[]⟩ ⟨#[]⟩ w2 := pblk_below hb2 hB1; have hbw2 := hbw1.trans (hb2.mono hbw1.size); clear q0 q1) | (go_at_call 72; refine (HL.out _ _ _ _ _ hbw2 hS2).mono ?_; rintro e w3 ⟨a3, c3, rfl, hP3, hb3⟩; have hB3 : SB (gp + 1) 0 0 none 0 0 ⟨#[]⟩ ⟨#[]⟩ ⟨#[]⟩ w3 := pblk_below hb3 hB2; have hbw3 := hbw2.trans (hb3.mono hbw2.size); obtain ⟨d0, d1, d2, d3, d4, d5, df⟩ := hB3.at))
      exact retS Tryz.results48 rfl rfl (hB3.all xc 0 none 0 0 ⟨#[]⟩ ⟨#[]⟩ ⟨#[]⟩) (by rw [ho.out]; exact SavedIs.code hbw3 hB3 hge')
end Go.Proofs.YtgicihmdcnelaaaGreatDoor
namespace Go.Proofs.YtgicihmdcnelaaaGreatDoor
open Go.RowKit Go.Proofs.Sha

theorem wout_mem {ps : List PairT} {k : ByteArray} {p : PairT} (h : p ∈ wout ps k) : p ∈ ps := (List.mem_filter.1 h).1
theorem ins_mem {k v : ByteArray} : ∀ {ps : List PairT} {p : PairT}, p ∈ ins k v ps → p = (k, v) ∨ p ∈ ps
  | [], p, h => .inl (List.mem_singleton.1 h)
  | q :: qs, p, h => by
    rw [ins] at h
    split at h
    · exact List.mem_cons.1 h
    · rcases List.mem_cons.1 h with h | h
      · exact .inr (by rw [h]; exact List.mem_cons_self ..)
      · rcases ins_mem h with h | h
        · exact .inl h
        · exact .inr (List.mem_cons_of_mem _ h)
theorem ins_len (k v : ByteArray) : ∀ (ps : List PairT), (ins k v ps).length = ps.length + 1
  | [] => rfl
  | q :: qs => by
    rw [ins]
    split
    · rfl
    · rw [List.length_cons, ins_len k v qs]; rfl
theorem wth_mem {ps : List PairT} {k v : ByteArray} {p : PairT} (h : p ∈ wth ps k v) : p = (k, v) ∨ p ∈ ps := by
  rcases ins_mem h with h | h
  · exact .inl h
  · exact .inr (wout_mem h)
theorem wthLen (ps : List PairT) (k v : ByteArray) : (wth ps k v).length ≤ ps.length + 1 := by
  unfold wth
  rw [ins_len]
  have := wout_le ps k
  omega
theorem smallP_of {ps : List PairT} (h : ps.length ≤ 1048576) (hs : ∀ p ∈ ps, p.1.size ≤ 1048576 ∧ p.2.size ≤ 1048576) : SmallP ps := by
  refine ⟨h, fun j => ?_⟩
  by_cases hj : j < ps.length
  · rw [getD_lt ps j hj]
    exact hs _ (List.getElem_mem _)
  · rw [pget_out ps j (by omega)]
    exact noP_small
theorem smallP_mem {ps : List PairT} (h : SmallP ps) : ∀ p ∈ ps, p.1.size ≤ 1048576 ∧ p.2.size ≤ 1048576 := fun p hp => by
  obtain ⟨i, hi, rfl⟩ := List.getElem_of_mem hp
  have := h.2 i
  rw [getD_lt ps i hi] at this
  exact this
/-- What Del answers. -/
def delO (D : Dec) (n : Int) (ss : List ByteArray) (root key : ByteArray) : SvO := chgO n ss (rangeM (fndD D n.toNat ss) n ss.length root ⟨#[]⟩ ⟨#[]⟩) (if okKey key = true then 0 else 1) (wout (rangeM (fndD D n.toNat ss) n ss.length root ⟨#[]⟩ ⟨#[]⟩).1 key)
/-- What Put answers. -/
def putO (D : Dec) (n : Int) (ss : List ByteArray) (root key val : ByteArray) : SvO := chgO n ss (rangeM (fndD D n.toNat ss) n ss.length root ⟨#[]⟩ ⟨#[]⟩) (putCd key val (rangeM (fndD D n.toNat ss) n ss.length root ⟨#[]⟩ ⟨#[]⟩).1) (wth (rangeM (fndD D n.toNat ss) n ss.length root ⟨#[]⟩ ⟨#[]⟩).1 key val)
theorem chgD (HH : Hid (HashSaid KTab)) (D : Dec) (n : Int) (HD : Hid (∀ wd : Nat, (wd : Int) = n → 1 ≤ wd → wd ≤ 32 → DecSaid 145 wd D)) (hdo : ∀ wd : Nat, (wd : Int) = n → DecOk wd D) (a : Option Addr) (ss : List ByteArray) (c : Nat) (root key : ByteArray) (ck : Nat) (w : World) (h : SArg a ss w) (hK : KTab w) (hr : root.size ≤ 1048576) (hk : key.size ≤ 1048576) (hc : w.cell? ⟨ck, 0, none⟩ = some (.string key)) :
    Calls Tryz.prog 48 #[.agg #[.int .i64 n, .slice a ss.length c], .string root, .func (.func 49) #[] #[.pointer (some ⟨ck, 0, none⟩)]] w (SavedIs (delO D n ss root key) w) := by
  refine chgD_any HH D n HD hdo a ss c root ck w h hK hr (fun _ => if okKey key = true then 0 else 1) (fun ps => wout ps key) ?_
  intro wd ps _ hku hlen hsm hok
  refine ⟨fun _ => ⟨ku_apart (ku_wout hku key), fun x hx => smallP_mem hsm x (wout_mem hx)⟩, fun n0 p w1 hb h0 ht => ?_⟩
  refine (delC_any key hk ck n0 ps hku p w1 h0 ht ((hb.cell (World.block_lt_of_cell? w _ hc)).trans hc)).mono ?_
  rintro e w2 ⟨q, he, hq, hb2⟩
  refine ⟨q, he, fun q0 => hq ?_, hb2⟩
  cases ho : okKey key with
  | true => rfl
  | false => rw [ho] at q0; cases q0
theorem chgP (HH : Hid (HashSaid KTab)) (D : Dec) (n : Int) (HD : Hid (∀ wd : Nat, (wd : Int) = n → 1 ≤ wd → wd ≤ 32 → DecSaid 145 wd D)) (hdo : ∀ wd : Nat, (wd : Int) = n → DecOk wd D) (a : Option Addr) (ss : List ByteArray) (c : Nat) (root key val : ByteArray) (ck cv : Nat) (w : World) (h : SArg a ss w) (hK : KTab w) (hr : root.size ≤ 1048576) (hk : key.size ≤ 1048576) (hv : val.size ≤ 1048576) (hc : w.cell? ⟨ck, 0, none⟩ = some (.string key)) (hc2 : w.cell? ⟨cv, 0, none⟩ = some (.string val)) :
    Calls Tryz.prog 48 #[.agg #[.int .i64 n, .slice a ss.length c], .string root, .func (.func 53) #[] #[.pointer (some ⟨ck, 0, none⟩), .pointer (some ⟨cv, 0, none⟩)]] w (SavedIs (putO D n ss root key val) w) := by
  refine chgP_any HH D n HD hdo a ss c root ck cv w h hK hr (fun ps => putCd key val ps) (fun ps => wth ps key val) ?_
  intro wd ps _ hku hlen hsm hok
  have hsz : ∀ x ∈ wth ps key val, x.1.size ≤ 1048576 ∧ x.2.size ≤ 1048576 := fun x hx => by
    rcases wth_mem hx with q | q
    · rw [q]; exact ⟨hk, hv⟩
    · exact smallP_mem hsm x q
  have hl := wthLen ps key val
  refine ⟨fun _ => ⟨ku_apart (ku_wth hku key val), hsz⟩, fun n0 p w1 hb h0 ht => ?_⟩
  exact putC_any key val hk hv ck cv n0 ps hku p w1 h0 ht (hK.below hb) (by omega) (smallP_of (by omega) hsz) ((hb.cell (World.block_lt_of_cell? w _ hc)).trans hc) ((hb.cell (World.block_lt_of_cell? w _ hc2)).trans hc2)
set_option maxRecDepth 100000 in
set_option maxHeartbeats 1000000 in
theorem idel_any (HH : Hid (HashSaid KTab)) (D : Dec) (n : Int) (HD : Hid (∀ wd : Nat, (wd : Int) = n → 1 ≤ wd → wd ≤ 32 → DecSaid 145 wd D)) (hdo : ∀ wd : Nat, (wd : Int) = n → DecOk wd D) (a : Option Addr) (ss : List ByteArray) (c : Nat) (root key : ByteArray) (w : World) (h : SArg a ss w) (hK : KTab w) (hr : root.size ≤ 1048576) (hk : key.size ≤ 1048576) :
    Calls Tryz.prog 20 #[.agg #[.int .i64 n, .slice a ss.length c], .string root, .string key] w (SavedIs (delO D n ss root key) w) := by
  have hmf : ∀ (fn : Fn) (first cap : Array Value) (w : World), (Instr.makeFunc fn first cap).run Tryz.prog w = .ok (.func fn first cap) w := fun _ _ _ _ => rfl
  have hbA : Below w.heap.size w (((w.alloc (.cells #[.int .i64 n, .slice a ss.length c] 28)).alloc (.cells #[.string key] 9)).alloc (.cells #[.int .i64 0, .int .i64 0, .slice none 0 0, .string ⟨#[]⟩, .string ⟨#[]⟩, .string ⟨#[]⟩] 30)) := (((Below.refl _ _).alloc (Nat.le_refl _) _).alloc (by simp) _).alloc (by simp; omega) _
  have nB : SB (w.heap.size + 1 + 1) 0 0 none 0 0 ⟨#[]⟩ ⟨#[]⟩ ⟨#[]⟩ (((w.alloc (.cells #[.int .i64 n, .slice a ss.length c] 28)).alloc (.cells #[.string key] 9)).alloc (.cells #[.int .i64 0, .int .i64 0, .slice none 0 0, .string ⟨#[]⟩, .string ⟨#[]⟩, .string ⟨#[]⟩] 30)) := by
    have := heap_alloc_new ((w.alloc (.cells #[.int .i64 n, .slice a ss.length c] 28)).alloc (.cells #[.string key] 9)) (.cells #[.int .i64 0, .int .i64 0, .slice none 0 0, .string ⟨#[]⟩, .string ⟨#[]⟩, .string ⟨#[]⟩] 30)
    rw [World.size_alloc, World.size_alloc] at this
    exact this
  have nK : (((w.alloc (.cells #[.int .i64 n, .slice a ss.length c] 28)).alloc (.cells #[.string key] 9)).alloc (.cells #[.int .i64 0, .int .i64 0, .slice none 0 0, .string ⟨#[]⟩, .string ⟨#[]⟩, .string ⟨#[]⟩] 30)).heap[w.heap.size + 1]? = some (.cells #[.string key] 9) := by
    have := heap_alloc_new (w.alloc (.cells #[.int .i64 n, .slice a ss.length c] 28)) (.cells #[.string key] 9)
    rw [World.size_alloc] at this
    exact (Below.heap_alloc _ (.cells #[.int .i64 0, .int .i64 0, .slice none 0 0, .string ⟨#[]⟩, .string ⟨#[]⟩, .string ⟨#[]⟩] 30) _ (by simp)).trans this
  have HCh := chgD HH D n HD hdo a ss c root key (w.heap.size + 1) _ (h.below hbA) (hK.below hbA) hr hk (Lib.cell_of_heap nK 0)
  obtain ⟨O, hO⟩ : ∃ O, delO D n ss root key = O := ⟨_, rfl⟩
  rw [hO] at HCh ⊢
  clear hO
  have HCh2 := HCh.mono fun e W hE => SavedIs.put hE hbA nB (by omega)
  obtain ⟨od, on, oxs, oroot, ox, oy⟩ := O
  dsimp only at HCh2
  clear HCh
  go_enter Tryz.func20, Tryz.ntmps20
  go_wp2_with (first | (go_at_call 48; refine HCh2.mono ?_; rintro e w6 ⟨a6, m6, c6, rfl, hB6, hF6⟩; obtain ⟨d0, d1, d2, d3, d4, d5, df⟩ := hB6.at))
  exact retS Tryz.results20 rfl rfl (hB6.all od on a6 m6 c6 oroot ox oy) hF6
set_option maxRecDepth 100000 in
set_option maxHeartbeats 1000000 in
theorem iput_any (HH : Hid (HashSaid KTab)) (D : Dec) (n : Int) (HD : Hid (∀ wd : Nat, (wd : Int) = n → 1 ≤ wd → wd ≤ 32 → DecSaid 145 wd D)) (hdo : ∀ wd : Nat, (wd : Int) = n → DecOk wd D) (a : Option Addr) (ss : List ByteArray) (c : Nat) (root key val : ByteArray) (w : World) (h : SArg a ss w) (hK : KTab w) (hr : root.size ≤ 1048576) (hk : key.size ≤ 1048576) (hv : val.size ≤ 1048576) :
    Calls Tryz.prog 22 #[.agg #[.int .i64 n, .slice a ss.length c], .string root, .string key, .string val] w (SavedIs (putO D n ss root key val) w) := by
  have hmf : ∀ (fn : Fn) (first cap : Array Value) (w : World), (Instr.makeFunc fn first cap).run Tryz.prog w = .ok (.func fn first cap) w := fun _ _ _ _ => rfl
  have hbA : Below w.heap.size w ((((w.alloc (.cells #[.int .i64 n, .slice a ss.length c] 28)).alloc (.cells #[.string key] 9)).alloc (.cells #[.string val] 9)).alloc (.cells #[.int .i64 0, .int .i64 0, .slice none 0 0, .string ⟨#[]⟩, .string ⟨#[]⟩, .string ⟨#[]⟩] 30)) := ((((Below.refl _ _).alloc (Nat.le_refl _) _).alloc (by simp) _).alloc (by simp; omega) _).alloc (by simp; omega) _
  have nB : SB (w.heap.size + 1 + 1 + 1) 0 0 none 0 0 ⟨#[]⟩ ⟨#[]⟩ ⟨#[]⟩ ((((w.alloc (.cells #[.int .i64 n, .slice a ss.length c] 28)).alloc (.cells #[.string key] 9)).alloc (.cells #[.string val] 9)).alloc (.cells #[.int .i64 0, .int .i64 0, .slice none 0 0, .string ⟨#[]⟩, .string ⟨#[]⟩, .string ⟨#[]⟩] 30)) := by
    have := heap_alloc_new (((w.alloc (.cells #[.int .i64 n, .slice a ss.length c] 28)).alloc (.cells #[.string key] 9)).alloc (.cells #[.string val] 9)) (.cells #[.int .i64 0, .int .i64 0, .slice none 0 0, .string ⟨#[]⟩, .string ⟨#[]⟩, .string ⟨#[]⟩] 30)
    rw [World.size_alloc, World.size_alloc, World.size_alloc] at this
    exact this
  have nK : ((((w.alloc (.cells #[.int .i64 n, .slice a ss.length c] 28)).alloc (.cells #[.string key] 9)).alloc (.cells #[.string val] 9)).alloc (.cells #[.int .i64 0, .int .i64 0, .slice none 0 0, .string ⟨#[]⟩, .string ⟨#[]⟩, .string ⟨#[]⟩] 30)).heap[w.heap.size + 1]? = some (.cells #[.string key] 9) := by
    have := heap_alloc_new (w.alloc (.cells #[.int .i64 n, .slice a ss.length c] 28)) (.cells #[.string key] 9)
    rw [World.size_alloc] at this
    exact (Below.heap_alloc _ (.cells #[.int .i64 0, .int .i64 0, .slice none 0 0, .string ⟨#[]⟩, .string ⟨#[]⟩, .string ⟨#[]⟩] 30) _ (by simp)).trans ((Below.heap_alloc _ (.cells #[.string val] 9) _ (by simp)).trans this)
  have nV : ((((w.alloc (.cells #[.int .i64 n, .slice a ss.length c] 28)).alloc (.cells #[.string key] 9)).alloc (.cells #[.string val] 9)).alloc (.cells #[.int .i64 0, .int .i64 0, .slice none 0 0, .string ⟨#[]⟩, .string ⟨#[]⟩, .string ⟨#[]⟩] 30)).heap[w.heap.size + 1 + 1]? = some (.cells #[.string val] 9) := by
    have := heap_alloc_new ((w.alloc (.cells #[.int .i64 n, .slice a ss.length c] 28)).alloc (.cells #[.string key] 9)) (.cells #[.string val] 9)
    rw [World.size_alloc, World.size_alloc] at this
    exact (Below.heap_alloc _ (.cells #[.int .i64 0, .int .i64 0, .slice none 0 0, .string ⟨#[]⟩, .string ⟨#[]⟩, .string ⟨#[]⟩] 30) _ (by simp)).trans this
  have HCh := chgP HH D n HD hdo a ss c root key val (w.heap.size + 1) (w.heap.size + 1 + 1) _ (h.below hbA) (hK.below hbA) hr hk hv (Lib.cell_of_heap nK 0) (Lib.cell_of_heap nV 0)
  obtain ⟨O, hO⟩ : ∃ O, putO D n ss root key val = O := ⟨_, rfl⟩
  rw [hO] at HCh ⊢
  clear hO
  have HCh2 := HCh.mono fun e W hE => SavedIs.put hE hbA nB (by omega)
  obtain ⟨od, on, oxs, oroot, ox, oy⟩ := O
  dsimp only at HCh2
  clear HCh
  go_enter Tryz.func22, Tryz.ntmps22
  go_wp2_with (first | (go_at_call 48; refine HCh2.mono ?_; rintro e w6 ⟨a6, m6, c6, rfl, hB6, hF6⟩; obtain ⟨d0, d1, d2, d3, d4, d5, df⟩ := hB6.at))
  exact retS Tryz.results22 rfl rfl (hB6.all od on a6 m6 c6 oroot ox oy) hF6
end Go.Proofs.YtgicihmdcnelaaaGreatDoor
