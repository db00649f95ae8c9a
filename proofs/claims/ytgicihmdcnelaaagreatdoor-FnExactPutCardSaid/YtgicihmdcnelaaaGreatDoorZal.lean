import Derived.Test.YtgicihmdcnelaaaGreatDoorZak
import Derived.Test.YtgicihmdcnelaaaGreatDoorZaf
import Derived.Laws.MakeOwn
import Derived.Laws.OwnMore
namespace Go.Proofs.YtgicihmdcnelaaaGreatDoor
open Go.RowKit Go.Proofs.Sha

abbrev ChT := ByteArray × Bool × ByteArray × Bool × ByteArray
def getP : List PairT → ByteArray → ByteArray × Bool
  | [], _ => (⟨#[]⟩, false)
  | p :: ps, k => if p.1 = k then (p.2, true) else getP ps k
def chOf (ps qs : List PairT) (k : ByteArray) : Option ChT :=
  if (getP ps k).2 ≠ (getP qs k).2 ∨ (getP ps k).1 ≠ (getP qs k).1 then some (k, (getP ps k).2, (getP ps k).1, (getP qs k).2, (getP qs k).1) else none
/-- The changes, two lists gone through side by side. -/
def chg : List PairT → List PairT → List ChT
  | [], [] => []
  | p :: ps, [] => (p.1, true, p.2, false, ⟨#[]⟩) :: chg ps []
  | [], q :: qs => (q.1, false, ⟨#[]⟩, true, q.2) :: chg [] qs
  | p :: ps, q :: qs => if p.1 = q.1 then (if p.2 = q.2 then chg ps qs else (p.1, true, p.2, true, q.2) :: chg ps qs) else if lessB p.1 q.1 = true then (p.1, true, p.2, false, ⟨#[]⟩) :: chg ps (q :: qs) else (q.1, false, ⟨#[]⟩, true, q.2) :: chg (p :: ps) qs
termination_by ps qs => ps.length + qs.length
def kU : List PairT → List PairT → List ByteArray
  | [], [] => []
  | p :: ps, [] => p.1 :: kU ps []
  | [], q :: qs => q.1 :: kU [] qs
  | p :: ps, q :: qs => if p.1 = q.1 then p.1 :: kU ps qs else if lessB p.1 q.1 = true then p.1 :: kU ps (q :: qs) else q.1 :: kU (p :: ps) qs
termination_by ps qs => ps.length + qs.length
theorem mem_kU (x : ByteArray) : ∀ (n : Nat) (ps qs : List PairT), ps.length + qs.length = n → (x ∈ kU ps qs ↔ x ∈ keys ps ∨ x ∈ keys qs) := by
  intro n
  induction n using Nat.strongRecOn with
  | ind n ih =>
    intro ps qs hn
    match ps, qs with
    | [], [] => rw [kU]; simp
    | p :: ps, [] =>
      rw [kU, List.mem_cons, ih _ (by simp at hn ⊢; omega) ps [] rfl]
      simp
    | [], q :: qs =>
      rw [kU, List.mem_cons, ih _ (by simp at hn ⊢; omega) [] qs rfl]
      simp
    | p :: ps, q :: qs =>
      rw [kU]
      split
      · rename_i e
        rw [List.mem_cons, ih _ (by simp at hn ⊢; omega) ps qs rfl]
        simp only [keys, List.map_cons, List.mem_cons]
        rw [e]
        constructor
        · rintro (h | h | h)
          · exact .inl (.inl h)
          · exact .inl (.inr h)
          · exact .inr (.inr h)
        · rintro ((h | h) | (h | h))
          · exact .inl h
          · exact .inr (.inl h)
          · exact .inl h
          · exact .inr (.inr h)
      · split
        · rw [List.mem_cons, ih _ (by simp at hn ⊢; omega) ps (q :: qs) rfl]
          simp only [keys, List.map_cons, List.mem_cons]
          constructor
          · rintro (h | h | h)
            · exact .inl (.inl h)
            · exact .inl (.inr h)
            · exact .inr h
          · rintro ((h | h) | h)
            · exact .inl h
            · exact .inr (.inl h)
            · exact .inr (.inr h)
        · rw [List.mem_cons, ih _ (by simp at hn ⊢; omega) (p :: ps) qs rfl]
          simp only [keys, List.map_cons, List.mem_cons]
          constructor
          · rintro (h | h | h)
            · exact .inr (.inl h)
            · exact .inl h
            · exact .inr (.inr h)
          · rintro (h | (h | h))
            · exact .inr (.inl h)
            · exact .inl h
            · exact .inr (.inr h)
theorem getP_none {ps : List PairT} {k : ByteArray} (h : k ∉ keys ps) : getP ps k = (⟨#[]⟩, false) := by
  induction ps with
  | nil => rfl
  | cons p ps ih =>
    simp only [keys, List.map_cons, List.mem_cons, not_or] at h
    rw [getP, if_neg (fun e => h.1 e.symm)]
    exact ih h.2
theorem getP_hit (p : PairT) (ps : List PairT) : getP (p :: ps) p.1 = (p.2, true) := by rw [getP, if_pos rfl]
theorem getP_skip {p : PairT} {ps : List PairT} {k : ByteArray} (h : p.1 ≠ k) : getP (p :: ps) k = getP ps k := by rw [getP, if_neg h]
theorem ne_of_less {a b : ByteArray} (h : lessB a b = true) : a ≠ b := fun e => by subst e; rw [lessB_irr] at h; cases h
theorem fm_congr {f g : ByteArray → Option ChT} : ∀ {l : List ByteArray}, (∀ x ∈ l, f x = g x) → l.filterMap f = l.filterMap g
  | [], _ => rfl
  | a :: l, h => by rw [List.filterMap_cons, List.filterMap_cons, h a List.mem_cons_self, fm_congr (fun x hx => h x (List.mem_cons_of_mem _ hx))]
theorem chg_kU : ∀ (n : Nat) (ps qs : List PairT), ps.length + qs.length = n → KeysUp (keys ps) → KeysUp (keys qs) → KeysUp (kU ps qs) ∧ chg ps qs = (kU ps qs).filterMap (chOf ps qs) := by
  intro n
  induction n using Nat.strongRecOn with
  | ind n ih =>
    intro ps qs hn hp hq
    match ps, qs with
    | [], [] => rw [kU, chg]; exact ⟨trivial, rfl⟩
    | p :: ps, [] =>
      obtain ⟨i1, i2⟩ := ih _ (by simp at hn ⊢; omega) ps [] rfl hp.2 hq
      have hm : ∀ x ∈ kU ps [], lessB p.1 x = true := fun x hx => by
        rcases (mem_kU x _ ps [] rfl).1 hx with h | h
        · exact hp.1 x h
        · simp at h
      rw [kU, chg, i2]
      refine ⟨⟨hm, i1⟩, ?_⟩
      have e0 : chOf (p :: ps) [] p.1 = some (p.1, true, p.2, false, ⟨#[]⟩) := by
        unfold chOf
        rw [getP_hit, getP]
        simp
      rw [List.filterMap_cons, e0]
      congr 1
      refine fm_congr fun x hx => ?_
      unfold chOf
      rw [getP_skip (ne_of_less (hm x hx))]
    | [], q :: qs =>
      obtain ⟨i1, i2⟩ := ih _ (by simp at hn ⊢; omega) [] qs rfl hp hq.2
      have hm : ∀ x ∈ kU [] qs, lessB q.1 x = true := fun x hx => by
        rcases (mem_kU x _ [] qs rfl).1 hx with h | h
        · simp at h
        · exact hq.1 x h
      rw [kU, chg, i2]
      refine ⟨⟨hm, i1⟩, ?_⟩
      have e0 : chOf [] (q :: qs) q.1 = some (q.1, false, ⟨#[]⟩, true, q.2) := by
        unfold chOf
        rw [getP_hit, getP]
        simp
      rw [List.filterMap_cons, e0]
      congr 1
      refine fm_congr fun x hx => ?_
      unfold chOf
      rw [getP_skip (ps := qs) (ne_of_less (hm x hx))]
    | p :: ps, q :: qs =>
      rw [kU, chg]
      by_cases e : p.1 = q.1
      · rw [if_pos e, if_pos e]
        obtain ⟨i1, i2⟩ := ih _ (by simp at hn ⊢; omega) ps qs rfl hp.2 hq.2
        have hm : ∀ x ∈ kU ps qs, lessB p.1 x = true := fun x hx => by
          rcases (mem_kU x _ ps qs rfl).1 hx with h | h
          · exact hp.1 x h
          · rw [e]; exact hq.1 x h
        refine ⟨⟨hm, i1⟩, ?_⟩
        have hc : (kU ps qs).filterMap (chOf (p :: ps) (q :: qs)) = (kU ps qs).filterMap (chOf ps qs) := fm_congr fun x hx => by
          unfold chOf
          rw [getP_skip (ps := ps) (ne_of_less (hm x hx)), getP_skip (ps := qs) (by rw [← e]; exact ne_of_less (hm x hx))]
        have e0 : chOf (p :: ps) (q :: qs) p.1 = if p.2 = q.2 then none else some (p.1, true, p.2, true, q.2) := by
          unfold chOf
          rw [getP_hit]
          have : getP (q :: qs) p.1 = (q.2, true) := by rw [e]; exact getP_hit q qs
          rw [this]
          by_cases e2 : p.2 = q.2 <;> simp [e2]
        rw [List.filterMap_cons, e0, hc, i2]
        split <;> rfl
      · rw [if_neg e, if_neg e]
        cases hl : lessB p.1 q.1 with
        | true =>
          rw [if_pos rfl, if_pos rfl]
          obtain ⟨i1, i2⟩ := ih _ (by simp at hn ⊢; omega) ps (q :: qs) rfl hp.2 hq
          have hm : ∀ x ∈ kU ps (q :: qs), lessB p.1 x = true := fun x hx => by
            rcases (mem_kU x _ ps (q :: qs) rfl).1 hx with h | h
            · exact hp.1 x h
            · rcases List.mem_cons.1 h with h | h
              · rw [h]; exact hl
              · exact lessB_tr hl (hq.1 x h)
          refine ⟨⟨hm, i1⟩, ?_⟩
          have hnq : p.1 ∉ keys (q :: qs) := fun h => by
            rcases List.mem_cons.1 h with h | h
            · exact e h
            · have := lessB_tr hl (hq.1 _ h); rw [lessB_irr] at this; cases this
          have e0 : chOf (p :: ps) (q :: qs) p.1 = some (p.1, true, p.2, false, ⟨#[]⟩) := by
            unfold chOf
            rw [getP_hit, getP_none hnq]
            simp
          rw [List.filterMap_cons, e0, i2]
          congr 1
          refine fm_congr fun x hx => ?_
          unfold chOf
          rw [getP_skip (ps := ps) (ne_of_less (hm x hx))]
        | false =>
          rw [if_neg (by decide), if_neg (by decide)]
          have hl2 := lessB_or _ _ hl e
          obtain ⟨i1, i2⟩ := ih _ (by simp at hn ⊢; omega) (p :: ps) qs rfl hp hq.2
          have hm : ∀ x ∈ kU (p :: ps) qs, lessB q.1 x = true := fun x hx => by
            rcases (mem_kU x _ (p :: ps) qs rfl).1 hx with h | h
            · rcases List.mem_cons.1 h with h | h
              · rw [h]; exact hl2
              · exact lessB_tr hl2 (hp.1 x h)
            · exact hq.1 x h
          refine ⟨⟨hm, i1⟩, ?_⟩
          have hnq : q.1 ∉ keys (p :: ps) := fun h => by
            rcases List.mem_cons.1 h with h | h
            · exact e h.symm
            · have := lessB_tr hl2 (hp.1 _ h); rw [lessB_irr] at this; cases this
          have e0 : chOf (p :: ps) (q :: qs) q.1 = some (q.1, false, ⟨#[]⟩, true, q.2) := by
            unfold chOf
            rw [getP_hit, getP_none hnq]
            simp
          rw [List.filterMap_cons, e0, i2]
          congr 1
          refine fm_congr fun x hx => ?_
          unfold chOf
          rw [getP_skip (ps := qs) (ne_of_less (hm x hx))]
/-- Every key of either. -/
def uni (ps qs : List PairT) : List PairT := qs.foldl (fun a q => wth a q.1 ⟨#[]⟩) ps
theorem uni_up : ∀ (qs ps : List PairT), KeysUp (keys ps) → KeysUp (keys (uni ps qs)) ∧ ∀ x, x ∈ keys (uni ps qs) ↔ x ∈ keys ps ∨ x ∈ keys qs
  | [], ps, h => ⟨h, fun x => by simp [uni]⟩
  | q :: qs, ps, h => by
    obtain ⟨h1, h2⟩ := uni_up qs (wth ps q.1 ⟨#[]⟩) (ku_wth h _ _)
    refine ⟨h1, fun x => ?_⟩
    have h3 := h2 x
    rw [mem_wth] at h3
    show x ∈ keys (uni (wth ps q.1 ⟨#[]⟩) qs) ↔ _
    rw [h3]
    simp only [keys, List.map_cons, List.mem_cons]
    constructor
    · rintro ((h | h) | h)
      · exact .inr (.inl h)
      · exact .inl h
      · exact .inr (.inr h)
    · rintro (h | (h | h))
      · exact .inl (.inr h)
      · exact .inl (.inl h)
      · exact .inr h
/-- The model's changes are those of going side by side. -/
theorem chg_uni {ps qs : List PairT} (hp : KeysUp (keys ps)) (hq : KeysUp (keys qs)) : (keys (uni ps qs)).filterMap (chOf ps qs) = chg ps qs := by
  obtain ⟨h1, h2⟩ := uni_up qs ps hp
  obtain ⟨h3, h4⟩ := chg_kU _ ps qs rfl hp hq
  rw [h4, KeysUp.one h1 h3 (fun x => by rw [h2 x, mem_kU x _ ps qs rfl])]
end Go.Proofs.YtgicihmdcnelaaaGreatDoor
namespace Go.Proofs.YtgicihmdcnelaaaGreatDoor
open Go.RowKit Go.Proofs.Sha

theorem wr_in64 (n : Int) (h : -9223372036854775808 ≤ n ∧ n ≤ 9223372036854775807) : wrap64 n = n := by unfold wrap64; omega
/-- A slice of pairs that was handed in, whatever its size. -/
structure QArg (a : Option Addr) (ps : List PairT) (w : World) : Prop where
  at_ : 0 < ps.length → ∃ b off : Nat, a = some ⟨b, off, none⟩ ∧ b < w.heap.size ∧ ∀ j, j < ps.length → w.cell? ⟨b, off + j * 2, none⟩ = some (.string (ps.getD j noPair).1) ∧ w.cell? ⟨b, off + j * 2 + 1, none⟩ = some (.string (ps.getD j noPair).2)
theorem QArg.below {a : Option Addr} {ps : List PairT} {w w' : World} (h : QArg a ps w) (hb : Below w.heap.size w w') : QArg a ps w' := by
  refine ⟨fun hn => ?_⟩
  obtain ⟨b, off, ha, hlt, hc⟩ := h.at_ hn
  exact ⟨b, off, ha, Nat.lt_of_lt_of_le hlt hb.size, fun j hj => ⟨(hb.cell (p := ⟨b, off + j * 2, none⟩) hlt).trans (hc j hj).1, (hb.cell (p := ⟨b, off + j * 2 + 1, none⟩) hlt).trans (hc j hj).2⟩⟩
/-- Within the law's bound. -/
def SmallP (ps : List PairT) : Prop := ps.length ≤ 1048576 ∧ ∀ j, (ps.getD j noPair).1.size ≤ 1048576 ∧ (ps.getD j noPair).2.size ≤ 1048576
theorem QArg.parg {a : Option Addr} {ps : List PairT} {w : World} (h : QArg a ps w) (hs : SmallP ps) : PArg a ps w := ⟨hs.1, hs.2, h.at_⟩
theorem PArg.qarg {a : Option Addr} {ps : List PairT} {w : World} (h : PArg a ps w) : QArg a ps w := ⟨h.at_⟩
theorem pget_out (ps : List PairT) (j : Nat) (h : ps.length ≤ j) : ps.getD j noPair = noPair := by
  rw [List.getD_eq_getElem?_getD, List.getElem?_eq_none h]; rfl
theorem szPair_yes (k v : ByteArray) (r q : Nat) (hr : r ≤ 1048576) (hk : k.size ≤ 9223372036854775807) (hv : v.size ≤ 9223372036854775807) (hq : q + k.size + v.size = r) (w : World) :
    Calls Tryz.prog 24 #[.agg #[.string k, .string v], .int .i64 (r : Int)] w fun e w' => e = .returned (.int .i64 (q : Int)) ∧ Below w.heap.size w w' := by
  obtain ⟨p, hp⟩ : ∃ p : Nat, (r : Int) - (k.size : Int) = (p : Int) := ⟨r - k.size, by omega⟩
  have hp2 : (p : Int) - (v.size : Int) = (q : Int) := by omega
  have y1 : wrap64 ((r : Int) - (k.size : Int)) = (p : Int) := by rw [hp]; exact wr_in64 _ (by omega)
  have y2 : wrap64 ((p : Int) - (v.size : Int)) = (q : Int) := by rw [hp2]; exact wr_in64 _ (by omega)
  have y3 : decide ((p : Int) < 0) = false := by rw [decide_eq_false_iff_not]; omega
  have y4 : decide ((q : Int) < 0) = false := by rw [decide_eq_false_iff_not]; omega
  clear hq
  have hb : Below w.heap.size w (w.alloc (.cells #[.string k, .string v] 49)) := (Below.refl _ _).alloc (Nat.le_refl _) _
  go_enter Tryz.func24, Tryz.ntmps24
  go_wp2_with fail
  go_ret
  exact ⟨rfl, hb⟩
theorem szPair_no (k v : ByteArray) (r : Nat) (hr : r ≤ 1048576) (hk : k.size ≤ 9223372036854775807) (hv : v.size ≤ 9223372036854775807) (hq : r < k.size + v.size) (w : World) :
    Calls Tryz.prog 24 #[.agg #[.string k, .string v], .int .i64 (r : Int)] w fun e w' => e = .returned (.int .i64 (-1)) ∧ Below w.heap.size w w' := by
  have hb : Below w.heap.size w (w.alloc (.cells #[.string k, .string v] 49)) := (Below.refl _ _).alloc (Nat.le_refl _) _
  by_cases c : k.size ≤ r
  · obtain ⟨p, hp⟩ : ∃ p : Nat, (r : Int) - (k.size : Int) = (p : Int) := ⟨r - k.size, by omega⟩
    obtain ⟨q, hp2⟩ : ∃ q : Int, (p : Int) - (v.size : Int) = q := ⟨_, rfl⟩
    have y1 : wrap64 ((r : Int) - (k.size : Int)) = (p : Int) := by rw [hp]; exact wr_in64 _ (by omega)
    have y2 : wrap64 ((p : Int) - (v.size : Int)) = q := by rw [hp2]; exact wr_in64 _ (by omega)
    have y3 : decide ((p : Int) < 0) = false := by rw [decide_eq_false_iff_not]; omega
    have y4 : decide (q < 0) = true := by rw [decide_eq_true_eq]; omega
    clear hq
    go_enter Tryz.func24, Tryz.ntmps24
    go_wp2_with fail
    go_ret
    exact ⟨rfl, hb⟩
  · obtain ⟨p, hp⟩ : ∃ p : Int, (r : Int) - (k.size : Int) = p := ⟨_, rfl⟩
    have y1 : wrap64 ((r : Int) - (k.size : Int)) = p := by rw [hp]; exact wr_in64 _ (by omega)
    have y3 : decide (p < 0) = true := by rw [decide_eq_true_eq]; omega
    clear hq
    go_enter Tryz.func24, Tryz.ntmps24
    go_wp2_with fail
    go_ret
    exact ⟨rfl, hb⟩

set_option maxRecDepth 100000 in
set_option maxHeartbeats 1000000 in
theorem szPairS_any (a : Option Addr) (ps : List PairT) (c l0 : Nat) (w : World) (h : QArg a ps w) (hl0 : l0 ≤ 1048576) (hN : ps.length ≤ maxLen) (hM : ∀ j, (ps.getD j noPair).1.size ≤ maxLen ∧ (ps.getD j noPair).2.size ≤ maxLen) :
    Calls Tryz.prog 7 #[.slice a ps.length c, .int .i64 (l0 : Int)] w fun e w' => ∃ r : Int, e = .returned (.int .i64 r) ∧ Hid (r ≤ l0) ∧ Hid (0 ≤ r → SmallP ps) ∧ Below w.heap.size w w' := by
  unfold maxLen at hN hM
  obtain ⟨N, hl⟩ : ∃ N, ps.length = N := ⟨_, rfl⟩
  rw [hl] at hN
  rw [hl]
  by_cases hx : l0 < N
  · have z1 : decide ((l0 : Int) - (N : Int) < 0) = true := by rw [decide_eq_true_eq]; omega
    have z5 : wrap64 ((l0 : Int) - (N : Int)) = l0 - (N : Int) := wr_in64 _ (by omega)
    go_enter Tryz.func7, Tryz.ntmps7
    go_wp2_with fail
    go_ret
    exact ⟨_, rfl, by show (-1 : Int) ≤ _; omega, fun hh => absurd hh (by decide), Below.refl _ _⟩
  · obtain ⟨q, hq⟩ : ∃ q : Nat, (l0 : Int) - (N : Int) = (q : Int) := ⟨l0 - N, by omega⟩
    have z5 : wrap64 ((l0 : Int) - (N : Int)) = (q : Int) := by rw [hq]; exact wr_in64 _ (by omega)
    have z1 : decide ((q : Int) < 0) = false := by rw [decide_eq_false_iff_not]; omega
    have hq0 : q ≤ l0 := by omega
    go_enter Tryz.func7, Tryz.ntmps7
    go_wp2_with fail
    go_loopw [1, 5] (fun t1 t5 wr => ∃ k r : Nat, k ≤ N ∧ t5 = .int .i64 (k : Int) ∧ t1 = .int .i64 (r : Int) ∧ r ≤ q ∧ Hid (∀ j, j < k → (ps.getD j noPair).1.size ≤ q ∧ (ps.getD j noPair).2.size ≤ q) ∧ Below w.heap.size w wr) (fun _ t5 _ => N - (intOf t5).toNat)
    case atStart => exact ⟨0, q, Nat.zero_le _, rfl, by first | rfl | rw [z5] | rw [hq], Nat.le_refl _, fun j hj => absurd hj (Nat.not_lt_zero j), Below.refl _ _⟩
    case round =>
      obtain ⟨k, r, hk, rfl, rfl, hr, hall, hbw⟩ := hrel
      by_cases hlt : k < N
      · have y1 : decide ((k : Int) < (N : Int)) = true := by simp; omega
        have hx0 : (0 : Int) ≤ (k : Int) := Int.natCast_nonneg _
        have hx1 : (k : Int) < (N : Int) := by omega
        obtain ⟨b, off, rfl, hbl, hcs⟩ := (h.below hbw).at_ (by omega)
        obtain ⟨hc1, hc2⟩ := hcs k (by omega)
        obtain ⟨m1, m2⟩ := hM k
        have hgk : Hid (ps.getD k noPair = ((ps.getD k noPair).1, (ps.getD k noPair).2)) := rfl
        generalize (ps.getD k noPair).1 = pk at hc1 m1 hgk
        generalize (ps.getD k noPair).2 = pv at hc2 m2 hgk
        by_cases hc : pk.size + pv.size ≤ r
        · obtain ⟨r', hr'⟩ : ∃ r' : Nat, r' + pk.size + pv.size = r := ⟨r - pk.size - pv.size, by omega⟩
          have HS := fun w' => szPair_yes pk pv r r' (by omega) m1 m2 hr' w'
          have y3 : decide ((r' : Int) < 0) = false := by rw [decide_eq_false_iff_not]; omega
          have hall' : Hid (∀ j, j < k + 1 → (ps.getD j noPair).1.size ≤ q ∧ (ps.getD j noPair).2.size ≤ q) := fun j hj => by
            by_cases hjk : j < k
            · exact hall.out j hjk
            · obtain rfl : j = k := by omega
              rw [hgk.out]; exact ⟨by show pk.size ≤ _; omega, by show pv.size ≤ _; omega⟩
          have hrq : r' ≤ q := by omega
          clear hall hcs hgk hr'
          go_wp2_with (go_at_call 24; refine (HS _).mono ?_; rintro e w1 ⟨rfl, hb1⟩)
          go_roundw
          case rel => exact ⟨k + 1, r', hlt, by go_num, rfl, hrq, hall', hbw.trans (hb1.mono hbw.size)⟩
          case measure => simp [intOf]; omega
        · have HS := fun w' => szPair_no pk pv r (by omega) m1 m2 (by omega) w'
          clear hall hcs hgk
          go_wp2_with (go_at_call 24; refine (HS _).mono ?_; rintro e w1 ⟨rfl, hb1⟩)
          go_ret
          exact ⟨_, rfl, by show (-1 : Int) ≤ _; omega, fun hh => absurd hh (by decide), hbw.trans (hb1.mono hbw.size)⟩
      · obtain rfl : k = N := by omega
        have y1 : decide ((k : Int) < (k : Int)) = false := by simp
        have HS : Hid (SmallP ps) := by
          refine ⟨by omega, fun j => ?_⟩
          by_cases hj : j < k
          · have := hall.out j hj; omega
          · rw [pget_out ps j (by omega)]; exact ⟨Nat.zero_le _, Nat.zero_le _⟩
        clear hall
        go_wp2_with fail
        go_ret
        exact ⟨_, rfl, by show (r : Int) ≤ _; omega, fun _ => HS.out, hbw⟩
end Go.Proofs.YtgicihmdcnelaaaGreatDoor
namespace Go.Proofs.YtgicihmdcnelaaaGreatDoor
open Go.RowKit Go.Proofs.Sha

/-- Pairs as cells. -/
def flatP : List PairT → List Value
  | [] => []
  | p :: l => .string p.1 :: .string p.2 :: flatP l
theorem flatP_len : ∀ l : List PairT, (flatP l).length = l.length * 2
  | [] => rfl
  | p :: l => by simp only [flatP, List.length_cons, flatP_len l]; omega
theorem flatP_app : ∀ l m : List PairT, flatP (l ++ m) = flatP l ++ flatP m
  | [], m => rfl
  | p :: l, m => by simp only [List.cons_append, flatP, flatP_app l m]
theorem flatP_get : ∀ (l : List PairT) (j : Nat), j < l.length → (flatP l)[j * 2]? = some (.string (l.getD j noPair).1) ∧ (flatP l)[j * 2 + 1]? = some (.string (l.getD j noPair).2)
  | [], j, h => absurd h (Nat.not_lt_zero _)
  | p :: l, 0, _ => ⟨rfl, rfl⟩
  | p :: l, j + 1, h => by
    have := flatP_get l j (by simpa using h)
    rw [show (j + 1) * 2 = j * 2 + 2 by omega]
    simpa [flatP] using this
theorem flatP_set : ∀ (l : List PairT) (k : Nat) (x y : ByteArray), k < l.length → ((flatP l).set (k * 2) (.string x)).set (k * 2 + 1) (.string y) = flatP (l.set k (x, y))
  | [], k, _, _, h => absurd h (Nat.not_lt_zero _)
  | p :: l, 0, _, _, _ => rfl
  | p :: l, k + 1, x, y, h => by
    have := flatP_set l k x y (by simpa using h)
    rw [show (k + 1) * 2 = k * 2 + 2 by omega]
    simpa [flatP] using this
theorem flatP_rep (n : Nat) : flatP (List.replicate n noPair) = List.replicate (n * 2) (.string ⟨#[]⟩) := by
  induction n with
  | zero => rfl
  | succ n ih =>
    rw [List.replicate_succ, flatP, ih, show (n + 1) * 2 = n * 2 + 1 + 1 by omega, List.replicate_succ, List.replicate_succ]
    rfl
theorem made2 (n : Nat) : (madeCells #[.string ⟨#[]⟩, .string ⟨#[]⟩] n).toList = List.replicate n (Value.string ⟨#[]⟩) := by
  unfold madeCells
  refine List.ext_getElem (by simp) fun i h1 h2 => ?_
  rw [List.getElem_replicate]
  simp only [Array.getElem_toList, Array.getElem_map]
  have : ∀ j, j < 2 → (#[Value.string ⟨#[]⟩, .string ⟨#[]⟩])[j]! = .string ⟨#[]⟩ := fun j hj => by
    match j, hj with
    | 0, _ => rfl
    | 1, _ => rfl
  exact this _ (Nat.mod_lt _ (by simp))
theorem Row.parg {w : World} {base g c n : Nat} {ps : List PairT} (h : Row w base g n c (flatP ps)) (hs : SmallP ps) : PArg (some ⟨g, 0, none⟩) ps w := by
  refine ⟨hs.1, hs.2, fun _ => ⟨g, 0, rfl, h.lt, fun j hj => ?_⟩⟩
  have hn := h.len
  rw [flatP_len] at hn
  obtain ⟨e0, e1⟩ := flatP_get ps j hj
  rw [Nat.zero_add]
  exact ⟨(h.cell _ (by omega)).trans e0, (h.cell _ (by omega)).trans e1⟩
/-- The first k, and zeros. -/
def partP (ps : List PairT) (k : Nat) : List PairT := ps.take k ++ List.replicate (ps.length - k) noPair
theorem partP_zero (ps : List PairT) : partP ps 0 = List.replicate ps.length noPair := by simp [partP]
theorem partP_all (ps : List PairT) : partP ps ps.length = ps := by simp [partP]
theorem partP_len (ps : List PairT) (k : Nat) (h : k ≤ ps.length) : (partP ps k).length = ps.length := by simp [partP]; omega
theorem partP_set (ps : List PairT) (k : Nat) (h : k < ps.length) : (partP ps k).set k (ps.getD k noPair) = partP ps (k + 1) := by
  have e : ps.take (k + 1) = ps.take k ++ [ps[k]] := by rw [List.take_add_one, List.getElem?_eq_getElem h]; rfl
  unfold partP
  rw [show ps.length - k = (ps.length - (k + 1)) + 1 by omega, List.replicate_succ, List.set_append_right _ _ (by rw [List.length_take]; omega), List.length_take, show k - min k ps.length = 0 by omega, List.set_cons_zero, e, List.getD_eq_getElem?_getD, List.getElem?_eq_getElem h, List.append_assoc]
  rfl
theorem info37 : (Tryz.prog.info? 60).map (fun i => (i.zero, i.size, i.bytes)) = some (some (.agg #[.string ⟨#[]⟩, .string ⟨#[]⟩]), 2, 32) := by kernel_rfl
theorem info_parts2 {i : Option TypeInfo} {a : Option Value} {b c : Nat} (h : i.map (fun i => (i.zero, i.size, i.bytes)) = some (a, b, c)) : ∃ j, i = some j ∧ j.zero = a ∧ j.size = b ∧ j.bytes = c := by
  cases i with
  | none => cases h
  | some j => simp only [Option.map_some, Option.some.injEq, Prod.mk.injEq] at h; exact ⟨j, rfl, h.1, h.2.1, h.2.2⟩
theorem make25 (n : Nat) (hn : n ≤ 1048576) (W : World) : (Instr.makeSlice 33 (.int .i64 (n : Int)) (.int .i64 (n : Int))).run Tryz.prog W = .ok (.slice (some ⟨W.heap.size, 0, none⟩) n n) (W.alloc (.cells (flatP (List.replicate n noPair)).toArray 60)) := by
  obtain ⟨i0, hi, hz0, hz1, hz2⟩ := info_parts2 info37
  have e : madeCells (Value.agg #[.string ⟨#[]⟩, .string ⟨#[]⟩]).cells (((n : Nat) : Int).toNat * i0.size) = (flatP (List.replicate n noPair)).toArray := by
    rw [hz1, Int.toNat_natCast, flatP_rep]
    show madeCells #[.string ⟨#[]⟩, .string ⟨#[]⟩] (n * 2) = _
    rw [← Array.toList_inj, made2]
  have h := run_make (P := Tryz.prog) W 33 60 i0 (.agg #[.string ⟨#[]⟩, .string ⟨#[]⟩]) Tryz.underlying33 hi hz0 .i64 .i64 (n : Int) (n : Int) (by omega) (by omega) (by rw [hz2]; omega) (by omega)
  rw [e] at h
  simpa using h
theorem toPair_any (k v : ByteArray) (w : World) : Calls Tryz.prog 34 #[.agg #[.string k, .string v]] w fun e w' => e = .returned (.agg #[.string k, .string v]) ∧ Below w.heap.size w w' := by
  have hb : Below w.heap.size w (((w.alloc (.cells #[.string k, .string v] 49)).alloc (.cells #[.string k, .string v] 60)).alloc (.cells #[.string k, .string v] 60)) := (((Below.refl _ _).alloc (Nat.le_refl _) _).alloc (by simp) _).alloc (by simp; omega) _
  go_enter Tryz.func34, Tryz.ntmps34
  go_wp2_with fail
  exact bodyPost_ret (v := .agg #[.string k, .string v]) (by simp [results, Tryz.results34, go_sem]) rfl ⟨rfl, hb⟩

set_option maxRecDepth 100000 in
set_option maxHeartbeats 1000000 in
theorem toPairS_any (a : Option Addr) (ps : List PairT) (c : Nat) (w : World) (h : PArg a ps w) :
    Calls Tryz.prog 10 #[.slice a ps.length c] w fun e w' => ∃ g, e = .returned (.slice (some ⟨g, 0, none⟩) ps.length ps.length) ∧ w.heap.size ≤ g ∧ PArg (some ⟨g, 0, none⟩) ps w' ∧ Below w.heap.size w w' := by
  have hn := h.le
  have hsm : SmallP ps := ⟨h.le, h.sz⟩
  have hmk := make25 ps.length hn
  obtain ⟨N, hN⟩ : ∃ N, ps.length = N := ⟨_, rfl⟩
  have hrow0 : Row (w.alloc (.cells (flatP (List.replicate ps.length noPair)).toArray 60)) w.heap.size w.heap.size (N * 2) (N * 2) (flatP (partP ps 0)) := by
    have hl : (flatP (List.replicate ps.length noPair)).toArray.size = N * 2 := by rw [List.size_toArray, flatP_len, List.length_replicate, hN]
    have := Row.of_block (Nat.le_refl w.heap.size) (heap_alloc_new w (.cells (flatP (List.replicate ps.length noPair)).toArray 60)) (N * 2) (by rw [hl]; exact Nat.le_refl _) (.inl rfl)
    rw [hl] at this
    have e : (flatP (List.replicate ps.length noPair)).toArray.toList.take (N * 2) = flatP (partP ps 0) := by
      rw [partP_zero, List.toList_toArray, List.take_of_length_le (by rw [flatP_len, List.length_replicate, hN]; exact Nat.le_refl _)]
    rw [e] at this
    exact this
  have hb0 : Below w.heap.size w (w.alloc (.cells (flatP (List.replicate ps.length noPair)).toArray 60)) := (Below.refl _ _).alloc (Nat.le_refl _) _
  obtain ⟨o, ho⟩ : ∃ o, (.cells (flatP (List.replicate ps.length noPair)).toArray 60 : Obj) = o := ⟨_, rfl⟩
  rw [ho] at hrow0 hb0 hmk
  clear ho
  rw [hN] at hmk hn ⊢
  have hNl : Hid (ps.length = N) := hN
  clear hN
  go_enter Tryz.func10, Tryz.ntmps10
  go_wp2_with fail
  obtain ⟨g, hg⟩ : ∃ g, w.heap.size = g := ⟨_, rfl⟩
  rw [hg] at hrow0 hb0 ⊢
  generalize w.alloc o = W0 at hrow0 hb0 ⊢
  go_loopw [4] (fun t wr => ∃ k : Nat, k ≤ N ∧ t = .int .i64 (k : Int) ∧ Row wr g g (N * 2) (N * 2) (flatP (partP ps k)) ∧ Below g w wr) (fun t _ => N - (intOf t).toNat)
  case atStart => exact ⟨0, Nat.zero_le _, rfl, hrow0, hb0⟩
  case round =>
    clear hrow0 hb0 hmk
    obtain ⟨k, hk, rfl, hrow, hbel⟩ := hrel
    by_cases hlt : k < N
    · have z1 : decide ((k : Int) < (N : Int)) = true := by simp; omega
      have hx0 : (0 : Int) ≤ (k : Int) := Int.natCast_nonneg _
      have hx1 : (k : Int) < (N : Int) := by omega
      obtain ⟨b, off, rfl, hbl, hc⟩ := (h.below (by rw [hg]; exact hbel)).at_ (by rw [hNl.out]; omega)
      obtain ⟨hc1, hc2⟩ := hc k (by rw [hNl.out]; exact hlt)
      have hbg : b < w.heap.size := by
        obtain ⟨b', off', he, hb', _⟩ := h.at_ (by rw [hNl.out]; omega)
        obtain ⟨rfl, rfl⟩ : b = b' ∧ off = off' := by simpa using he
        exact hb'
      have hkl : k < ps.length := by rw [hNl.out]; exact hlt
      have hstep := flatP_set (partP ps k) k (ps.getD k noPair).1 (ps.getD k noPair).2 (by rw [partP_len ps k (by omega)]; exact hkl)
      rw [show ((ps.getD k noPair).1, (ps.getD k noPair).2) = ps.getD k noPair from rfl, partP_set ps k hkl] at hstep
      generalize (ps.getD k noPair).1 = pk at hc1 hstep
      generalize (ps.getD k noPair).2 = pv at hc2 hstep
      have hstep' : Hid (((flatP (partP ps k)).set (k * 2) (.string pk)).set (k * 2 + 1) (.string pv) = flatP (partP ps (k + 1))) := hstep
      have hgl := hrow.lt
      have HT := fun w' => toPair_any pk pv w'
      have hset := fun w' (hr : Row w' g g (N * 2) (N * 2) (flatP (partP ps k))) => (hr.set (k * 2) (by omega) (.string pk)).set (k * 2 + 1) (by omega) (.string pv)
      rw [hstep] at hset
      replace hset : Hid _ := hset
      clear hc hstep hkl
      generalize flatP (partP ps k) = L at hrow hset
      go_wp2_with (go_at_call 34; refine (HT _).mono ?_; rintro e w1 ⟨rfl, hb1⟩; have hrow1 := hrow.below hb1; obtain ⟨y0, hy0⟩ := Option.isSome_iff_exists.1 (hrow1.room (k * 2) (by omega)); obtain ⟨y1, hy1⟩ := Option.isSome_iff_exists.1 (hrow1.room (k * 2 + 1) (by omega)); have hf0 := hrow1.free (k * 2) (by omega); have hf1 := hrow1.free (k * 2 + 1) (by omega))
      go_roundw
      case rel =>
        have hb1' : Below g w w1 := hbel.trans (hb1.mono (by omega))
        exact ⟨k + 1, hlt, by go_num, hset.out _ hrow1, (hb1'.setCell (Nat.le_refl _) _).setCell (Nat.le_refl _) _⟩
      case measure => simp [intOf]; omega
    · obtain rfl : k = N := by omega
      have z1 : decide ((k : Int) < (k : Int)) = false := by simp
      have hall : partP ps k = ps := by rw [← hNl.out]; exact partP_all ps
      rw [hall] at hrow
      go_wp2_with fail
      go_ret
      exact ⟨g, rfl, by omega, Row.parg hrow hsm, by rw [hg]; exact hbel⟩
theorem eqPair_any (k v : ByteArray) (w : World) : Calls Tryz.prog 41 #[.agg #[.string k, .string v], .agg #[.string k, .string v]] w fun e w' => e = .returned (.bool true) ∧ Below w.heap.size w w' := by
  have hb : Below w.heap.size w ((w.alloc (.cells #[.string k, .string v] 60)).alloc (.cells #[.string k, .string v] 60)) := ((Below.refl _ _).alloc (Nat.le_refl _) _).alloc (by simp) _
  go_enter Tryz.func41, Tryz.ntmps41
  go_wp2_with fail
  go_ret
  exact ⟨rfl, hb⟩

set_option maxRecDepth 100000 in
set_option maxHeartbeats 1000000 in
theorem eqPairS_any (a b : Option Addr) (ps : List PairT) (c d : Nat) (w : World) (h : PArg a ps w) (h' : PArg b ps w) :
    Calls Tryz.prog 14 #[.slice a ps.length c, .slice b ps.length d] w fun e w' => e = .returned (.bool true) ∧ Below w.heap.size w w' := by
  have hn := h.le
  obtain ⟨N, hN⟩ : ∃ N, ps.length = N := ⟨_, rfl⟩
  rw [hN] at hn ⊢
  have hNl : Hid (ps.length = N) := hN
  clear hN
  go_enter Tryz.func14, Tryz.ntmps14
  go_wp2_with fail
  go_loopw [5] (fun t wr => ∃ k : Nat, k ≤ N ∧ t = .int .i64 (k : Int) ∧ Below w.heap.size w wr) (fun t _ => N - (intOf t).toNat)
  case atStart => exact ⟨0, Nat.zero_le _, rfl, Below.refl _ _⟩
  case round =>
    obtain ⟨k, hk, rfl, hbw⟩ := hrel
    by_cases hlt : k < N
    · have z1 : decide ((k : Int) < (N : Int)) = true := by simp; omega
      have hx0 : (0 : Int) ≤ (k : Int) := Int.natCast_nonneg _
      have hx1 : (k : Int) < (N : Int) := by omega
      obtain ⟨b1, off1, rfl, hbl1, hc⟩ := (h.below hbw).at_ (by rw [hNl.out]; omega)
      obtain ⟨b2, off2, rfl, hbl2, hd⟩ := (h'.below hbw).at_ (by rw [hNl.out]; omega)
      obtain ⟨hc1, hc2⟩ := hc k (by rw [hNl.out]; exact hlt)
      obtain ⟨hd1, hd2⟩ := hd k (by rw [hNl.out]; exact hlt)
      generalize (ps.getD k noPair).1 = pk at hc1 hd1
      generalize (ps.getD k noPair).2 = pv at hc2 hd2
      have HE := fun w' => eqPair_any pk pv w'
      have HC : Hid (∀ W, Below wr.heap.size wr W → W.cell? ⟨b1, off1 + k * 2, none⟩ = some (.string pk) ∧ W.cell? ⟨b1, off1 + k * 2 + 1, none⟩ = some (.string pv) ∧ W.cell? ⟨b2, off2 + k * 2, none⟩ = some (.string pk) ∧ W.cell? ⟨b2, off2 + k * 2 + 1, none⟩ = some (.string pv)) := fun W hW => ⟨(hW.cell (p := ⟨b1, _, none⟩) hbl1).trans hc1, (hW.cell (p := ⟨b1, _, none⟩) hbl1).trans hc2, (hW.cell (p := ⟨b2, _, none⟩) hbl2).trans hd1, (hW.cell (p := ⟨b2, _, none⟩) hbl2).trans hd2⟩
      clear hc hd hc1 hc2 hd1 hd2
      go_wp2_with fail
      go_region_held3 (fun W => W.cell? ⟨b1, off1 + k * 2, none⟩ = some (.string pk) ∧ W.cell? ⟨b1, off1 + k * 2 + 1, none⟩ = some (.string pv) ∧ W.cell? ⟨b2, off2 + k * 2, none⟩ = some (.string pk) ∧ W.cell? ⟨b2, off2 + k * 2 + 1, none⟩ = some (.string pv)) (first | exact HC.out _ (Below.refl _ _).drew | exact HC.out _ hb1) (first | (go_at_call 41; refine (HE _).mono ?_; rintro e w1 ⟨rfl, hb1'⟩; have hb1 : Below wr.heap.size wr w1 := (Below.refl wr.heap.size wr).drew.trans hb1'))
      go_wp2_with fail
      go_roundw
      case rel => exact ⟨k + 1, hlt, by go_num, hbw.trans (hb1.mono hbw.size)⟩
      case measure => simp [intOf]; omega
    · obtain rfl : k = N := by omega
      have z1 : decide ((k : Int) < (k : Int)) = false := by simp
      go_wp2_with fail
      go_ret
      exact ⟨rfl, hbw⟩
end Go.Proofs.YtgicihmdcnelaaaGreatDoor
