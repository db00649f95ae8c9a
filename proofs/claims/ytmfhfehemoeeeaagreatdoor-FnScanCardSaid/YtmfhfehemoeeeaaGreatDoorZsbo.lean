import Derived.Test.YtmfhfehemoeeeaaGreatDoorZsbn
import Derived.Test.YtmfhfehemoeeeaaGreatDoorZsba
import Derived.Test.YtmfhfehemoeeeaaGreatDoorZsbd
import Derived.Test.YtmfhfehemoeeeaaGreatDoorZsbf
namespace Go.Proofs.YtmfhfehemoeeeaaGreatDoor
open Go.RowKit Go.Proofs.Sha

theorem wout_mem {ps : List PairT} {k : ByteArray} {p : PairT} (h : p ∈ wout ps k) : p ∈ ps := (List.mem_filter.1 h).1
theorem ins_mem {k v : ByteArray} : ∀ {ps : List PairT} {p : PairT}, p ∈ ins k v ps → p = (k, v) ∨ p ∈ ps
  | [], p, h => .inl (List.mem_singleton.1 h)
  | q :: qs, p, h => by
    rw [ins] at h
    split at h
    · exact List.mem_cons.1 h
    · rcases List.mem_cons.1 h with h | h
      · exact .inr (by rw [h]; exact List.mem_cons_self ..)
      · rcases ins_mem h with h | h
        · exact .inl h
        · exact .inr (List.mem_cons_of_mem _ h)
theorem ins_len (k v : ByteArray) : ∀ (ps : List PairT), (ins k v ps).length = ps.length + 1
  | [] => rfl
  | q :: qs => by
    rw [ins]
    split
    · rfl
    · rw [List.length_cons, ins_len k v qs]; rfl
theorem wth_mem {ps : List PairT} {k v : ByteArray} {p : PairT} (h : p ∈ wth ps k v) : p = (k, v) ∨ p ∈ ps := by
  rcases ins_mem h with h | h
  · exact .inl h
  · exact .inr (wout_mem h)
theorem wthLen (ps : List PairT) (k v : ByteArray) : (wth ps k v).length ≤ ps.length + 1 := by
  unfold wth
  rw [ins_len]
  have := wout_le ps k
  omega
theorem smallP_of {ps : List PairT} (h : ps.length ≤ 1048576) (hs : ∀ p ∈ ps, p.1.size ≤ 1048576 ∧ p.2.size ≤ 1048576) : SmallP ps := by
  refine ⟨h, fun j => ?_⟩
  by_cases hj : j < ps.length
  · rw [getD_lt ps j hj]
    exact hs _ (List.getElem_mem _)
  · rw [pget_out ps j (by omega)]
    exact noP_small
/-- A map while it is drawn. -/
def mapD (kf vf : Nat → ByteArray) (p : Nat) : Nat → List PairT
  | 0 => []
  | i + 1 => wth (mapD kf vf p i) (kf (p + 3 * i)) (vf (p + 3 * i + 1))
/-- A list of pairs that is small. -/
structure SmP (ps : List PairT) (n : Nat) : Prop where
  len : ps.length ≤ n
  up : KeysUp (keys ps)
  sz : ∀ q ∈ ps, q.1.size ≤ 70 ∧ q.2.size ≤ 300
theorem SmP.small {ps : List PairT} {n : Nat} (h : SmP ps n) (hn : n ≤ 100000) : SmallP ps := smallP_of (by have := h.len; omega) (fun q hq => by have := h.sz q hq; omega)
theorem SmP.wth {ps : List PairT} {n : Nat} (h : SmP ps n) {k v : ByteArray} (hk : k.size ≤ 70) (hv : v.size ≤ 300) : SmP (wth ps k v) (n + 1) :=
  ⟨by have := wthLen ps k v; have := h.len; omega, ku_wth h.up k v, fun q hq => by
    rcases wth_mem hq with e | e
    · rw [e]; exact ⟨hk, hv⟩
    · exact h.sz q e⟩
theorem bl_nil {k : ByteArray} (h : 1 ≤ k.size) : Op.bytesLess (⟨#[]⟩ : ByteArray).toList k.toList = true := by
  rw [ByteArray.toList_eq, ByteArray.toList_eq]
  have : 1 ≤ k.data.toList.length := h
  cases hk : k.data.toList with
  | nil => rw [hk] at this; cases this
  | cons x xs => simp [Op.bytesLess]
theorem ku_at {ps : List PairT} (h : KeysUp (keys ps)) : ∀ i j, i < j → j < ps.length → lessB (ps.getD i noPair).1 (ps.getD j noPair).1 = true := by
  induction ps with
  | nil => intro i j _ hj; cases hj
  | cons x xs ih =>
    intro i j hij hj
    obtain ⟨h1, h2⟩ := h
    cases j with
    | zero => omega
    | succ j =>
      have hj' : j < xs.length := by simpa using hj
      have e : (x :: xs).getD (j + 1) noPair = xs.getD j noPair := by simp [List.getD_eq_getElem?_getD]
      rw [e]
      cases i with
      | zero =>
        have e0 : (x :: xs).getD 0 noPair = x := by simp [List.getD_eq_getElem?_getD]
        rw [e0]
        exact h1 _ (by rw [getD_lt xs j hj']; exact mem_keys (List.getElem_mem _))
      | succ i =>
        have e0 : (x :: xs).getD (i + 1) noPair = xs.getD i noPair := by simp [List.getD_eq_getElem?_getD]
        rw [e0]
        exact ih h2 i j (by omega) hj'
theorem isMapT_of {ps : List PairT} (h : KeysUp (keys ps)) (hok : ∀ p ∈ ps, okKey p.1 = true ∧ okVal p.2 = true) (hl : ps.length ≤ 500) : isMapT ps = true := by
  unfold isMapT
  rw [decide_eq_true hl, Bool.true_and]
  have key : ∀ k, k ≤ ps.length → mapTo ps k = true := by
    intro k
    induction k with
    | zero => intro _; rfl
    | succ k ih =>
      intro hk
      rw [mapTo, ih (by omega), Bool.true_and]
      have hm : ps.getD k noPair ∈ ps := by rw [getD_lt ps k (by omega)]; exact List.getElem_mem _
      obtain ⟨o1, o2⟩ := hok _ hm
      unfold goodAt
      rw [o1, o2, Bool.true_and, Bool.true_and]
      cases k with
      | zero =>
        unfold okKey at o1
        exact bl_nil (of_decide_eq_true o1).1
      | succ k => exact ku_at h k (k + 1) (by omega) (by omega)
  exact key _ (Nat.le_refl _)
theorem own2_le {w : World} {base n m c : Nat} {a : Option Addr} {xs : List Value} (h : w.ownsRow base 56 2 (.slice a m c) n xs) : m ≤ c := by
  rcases h.2 with ⟨e, h0⟩ | ⟨g, cap, cur, e, hb, hg, q1, q2, q3, q4⟩
  · simp only [Value.slice.injEq] at e; omega
  · simp only [Value.slice.injEq] at e
    omega
theorem count_any (a : Option Addr) (L cap per lo hi : Nat) (w : World) (hp : 1 ≤ per) (hL : L ≤ 1048576) (hlo : lo ≤ 1000) (hhi : hi ≤ 1000) : Calls Tryz.prog 39 #[.slice a L cap, .int .i64 (per : Int), .int .i64 (lo : Int), .int .i64 (hi : Int)] w fun e w' => e = .returned (.int .i64 ((if hi < lo + L / per then hi else lo + L / per : Nat) : Int)) ∧ w' = w := by
  have hq : (L : Int).tdiv (per : Int) = ((L / per : Nat) : Int) := by rw [← Int.ofNat_tdiv]
  have hle : L / per ≤ L := Nat.div_le_self L per
  have hne : ¬ ((per : Int) = 0) := by omega
  have z0 : ((per : Int) == 0) = false := by simp; omega
  obtain ⟨d, hd⟩ : ∃ d, L / per = d := ⟨_, rfl⟩
  rw [hd] at hq hle ⊢
  have w1 : wrap64 ((lo : Int) + (d : Int)) = (lo : Int) + (d : Int) := wr_in64 _ (by omega)
  by_cases h : hi < lo + d
  · rw [if_pos h]
    have z : decide ((hi : Int) < (lo : Int) + (d : Int)) = true := by rw [decide_eq_true_eq]; omega
    go_enter Tryz.func39, Tryz.ntmps39
    go_wp2_with fail
    go_ret
    exact ⟨rfl, rfl⟩
  · rw [if_neg h]
    have z : decide ((hi : Int) < (lo : Int) + (d : Int)) = false := by rw [decide_eq_false_iff_not]; omega
    go_enter Tryz.func39, Tryz.ntmps39
    go_wp2_with fail
    go_ret
    exact ⟨by first | rfl | (congr 2; omega), rfl⟩
/-- Few pairs, none great. -/
structure SmQ (ps : List PairT) (n : Nat) : Prop where
  len : ps.length ≤ n
  sz : ∀ q ∈ ps, q.1.size ≤ 300 ∧ q.2.size ≤ 2001
theorem SmQ.small {ps : List PairT} {n : Nat} (h : SmQ ps n) (hn : n ≤ 100000) : SmallP ps := smallP_of (by have := h.len; omega) (fun q hq => by have := h.sz q hq; omega)
theorem SmQ.wth {ps : List PairT} {n : Nat} (h : SmQ ps n) {k v : ByteArray} (hk : k.size ≤ 70) (hv : v.size ≤ 300) : SmQ (wth ps k v) (n + 1) :=
  ⟨by have := wth_len ps k v; have := h.len; omega, fun q hq => by
    rcases mem_ins' hq with e | e
    · subst e; exact ⟨Nat.le_trans hk (by omega), Nat.le_trans hv (by omega)⟩
    · exact h.sz q (List.mem_filter.1 e).1⟩
theorem SmP.q {ps : List PairT} {n : Nat} (h : SmP ps n) : SmQ ps n := ⟨h.len, fun q hq => by have := h.sz q hq; omega⟩
end Go.Proofs.YtmfhfehemoeeeaaGreatDoor
