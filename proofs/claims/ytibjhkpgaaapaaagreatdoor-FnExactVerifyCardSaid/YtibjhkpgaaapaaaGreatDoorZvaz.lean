import Derived.Test.YtibjhkpgaaapaaaGreatDoorZvay
import Derived.Test.YtibjhkpgaaapaaaGreatDoorZvaw
import Derived.Test.YtibjhkpgaaapaaaGreatDoorZvax
namespace Go.Proofs.YtibjhkpgaaapaaaGreatDoor
open Go.RowKit Go.Proofs.Sha

theorem less_asy {a b : List UInt8} (h : Op.bytesLess a b = true) : Op.bytesLess b a = false := by
  rw [less_tri] at h
  cases hb : Op.bytesLess b a with
  | false => rfl
  | true => rw [hb] at h; simp at h
theorem less_tot {a b : List UInt8} (h : a ≠ b) : Op.bytesLess a b = true ∨ Op.bytesLess b a = true := by
  rw [less_tri a b]
  cases hb : Op.bytesLess b a with
  | true => exact .inr rfl
  | false =>
    left
    have : (b == a) = false := beq_eq_false_iff_ne.2 fun e => h e.symm
    rw [this]; rfl
theorem less_trans : ∀ a b c : List UInt8, Op.bytesLess a b = true → Op.bytesLess b c = true → Op.bytesLess a c = true
  | _, [], [], _, h => by simp [Op.bytesLess] at h
  | [], [], _ :: _, h, _ => by simp [Op.bytesLess] at h
  | _ :: _, [], _, h, _ => by simp [Op.bytesLess] at h
  | [], _ :: _, [], _, h => by simp [Op.bytesLess] at h
  | _ :: _, _ :: _, [], _, h => by simp [Op.bytesLess] at h
  | [], _ :: _, _ :: _, _, _ => by simp [Op.bytesLess]
  | a :: x, b :: y, c :: z, h1, h2 => by
    simp only [Op.bytesLess, Bool.or_eq_true, Bool.and_eq_true, decide_eq_true_eq, beq_iff_eq, UInt8.lt_iff_toNat_lt] at h1 h2 ⊢
    have ih := less_trans x y z
    rcases h1 with h1 | ⟨h1, h1'⟩ <;> rcases h2 with h2 | ⟨h2, h2'⟩
    · left; omega
    · subst h2; exact .inl h1
    · subst h1; exact .inl h2
    · subst h1; subst h2; exact .inr ⟨rfl, ih h1' h2'⟩
theorem rk_asy {x y a b : List UInt8} (h : rk x y a b = true) : rk y x b a = false := by
  unfold rk at h ⊢
  by_cases e : x = y
  · rw [if_pos e] at h; rw [if_pos e.symm]; exact less_asy h
  · rw [if_neg e] at h; rw [if_neg (fun q => e q.symm)]; exact less_asy h
theorem rk_tot {x y a b : List UInt8} (h : a ≠ b) : rk x y a b = true ∨ rk y x b a = true := by
  unfold rk
  by_cases e : x = y
  · rw [if_pos e, if_pos e.symm]; exact less_tot h
  · rw [if_neg e, if_neg (fun q => e q.symm)]; exact less_tot (fun q => e q.symm)
theorem rk_tra {x y z a b c : List UInt8} (h1 : rk x y a b = true) (h2 : rk y z b c = true) : rk x z a c = true := by
  unfold rk at h1 h2 ⊢
  by_cases e : x = y
  · subst e
    rw [if_pos rfl] at h1
    by_cases e2 : x = z
    · rw [if_pos e2] at h2 ⊢; exact less_trans _ _ _ h1 h2
    · rw [if_neg e2] at h2 ⊢; exact h2
  · rw [if_neg e] at h1
    by_cases e2 : y = z
    · subst e2
      rw [if_neg e]; exact h1
    · rw [if_neg e2] at h2
      have h3 := less_trans _ _ _ h2 h1
      have e3 : x ≠ z := fun q => by
        subst q
        rw [less_irr] at h3; cases h3
      rw [if_neg e3]; exact h3
/-- One pair is above another. -/
def abP (p q : PairT) : Bool := rk (sha p.1.data.toList) (sha q.1.data.toList) p.1.data.toList q.1.data.toList
theorem ranked_abP (ps : List PairT) (h : ∀ p ∈ ps, ∀ q ∈ ps, p ≠ q → p.1 ≠ q.1) : Ranked abP ps :=
  ⟨fun p hp q hq hne => rk_tot fun e => h p hp q hq hne (by
      have : p.1.data = q.1.data := Array.toList_inj.1 e
      exact ByteArray.ext this),
   fun _ _ _ _ => rk_asy, fun _ _ _ _ _ _ => rk_tra⟩
theorem beats_abP (p q : PairT) : beats (shaB p.1) (shaB q.1) p.1 q.1 = abP p q := beats_rk _ _ _ _
theorem topTo_above (ps : List PairT) (h : Ranked abP ps) (hd : ∀ i j, i < ps.length → j < ps.length → i ≠ j → ps.getD i noPair ≠ ps.getD j noPair) (k : Nat) (hk : k < ps.length) :
    ∀ j, j ≤ k → j ≠ topTo ps k → abP (ps.getD (topTo ps k) noPair) (ps.getD j noPair) = true := by
  have hm : ∀ i, i < ps.length → ps.getD i noPair ∈ ps := fun i hi => by
    rw [List.getD_eq_getElem?_getD, List.getElem?_eq_getElem hi]; exact List.getElem_mem hi
  induction k with
  | zero => intro j hj hne; exact absurd (Nat.le_zero.1 hj) hne
  | succ k ih =>
    intro j hj hne
    have hT := topTo_le ps k
    have ih := ih (by omega)
    by_cases hb : beats (shaB (keyAt ps (k + 1))) (shaB (keyAt ps (topTo ps k))) (keyAt ps (k + 1)) (keyAt ps (topTo ps k)) = true
    · have he : topTo ps (k + 1) = k + 1 := by rw [topTo, if_pos hb]
      rw [he] at hne ⊢
      have hb' : abP (ps.getD (k + 1) noPair) (ps.getD (topTo ps k) noPair) = true := (beats_abP _ _).symm.trans hb
      by_cases hjt : j = topTo ps k
      · rw [hjt]; exact hb'
      · exact h.tra _ (hm _ hk) _ (hm _ (by omega)) _ (hm _ (by omega)) hb' (ih j (by omega) hjt)
    · have he : topTo ps (k + 1) = topTo ps k := by rw [topTo, if_neg hb]
      rw [he] at hne ⊢
      by_cases hjk : j = k + 1
      · subst hjk
        rcases h.tot _ (hm (topTo ps k) (by omega)) _ (hm (k + 1) hk) (hd _ _ (by omega) hk (by omega)) with q | q
        · exact q
        · exact absurd ((beats_abP _ _).trans q) hb
      · exact ih j (by omega) hne
end Go.Proofs.YtibjhkpgaaapaaaGreatDoor
namespace Go.Proofs.YtibjhkpgaaapaaaGreatDoor
open Go.RowKit Go.Proofs.Sha

/-- The keys of a list of pairs are apart. -/
def Apart (ps : List PairT) : Prop := ps.Pairwise fun p q => p.1 ≠ q.1
theorem Apart.ne {ps : List PairT} (h : Apart ps) : ∀ p ∈ ps, ∀ q ∈ ps, p ≠ q → p.1 ≠ q.1 := by
  induction ps with
  | nil => intro p hp; cases hp
  | cons x l ih =>
    obtain ⟨h1, h2⟩ := List.pairwise_cons.1 h
    intro p hp q hq hne
    rcases List.mem_cons.1 hp with rfl | hp' <;> rcases List.mem_cons.1 hq with rfl | hq'
    · exact absurd rfl hne
    · exact h1 q hq'
    · exact fun e => h1 p hp' e.symm
    · exact ih h2 p hp' q hq' hne
theorem getD_lt (ps : List PairT) (i : Nat) (hi : i < ps.length) : ps.getD i noPair = ps[i] := by
  rw [List.getD_eq_getElem?_getD, List.getElem?_eq_getElem hi]; rfl
theorem Apart.at_ {ps : List PairT} (h : Apart ps) (i j : Nat) (hi : i < ps.length) (hj : j < ps.length) (hne : i ≠ j) : ps.getD i noPair ≠ ps.getD j noPair := by
  rw [getD_lt _ _ hi, getD_lt _ _ hj]
  have hp := List.pairwise_iff_getElem.1 h
  intro e
  rcases Nat.lt_or_gt_of_ne hne with q | q
  · exact hp i j hi hj q (by rw [e])
  · exact hp j i hj hi q (by rw [e])
/-- The tree as the model cuts it. -/
def cutTree (ps : List PairT) : Tr PairT :=
  if h : 0 < ps.length then
    .node (cutTree (ps.take (topTo ps (ps.length - 1)))) (ps.getD (topTo ps (ps.length - 1)) noPair) (cutTree (ps.drop (topTo ps (ps.length - 1) + 1)))
  else .nil
termination_by ps.length
decreasing_by
  · have := topTo_le ps (ps.length - 1); rw [List.length_take]; omega
  · rw [List.length_drop]; omega
theorem cut_at (ps : List PairT) (t : Nat) (ht : t < ps.length) : ps.take t ++ ps.getD t noPair :: ps.drop (t + 1) = ps := by
  rw [getD_lt _ _ ht, ← List.drop_eq_getElem_cons ht, List.take_append_drop]
theorem cutTree_inord (ps : List PairT) : (cutTree ps).inord = ps := by
  induction hn : ps.length using Nat.strongRecOn generalizing ps with
  | _ n ih =>
    rw [cutTree]
    by_cases h : 0 < ps.length
    · have ht := topTo_le ps (ps.length - 1)
      rw [dif_pos h, Tr.inord, ih _ (by rw [List.length_take]; omega) _ rfl, ih _ (by rw [List.length_drop]; omega) _ rfl]
      exact cut_at ps _ (by omega)
    · rw [dif_neg h]
      cases ps with
      | nil => rfl
      | cons x l => exact absurd (Nat.succ_pos _) h
theorem cutTree_heap (ps : List PairT) (ha : Apart ps) : (cutTree ps).heap abP := by
  induction hn : ps.length using Nat.strongRecOn generalizing ps with
  | _ n ih =>
    rw [cutTree]
    by_cases h : 0 < ps.length
    · have ht := topTo_le ps (ps.length - 1)
      have hab := topTo_above ps (ranked_abP ps ha.ne) ha.at_ (ps.length - 1) (by omega)
      rw [dif_pos h]
      refine ⟨fun y hy => ?_, fun y hy => ?_, ih _ (by rw [List.length_take]; omega) _ (List.Pairwise.sublist (List.take_sublist _ _) ha) rfl, ih _ (by rw [List.length_drop]; omega) _ (List.Pairwise.sublist (List.drop_sublist _ _) ha) rfl⟩
      · rw [cutTree_inord] at hy
        obtain ⟨i, hi, rfl⟩ := List.getElem_of_mem hy
        rw [List.length_take] at hi
        rw [List.getElem_take, ← getD_lt ps i (by omega)]
        exact hab i (by omega) (by omega)
      · rw [cutTree_inord] at hy
        obtain ⟨i, hi, rfl⟩ := List.getElem_of_mem hy
        rw [List.length_drop] at hi
        rw [List.getElem_drop, ← getD_lt ps _ (by omega)]
        exact hab _ (by omega) (by omega)
    · rw [dif_neg h]; trivial
/-- Singles, merged one after another, are the tree that the model cuts. -/
def mergedTo (ps : List PairT) : Nat → Tr PairT
  | 0 => .nil
  | k + 1 => Tr.merge abP (mergedTo ps k) (.node .nil (ps.getD k noPair) .nil)
theorem mergedTo_inord (ps : List PairT) (k : Nat) (hk : k ≤ ps.length) : (mergedTo ps k).inord = ps.take k := by
  induction k with
  | zero => rfl
  | succ k ih =>
    rw [mergedTo, Tr.merge_inord, ih (by omega), List.take_succ_eq_append_getElem (by omega), getD_lt _ _ (by omega)]
    rfl
theorem mergedTo_heap (ps : List PairT) (ha : Apart ps) (k : Nat) (hk : k ≤ ps.length) : (mergedTo ps k).heap abP := by
  induction k with
  | zero => trivial
  | succ k ih =>
    rw [mergedTo]
    have hr := ranked_abP ps ha.ne
    have hi : (Tr.node .nil (ps.getD k noPair) .nil : Tr PairT).inord = [ps.getD k noPair] := rfl
    refine Tr.merge_heap abP _ _ (ih (by omega)) ⟨fun _ h => (by cases h), fun _ h => (by cases h), trivial, trivial⟩ (hr.sub abP fun x hx => ?_) (fun x hx y hy => ?_)
    · rw [hi, mergedTo_inord ps k (by omega)] at hx
      rcases List.mem_append.1 hx with q | q
      · exact List.mem_of_mem_take q
      · rw [List.mem_singleton.1 q, getD_lt _ _ (by omega)]; exact List.getElem_mem _
    · rw [mergedTo_inord ps k (by omega)] at hx
      rw [hi] at hy
      obtain ⟨i, hi', rfl⟩ := List.getElem_of_mem hx
      rw [List.length_take] at hi'
      rw [List.getElem_take, List.mem_singleton.1 hy, ← getD_lt ps i (by omega)]
      exact ha.at_ i k (by omega) (by omega) (by omega)
theorem merged_cut (ps : List PairT) (ha : Apart ps) : mergedTo ps ps.length = cutTree ps := by
  have hi : (mergedTo ps ps.length).inord = ps := by rw [mergedTo_inord ps _ (Nat.le_refl _), List.take_length]
  refine Tr.unique abP _ _ (mergedTo_heap ps ha _ (Nat.le_refl _)) (cutTree_heap ps ha) (by rw [hi, cutTree_inord]) ?_ ?_
  · rw [hi]; exact ha.imp fun h e => h (by rw [e])
  · rw [hi]; exact ranked_abP ps ha.ne
end Go.Proofs.YtibjhkpgaaapaaaGreatDoor
namespace Go.Proofs.YtibjhkpgaaapaaaGreatDoor
open Go.RowKit Go.Proofs.Sha

theorem mapTo_good (ps : List PairT) : ∀ n, mapTo ps n = true → ∀ k, k < n → goodAt ps k = true
  | 0, _, k, hk => absurd hk (Nat.not_lt_zero _)
  | n + 1, h, k, hk => by
    rw [mapTo, Bool.and_eq_true] at h
    by_cases e : k = n
    · subst e; exact h.2
    · exact mapTo_good ps n h.1 k (by omega)
theorem mapTo_less (ps : List PairT) (n : Nat) (h : mapTo ps n = true) (i j : Nat) (hij : i < j) (hj : j < n) : Op.bytesLess (keyAt ps i).data.toList (keyAt ps j).data.toList = true := by
  induction j with
  | zero => omega
  | succ j ih =>
    have hg := mapTo_good ps n h (j + 1) hj
    unfold goodAt at hg
    rw [Bool.and_eq_true, Bool.and_eq_true, ByteArray.toList_eq, ByteArray.toList_eq] at hg
    have hl : Op.bytesLess (keyAt ps j).data.toList (keyAt ps (j + 1)).data.toList = true := hg.2.2
    by_cases e : i = j
    · subst e; exact hl
    · exact less_trans _ _ _ (ih (by omega) (by omega)) hl
theorem isMapT_apart (ps : List PairT) (h : isMapT ps = true) : Apart ps := by
  unfold isMapT at h
  rw [Bool.and_eq_true] at h
  refine List.pairwise_iff_getElem.2 fun i j hi hj hij e => ?_
  have hl := mapTo_less ps ps.length h.2 i j hij hj
  have hk : keyAt ps i = keyAt ps j := by
    unfold keyAt
    rw [getD_lt _ _ hi, getD_lt _ _ hj, e]
  rw [hk, less_irr] at hl
  cases hl
end Go.Proofs.YtibjhkpgaaapaaaGreatDoor
namespace Go.Proofs.YtibjhkpgaaapaaaGreatDoor
open Go.RowKit Go.Proofs.Sha

theorem above_said : AboveSaid abP := fun p q w => above_any _ _ (sha_len32 _) (sha_len32 _) p.1 q.1 w

set_option maxRecDepth 100000 in
set_option maxHeartbeats 2000000 in
theorem treeOf_any {K : World → Prop} (HR : Hid (RankSaid K)) (keep : Hid (∀ w1 w2, K w1 → Below w1.heap.size w1 w2 → K w2)) (a : Option Addr) (ps : List PairT) (c : Nat) (w : World) (h : PArg a ps w) (hK : K w) :
    Calls Tryz.prog 72 #[.slice a ps.length c] w fun e w' => ∃ p, e = .returned (.pointer p) ∧ TA w.heap.size bare (mergedTo ps ps.length) p w' ∧ Below w.heap.size w w' := by
  have hn := h.le
  obtain ⟨n, hnn⟩ : ∃ n, ps.length = n := ⟨_, rfl⟩
  rw [hnn]
  rw [hnn] at hn
  have hnl : Hid (ps.length = n) := hnn
  have HM := fun (w' : World) (hb : Below w.heap.size w w') (k : Nat) (p q : Option Addr) (h1 : TA w.heap.size bare (mergedTo ps k) p w') (h2 : TA w.heap.size bare (.node .nil (ps.getD k noPair) .nil) q w') => merge_any (ab := abP) above_said w.heap.size _ (mergedTo ps k) (.node .nil (ps.getD k noPair) .nil) p q w' (Nat.le_refl _) hb.size h1 h2
  have HS := fun (w' : World) (hb : Below w.heap.size w w') (k : Nat) => single_any HR keep (ps.getD k noPair).1 (ps.getD k noPair).2 w' (h.sz k).1 (keep.out _ _ hK hb)
  replace HM : Hid _ := HM
  replace HS : Hid _ := HS
  clear hnn hK keep HR
  go_enter Tryz.func72, Tryz.ntmps72
  go_wp2_with fail
  go_loopw [3, 8] (fun t3 t8 wr => ∃ (k : Nat) (p : Option Addr), k ≤ n ∧ t3 = .pointer p ∧ t8 = .int .i64 (k : Int) ∧ TA w.heap.size bare (mergedTo ps k) p wr ∧ Below w.heap.size w wr) (fun _ t8 _ => n - (intOf t8).toNat)
  case atStart => exact ⟨0, none, Nat.zero_le _, rfl, rfl, rfl, Below.refl _ _⟩
  case round =>
    obtain ⟨k, p, hk, rfl, rfl, ht, hbw⟩ := hrel
    by_cases hlt : k < n
    · have z3 : decide ((k : Int) < (n : Int)) = true := by simp; omega
      have hx0 : (0 : Int) ≤ (k : Int) := Int.natCast_nonneg _
      have hx1 : (k : Int) < (n : Int) := by omega
      obtain ⟨b, off, rfl, hbl, hc⟩ := (h.below hbw).at_ (by rw [hnl.out]; omega)
      obtain ⟨hc1, hc2⟩ := hc k (by rw [hnl.out]; exact hlt)
      have H1 := fun w' hb => HS.out w' hb k
      have H2 := fun w' hb p q => HM.out w' hb k p q
      have hmk : Hid (mergedTo ps (k + 1) = Tr.merge abP (mergedTo ps k) (.node .nil (ps.getD k noPair) .nil)) := rfl
      rw [← hmk.out] at H2
      generalize ps.getD k noPair = x at hc1 hc2 H1 H2
      obtain ⟨x1, x2⟩ := x
      dsimp only at hc1 hc2 H1 H2
      replace H1 : Hid _ := H1
      replace H2 : Hid _ := H2
      have hbA : Below w.heap.size w (wr.alloc (.cells #[.string x1, .string x2] 81)) := hbw.alloc hbw.size _
      have htA : TA w.heap.size bare (mergedTo ps k) p (wr.alloc (.cells #[.string x1, .string x2] 81)) := ht.below ((Below.refl _ _).alloc (Nat.le_refl _) _) (Nat.le_refl _)
      clear hc hmk
      go_wp2_with (first | (go_at_call 133; refine (H1.out _ hbA).mono ?_; rintro e w1 ⟨b1, rfl, hge, ht1, hb1⟩; have hbw1 : Below w.heap.size w w1 := hbA.trans (hb1.mono hbA.size); have htB := htA.below hb1 (Nat.le_refl _)) | (go_at_call 132; refine (H2.out _ hbw1 _ _ htB ⟨b1, none, none, rfl, (by have := hbA.size; omega), ht1, rfl, rfl⟩).mono ?_; rintro e w2 ⟨q, rfl, ht2, hb2⟩; have hbw2 : Below w.heap.size w w2 := hbw1.trans (hb2.mono hbw1.size)))
      go_roundw
      case rel => exact ⟨k + 1, q, hlt, rfl, by go_num, ht2, hbw2⟩
      case measure => simp [intOf]; omega
    · obtain rfl : k = n := by omega
      have z3 : decide ((k : Int) < (k : Int)) = false := by simp
      go_wp2_with fail
      go_ret
      exact ⟨p, rfl, ht, hbw⟩
end Go.Proofs.YtibjhkpgaaapaaaGreatDoor
namespace Go.Proofs.YtibjhkpgaaapaaaGreatDoor
open Go.RowKit Go.Proofs.Sha

set_option maxRecDepth 100000 in
set_option maxHeartbeats 1000000 in
/-- encodingDigest: what is hashed, cut to a width. -/
theorem edig_any (q : ByteArray) (m : Nat) (w : World) (hq : q.size ≤ 1048576) (h1 : 1 ≤ m) (h2 : m ≤ 32) (hK : ∀ j, j < 64 → w.cell? ⟨0, j, none⟩ = some (.int .u32 ((kTab.getD j 0).toNat : Int))) :
    Calls Tryz.prog 145 #[.string q, .int .i64 (m : Int)] w fun e w' => e = .returned (.string ⟨((sha (78 :: q.data.toList)).take m).toArray⟩) ∧ Below w.heap.size w w' := by
  have HE : Hid (Calls Tryz.prog 175 #[.string q] w fun e w'' => e = .returned (.agg ((sha (78 :: q.data.toList)).map B).toArray) ∧ Below w.heap.size w w'') := ehash_any q w hq hK
  have hln : (sha (78 :: q.data.toList)).length = 32 := sha_len _
  obtain ⟨M, hM⟩ : ∃ M, sha (78 :: q.data.toList) = M := ⟨_, rfl⟩
  rw [hM] at HE hln
  rw [hM]
  clear hM hK
  have hln2 : (M.map B).length = 32 := by rw [List.length_map, hln]
  have h1c : ∀ v ∈ M.map B, v.oneCell' = true := by
    intro v hv
    obtain ⟨x, _, rfl⟩ := List.mem_map.1 hv
    rfl
  obtain ⟨L, hL⟩ : ∃ L, M.map B = L := ⟨_, rfl⟩
  have HL : Hid (M.map B = L) := hL
  rw [hL] at HE hln2 h1c
  clear hL
  have q1 : (1 : Int) ≤ (m : Int) := by omega
  have q2 : (m : Int) ≤ 32 := by omega
  have q3 : (0 : Int) ≤ (m : Int) := by omega
  go_enter Tryz.func145, Tryz.ntmps145
  go_wp2_with fail
  refine HE.out.mono ?_
  rintro e w2 ⟨rfl, hb2⟩
  go_wp2_with (first | (refine wpList_alloc_row _ rfl (some 5) rfl 247 247 rfl (zeros8.map B) alloc32 ?_; intro g2 w3 hr3 hb3) | (refine wpList_store_whole _ rfl rfl 247 (.tmp 5) (.tmp 7) rfl w2.heap.size g2 32 (zeros8.map B) L rfl rfl hr3 hln2 size32 h1c ?_; intro w4 hr4 hg4) | (refine wpList_string_row _ rfl (.tmp 9) 41 9 5 rfl w2.heap.size g2 m 32 (M.take m) rfl (by rw [List.map_take, HL.out]; exact row_take hr4 m h2) Tryz.underlying41 Tryz.underlying5 Tryz.underlying9 ?_))
  go_ret
  have hw3 : Below w.heap.size w w3 := hb2.trans (hb3.mono hb2.size)
  exact ⟨rfl, hw3.trans (below_of_grown hg4 (by have := hr3.ge; have := hb2.size; omega) (by have := hw3.size; omega))⟩
end Go.Proofs.YtibjhkpgaaapaaaGreatDoor
