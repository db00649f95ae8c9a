import Derived.Test.YtibjhkpgaaapaaaGreatDoorZgal
import Derived.Test.YtibjhkpgaaapaaaGreatDoorZgaa
import Derived.Test.YtibjhkpgaaapaaaGreatDoorZgab
import Derived.Test.YtibjhkpgaaapaaaGreatDoorZgak
set_option maxRecDepth 100000
set_option maxHeartbeats 1000000
namespace Go.Proofs.YtibjhkpgaaapaaaGreatDoor
open Go.RowKit Go.Proofs.Sha

theorem less_asy {a b : List UInt8} (h : Op.bytesLess a b = true) : Op.bytesLess b a = false := by
  rw [less_tri] at h
  cases hb : Op.bytesLess b a with
  | false => rfl
  | true => rw [hb] at h; simp at h
theorem less_tot {a b : List UInt8} (h : a ≠ b) : Op.bytesLess a b = true ∨ Op.bytesLess b a = true := by
  rw [less_tri a b]
  cases hb : Op.bytesLess b a with
  | true => exact .inr rfl
  | false =>
    left
    have : (b == a) = false := beq_eq_false_iff_ne.2 fun e => h e.symm
    rw [this]; rfl
theorem less_trans : ∀ a b c : List UInt8, Op.bytesLess a b = true → Op.bytesLess b c = true → Op.bytesLess a c = true
  | _, [], [], _, h => by simp [Op.bytesLess] at h
  | [], [], _ :: _, h, _ => by simp [Op.bytesLess] at h
  | _ :: _, [], _, h, _ => by simp [Op.bytesLess] at h
  | [], _ :: _, [], _, h => by simp [Op.bytesLess] at h
  | _ :: _, _ :: _, [], _, h => by simp [Op.bytesLess] at h
  | [], _ :: _, _ :: _, _, _ => by simp [Op.bytesLess]
  | a :: x, b :: y, c :: z, h1, h2 => by
    simp only [Op.bytesLess, Bool.or_eq_true, Bool.and_eq_true, decide_eq_true_eq, beq_iff_eq, UInt8.lt_iff_toNat_lt] at h1 h2 ⊢
    have ih := less_trans x y z
    rcases h1 with h1 | ⟨h1, h1'⟩ <;> rcases h2 with h2 | ⟨h2, h2'⟩
    · left; omega
    · subst h2; exact .inl h1
    · subst h1; exact .inl h2
    · subst h1; subst h2; exact .inr ⟨rfl, ih h1' h2'⟩
theorem rk_asy {x y a b : List UInt8} (h : rk x y a b = true) : rk y x b a = false := by
  unfold rk at h ⊢
  by_cases e : x = y
  · rw [if_pos e] at h; rw [if_pos e.symm]; exact less_asy h
  · rw [if_neg e] at h; rw [if_neg (fun q => e q.symm)]; exact less_asy h
theorem rk_tot {x y a b : List UInt8} (h : a ≠ b) : rk x y a b = true ∨ rk y x b a = true := by
  unfold rk
  by_cases e : x = y
  · rw [if_pos e, if_pos e.symm]; exact less_tot h
  · rw [if_neg e, if_neg (fun q => e q.symm)]; exact less_tot (fun q => e q.symm)
theorem rk_tra {x y z a b c : List UInt8} (h1 : rk x y a b = true) (h2 : rk y z b c = true) : rk x z a c = true := by
  unfold rk at h1 h2 ⊢
  by_cases e : x = y
  · subst e
    rw [if_pos rfl] at h1
    by_cases e2 : x = z
    · rw [if_pos e2] at h2 ⊢; exact less_trans _ _ _ h1 h2
    · rw [if_neg e2] at h2 ⊢; exact h2
  · rw [if_neg e] at h1
    by_cases e2 : y = z
    · subst e2
      rw [if_neg e]; exact h1
    · rw [if_neg e2] at h2
      have h3 := less_trans _ _ _ h2 h1
      have e3 : x ≠ z := fun q => by
        subst q
        rw [less_irr] at h3; cases h3
      rw [if_neg e3]; exact h3
/-- One pair is above another. -/
def abP (p q : PairT) : Bool := rk (sha p.1.data.toList) (sha q.1.data.toList) p.1.data.toList q.1.data.toList
theorem ranked_abP (ps : List PairT) (h : ∀ p ∈ ps, ∀ q ∈ ps, p ≠ q → p.1 ≠ q.1) : Ranked abP ps :=
  ⟨fun p hp q hq hne => rk_tot fun e => h p hp q hq hne (by
      have : p.1.data = q.1.data := Array.toList_inj.1 e
      exact ByteArray.ext this),
   fun _ _ _ _ => rk_asy, fun _ _ _ _ _ _ => rk_tra⟩
theorem beats_abP (p q : PairT) : beats (shaB p.1) (shaB q.1) p.1 q.1 = abP p q := beats_rk _ _ _ _
theorem topTo_above (ps : List PairT) (h : Ranked abP ps) (hd : ∀ i j, i < ps.length → j < ps.length → i ≠ j → ps.getD i noPair ≠ ps.getD j noPair) (k : Nat) (hk : k < ps.length) :
    ∀ j, j ≤ k → j ≠ topTo ps k → abP (ps.getD (topTo ps k) noPair) (ps.getD j noPair) = true := by
  have hm : ∀ i, i < ps.length → ps.getD i noPair ∈ ps := fun i hi => by
    rw [List.getD_eq_getElem?_getD, List.getElem?_eq_getElem hi]; exact List.getElem_mem hi
  induction k with
  | zero => intro j hj hne; exact absurd (Nat.le_zero.1 hj) hne
  | succ k ih =>
    intro j hj hne
    have hT := topTo_le ps k
    have ih := ih (by omega)
    by_cases hb : beats (shaB (keyAt ps (k + 1))) (shaB (keyAt ps (topTo ps k))) (keyAt ps (k + 1)) (keyAt ps (topTo ps k)) = true
    · have he : topTo ps (k + 1) = k + 1 := by rw [topTo, if_pos hb]
      rw [he] at hne ⊢
      have hb' : abP (ps.getD (k + 1) noPair) (ps.getD (topTo ps k) noPair) = true := (beats_abP _ _).symm.trans hb
      by_cases hjt : j = topTo ps k
      · rw [hjt]; exact hb'
      · exact h.tra _ (hm _ hk) _ (hm _ (by omega)) _ (hm _ (by omega)) hb' (ih j (by omega) hjt)
    · have he : topTo ps (k + 1) = topTo ps k := by rw [topTo, if_neg hb]
      rw [he] at hne ⊢
      by_cases hjk : j = k + 1
      · subst hjk
        rcases h.tot _ (hm (topTo ps k) (by omega)) _ (hm (k + 1) hk) (hd _ _ (by omega) hk (by omega)) with q | q
        · exact q
        · exact absurd ((beats_abP _ _).trans q) hb
      · exact ih j (by omega) hne
/-- The keys of a list of pairs are apart. -/
def Apart (ps : List PairT) : Prop := ps.Pairwise fun p q => p.1 ≠ q.1
theorem Apart.ne {ps : List PairT} (h : Apart ps) : ∀ p ∈ ps, ∀ q ∈ ps, p ≠ q → p.1 ≠ q.1 := by
  induction ps with
  | nil => intro p hp; cases hp
  | cons x l ih =>
    obtain ⟨h1, h2⟩ := List.pairwise_cons.1 h
    intro p hp q hq hne
    rcases List.mem_cons.1 hp with rfl | hp' <;> rcases List.mem_cons.1 hq with rfl | hq'
    · exact absurd rfl hne
    · exact h1 q hq'
    · exact fun e => h1 p hp' e.symm
    · exact ih h2 p hp' q hq' hne
theorem getD_lt (ps : List PairT) (i : Nat) (hi : i < ps.length) : ps.getD i noPair = ps[i] := by
  rw [List.getD_eq_getElem?_getD, List.getElem?_eq_getElem hi]; rfl
theorem Apart.at_ {ps : List PairT} (h : Apart ps) (i j : Nat) (hi : i < ps.length) (hj : j < ps.length) (hne : i ≠ j) : ps.getD i noPair ≠ ps.getD j noPair := by
  rw [getD_lt _ _ hi, getD_lt _ _ hj]
  have hp := List.pairwise_iff_getElem.1 h
  intro e
  rcases Nat.lt_or_gt_of_ne hne with q | q
  · exact hp i j hi hj q (by rw [e])
  · exact hp j i hj hi q (by rw [e])
/-- The tree as the model cuts it. -/
def cutTree (ps : List PairT) : Tr PairT :=
  if h : 0 < ps.length then
    .node (cutTree (ps.take (topTo ps (ps.length - 1)))) (ps.getD (topTo ps (ps.length - 1)) noPair) (cutTree (ps.drop (topTo ps (ps.length - 1) + 1)))
  else .nil
termination_by ps.length
decreasing_by
  · have := topTo_le ps (ps.length - 1); rw [List.length_take]; omega
  · rw [List.length_drop]; omega
theorem cut_at (ps : List PairT) (t : Nat) (ht : t < ps.length) : ps.take t ++ ps.getD t noPair :: ps.drop (t + 1) = ps := by
  rw [getD_lt _ _ ht, ← List.drop_eq_getElem_cons ht, List.take_append_drop]
theorem cutTree_inord (ps : List PairT) : (cutTree ps).inord = ps := by
  induction hn : ps.length using Nat.strongRecOn generalizing ps with
  | _ n ih =>
    rw [cutTree]
    by_cases h : 0 < ps.length
    · have ht := topTo_le ps (ps.length - 1)
      rw [dif_pos h, Tr.inord, ih _ (by rw [List.length_take]; omega) _ rfl, ih _ (by rw [List.length_drop]; omega) _ rfl]
      exact cut_at ps _ (by omega)
    · rw [dif_neg h]
      cases ps with
      | nil => rfl
      | cons x l => exact absurd (Nat.succ_pos _) h
theorem cutTree_heap (ps : List PairT) (ha : Apart ps) : (cutTree ps).heap abP := by
  induction hn : ps.length using Nat.strongRecOn generalizing ps with
  | _ n ih =>
    rw [cutTree]
    by_cases h : 0 < ps.length
    · have ht := topTo_le ps (ps.length - 1)
      have hab := topTo_above ps (ranked_abP ps ha.ne) ha.at_ (ps.length - 1) (by omega)
      rw [dif_pos h]
      refine ⟨fun y hy => ?_, fun y hy => ?_, ih _ (by rw [List.length_take]; omega) _ (List.Pairwise.sublist (List.take_sublist _ _) ha) rfl, ih _ (by rw [List.length_drop]; omega) _ (List.Pairwise.sublist (List.drop_sublist _ _) ha) rfl⟩
      · rw [cutTree_inord] at hy
        obtain ⟨i, hi, rfl⟩ := List.getElem_of_mem hy
        rw [List.length_take] at hi
        rw [List.getElem_take, ← getD_lt ps i (by omega)]
        exact hab i (by omega) (by omega)
      · rw [cutTree_inord] at hy
        obtain ⟨i, hi, rfl⟩ := List.getElem_of_mem hy
        rw [List.length_drop] at hi
        rw [List.getElem_drop, ← getD_lt ps _ (by omega)]
        exact hab _ (by omega) (by omega)
    · rw [dif_neg h]; trivial
theorem mapTo_good (ps : List PairT) : ∀ n, mapTo ps n = true → ∀ k, k < n → goodAt ps k = true
  | 0, _, k, hk => absurd hk (Nat.not_lt_zero _)
  | n + 1, h, k, hk => by
    rw [mapTo, Bool.and_eq_true] at h
    by_cases e : k = n
    · subst e; exact h.2
    · exact mapTo_good ps n h.1 k (by omega)
theorem mapTo_less (ps : List PairT) (n : Nat) (h : mapTo ps n = true) (i j : Nat) (hij : i < j) (hj : j < n) : Op.bytesLess (keyAt ps i).data.toList (keyAt ps j).data.toList = true := by
  induction j with
  | zero => omega
  | succ j ih =>
    have hg := mapTo_good ps n h (j + 1) hj
    unfold goodAt at hg
    rw [Bool.and_eq_true, Bool.and_eq_true, ByteArray.toList_eq, ByteArray.toList_eq] at hg
    have hl : Op.bytesLess (keyAt ps j).data.toList (keyAt ps (j + 1)).data.toList = true := hg.2.2
    by_cases e : i = j
    · subst e; exact hl
    · exact less_trans _ _ _ (ih (by omega) (by omega)) hl
/-- encodingDigest: what is hashed, cut to a width. -/
theorem edig_any (q : ByteArray) (m : Nat) (w : World) (hq : q.size ≤ 1048576) (h1 : 1 ≤ m) (h2 : m ≤ 32) (hK : ∀ j, j < 64 → w.cell? ⟨0, j, none⟩ = some (.int .u32 ((kTab.getD j 0).toNat : Int))) :
    Calls Tryz.prog 145 #[.string q, .int .i64 (m : Int)] w fun e w' => e = .returned (.string ⟨((sha (78 :: q.data.toList)).take m).toArray⟩) ∧ Below w.heap.size w w' := by
  have HE : Hid (Calls Tryz.prog 175 #[.string q] w fun e w'' => e = .returned (.agg ((sha (78 :: q.data.toList)).map B).toArray) ∧ Below w.heap.size w w'') := ehash_any q w hq hK
  have hln : (sha (78 :: q.data.toList)).length = 32 := sha_len _
  obtain ⟨M, hM⟩ : ∃ M, sha (78 :: q.data.toList) = M := ⟨_, rfl⟩
  rw [hM] at HE hln
  rw [hM]
  clear hM hK
  have hln2 : (M.map B).length = 32 := by rw [List.length_map, hln]
  have h1c : ∀ v ∈ M.map B, v.oneCell' = true := by
    intro v hv
    obtain ⟨x, _, rfl⟩ := List.mem_map.1 hv
    rfl
  obtain ⟨L, hL⟩ : ∃ L, M.map B = L := ⟨_, rfl⟩
  have HL : Hid (M.map B = L) := hL
  rw [hL] at HE hln2 h1c
  clear hL
  have q1 : (1 : Int) ≤ (m : Int) := by omega
  have q2 : (m : Int) ≤ 32 := by omega
  have q3 : (0 : Int) ≤ (m : Int) := by omega
  go_enter Tryz.func145, Tryz.ntmps145
  go_wp2_with fail
  refine HE.out.mono ?_
  rintro e w2 ⟨rfl, hb2⟩
  go_wp2_with (first | (refine wpList_alloc_row _ rfl (some 5) rfl 247 247 rfl (zeros8.map B) alloc32 ?_; intro g2 w3 hr3 hb3) | (refine wpList_store_whole _ rfl rfl 247 (.tmp 5) (.tmp 7) rfl w2.heap.size g2 32 (zeros8.map B) L rfl rfl hr3 hln2 size32 h1c ?_; intro w4 hr4 hg4) | (refine wpList_string_row _ rfl (.tmp 9) 41 9 5 rfl w2.heap.size g2 m 32 (M.take m) rfl (by rw [List.map_take, HL.out]; exact row_take hr4 m h2) Tryz.underlying41 Tryz.underlying5 Tryz.underlying9 ?_))
  go_ret
  have hw3 : Below w.heap.size w w3 := hb2.trans (hb3.mono hb2.size)
  exact ⟨rfl, hw3.trans (below_of_grown hg4 (by have := hr3.ge; have := hb2.size; omega) (by have := hw3.size; omega))⟩
/-- What is hashed of an encoding, cut to a width. -/
def digB (q : ByteArray) (m : Nat) : ByteArray := ⟨((sha (78 :: q.data.toList)).take m).toArray⟩
/-- The root of a tree. -/
def rootT (m : Nat) : Tr PairT → ByteArray
  | .nil => ⟨#[]⟩
  | .node l x r => digB (encS x.1 x.2 (rootT m l) (rootT m r) m) m
/-- The encoding of a tree's top. -/
def encT (m : Nat) : Tr PairT → ByteArray
  | .nil => ⟨#[]⟩
  | .node l x r => encS x.1 x.2 (rootT m l) (rootT m r) m
theorem digB_size (q : ByteArray) (m : Nat) (h : m ≤ 32) : (digB q m).size = m := by
  show ((sha (78 :: q.data.toList)).take m).toArray.size = m
  rw [List.size_toArray, List.length_take, sha_len32]; omega
theorem rootT_size (m : Nat) (h : m ≤ 32) (t : Tr PairT) : (rootT m t).size = 0 ∨ (rootT m t).size = m := by
  cases t with
  | nil => exact .inl rfl
  | node l x r => exact .inr (digB_size _ m h)

/-- Only blocks of 'M' may have turned. -/
structure Upd (M : Nat → Prop) (w w' : World) : Prop where
  os : w'.os = w.os
  tape : w'.tape = w.tape
  output : w'.output = w.output
  size : w.heap.size ≤ w'.heap.size
  block : ∀ k, k < w.heap.size → ¬ M k → w'.heap[k]? = w.heap[k]?
theorem Upd.trans {M : Nat → Prop} {a b c : World} (h : Upd M a b) (k : Upd M b c) : Upd M a c :=
  ⟨k.os.trans h.os, k.tape.trans h.tape, k.output.trans h.output, Nat.le_trans h.size k.size, fun i hi hM => (k.block i (Nat.lt_of_lt_of_le hi h.size) hM).trans (h.block i hi hM)⟩
theorem Upd.of_below {M : Nat → Prop} {a b : World} (h : Below a.heap.size a b) : Upd M a b := ⟨h.os, h.tape, h.output, h.size, fun k hk _ => h.block k hk⟩
theorem Upd.below {M : Nat → Prop} {a b : World} {n : Nat} (h : Upd M a b) (hn : n ≤ a.heap.size) (hM : ∀ k, M k → n ≤ k) : Below n a b :=
  ⟨h.os, h.tape, h.output, h.size, fun k hk => h.block k (Nat.lt_of_lt_of_le hk hn) fun q => by have := hM k q; omega⟩
theorem Upd.drew {M : Nat → Prop} {a b : World} (h : Upd M a b) : Upd M a b.drew := ⟨h.os, h.tape, h.output, h.size, h.block⟩
theorem Upd.setCell {M : Nat → Prop} {a b : World} (h : Upd M a b) (g o : Nat) (v : Value) (hM : M g) : Upd M a (b.setCell ⟨g, o, none⟩ v) := by
  refine ⟨h.os, h.tape, h.output, ?_, fun k hk hn => ?_⟩
  · have : (b.setCell ⟨g, o, none⟩ v).heap.size = b.heap.size := by simp [World.setCell]
    rw [this]; exact h.size
  · rw [Below.heap_setCell _ _ _ _ (fun e => hn (by rw [e]; exact hM))]
    exact h.block k hk hn
section
variable {n0 : Nat} {f : Tr PairT → ByteArray × ByteArray}
end
def isW (n : Int) : Bool := decide (1 ≤ n) && decide (n ≤ 32)
theorem isW_out {n : Int} (h : isW n = true) : ∃ m : Nat, n = (m : Int) ∧ 1 ≤ m ∧ m ≤ 32 := by
  unfold isW at h
  rw [Bool.and_eq_true, decide_eq_true_eq, decide_eq_true_eq] at h
  exact ⟨n.toNat, by omega, by omega, by omega⟩
theorem isW_any (n : Int) (w : World) : Calls Tryz.prog 94 #[.int .i64 n] w fun e w' => e = .returned (.bool (isW n)) ∧ w' = w := by
  unfold isW
  by_cases h : 1 ≤ n
  · have z : decide (1 ≤ n) = true := decide_eq_true h
    rw [z, Bool.true_and]
    go_enter Tryz.func94, Tryz.ntmps94
    go_wp2_with fail
    go_ret
    exact ⟨rfl, rfl⟩
  · have z : decide (1 ≤ n) = false := decide_eq_false h
    rw [z, Bool.false_and]
    go_enter Tryz.func94, Tryz.ntmps94
    go_wp2_with fail
    go_ret
    exact ⟨rfl, rfl⟩
theorem isW_spec (n : Int) (w : World) : Calls Tryz.prog 63 #[.int .i64 n] w fun e w' => e = .returned (.bool (isW n)) ∧ w' = w := by
  unfold isW
  by_cases h : 1 ≤ n
  · have z : decide (1 ≤ n) = true := decide_eq_true h
    rw [z, Bool.true_and]
    go_enter Tryz.func63, Tryz.ntmps63
    go_wp2_with fail
    go_ret
    exact ⟨rfl, rfl⟩
  · have z : decide (1 ≤ n) = false := decide_eq_false h
    rw [z, Bool.false_and]
    go_enter Tryz.func63, Tryz.ntmps63
    go_wp2_with fail
    go_ret
    exact ⟨rfl, rfl⟩
/-- The root of a map. -/
def rootS (ps : List PairT) (n : Int) : ByteArray := if (isMapT ps && isW n) = true then rootT n.toNat (cutTree ps) else ⟨#[]⟩
theorem shash_any (k v l r : ByteArray) (n : Int) (w : World) (hk : k.size ≤ 1048576) (hv : v.size ≤ 1048576) (hl : l.size ≤ 1048576) (hr : r.size ≤ 1048576) :
    Calls Tryz.prog 119 #[.agg #[.string k, .string v, .string l, .string r], .int .i64 n] w fun e w' => ∃ t, e = .returned (.string t) ∧ Hid (t = hashS k v l r n) ∧ Below w.heap.size w w' := by
  have hsz := encS_size k v l r n
  obtain ⟨q, hq⟩ : ∃ q, encS k v l r n = q := ⟨_, rfl⟩
  have HA : Hid (∀ w', Calls Tryz.prog 40 #[.agg #[.string k, .string v, .string l, .string r], .int .i64 n] w' fun e w'' => e = .returned (.string q) ∧ Below w'.heap.size w' w'') := fun w' => (enc_any k v l r n w' hk hv hl hr).mono (by rintro e w'' ⟨t, rfl, HX, hb⟩; exact ⟨by rw [HX.out, hq], hb⟩)
  have HR : Hid (hashS k v l r n = if q.size = 0 then ⟨#[]⟩ else ⟨((sha (78 :: q.data.toList)).take n.toNat).toArray⟩) := by show _ = _; unfold hashS; rw [hq]
  rw [hq] at hsz
  clear hq hk hv hl hr
  by_cases h0 : q.size = 0
  · have z : ((q.size : Int) == 0) = true := by rw [h0]; rfl
    go_enter Tryz.func119, Tryz.ntmps119
    go_wp2_with (first | (go_at_call 40; refine (HA.out _).mono ?_; rintro e w1 ⟨rfl, hb1⟩))
    go_ret
    refine ⟨_, rfl, ?_, ((Below.refl _ w).alloc (Nat.le_refl _) _).trans (hb1.mono (by simp))⟩
    show _ = _
    rw [HR.out, if_pos h0]
  · have z : ((q.size : Int) == 0) = false := by rw [beq_eq_false_iff_ne]; omega
    obtain ⟨m, rfl⟩ := Int.eq_ofNat_of_zero_le (show 0 ≤ n by have := hsz.2 h0; omega)
    have hm := hsz.2 h0
    have HD : Hid (∀ (t : ByteArray) w', t.size ≤ 10001 → Calls Tryz.prog 23 #[.string t, .int .i64 (m : Int)] w' fun e w'' => e = .returned (.string ⟨((sha t.data.toList).take m).toArray⟩) ∧ Below w'.heap.size w' w'') := fun t w' ht => sdig_yes t m w' (by omega) (by omega) (by omega)
    go_enter Tryz.func119, Tryz.ntmps119
    go_wp2_with (first | (go_at_call 40; refine (HA.out _).mono ?_; rintro e w1 ⟨rfl, hb1⟩) | (go_at_call 39; refine (text_any q _ hsz.1).mono ?_; rintro e w2 ⟨t, rfl, ht, HT, rfl⟩) | (go_at_call 23; refine (HD.out t _ ht).mono ?_; rintro e w3 ⟨rfl, hb3⟩))
    go_ret
    have hw1 : Below w.heap.size w w1 := ((Below.refl _ w).alloc (Nat.le_refl _) _).trans (hb1.mono (by simp))
    refine ⟨_, rfl, ?_, hw1.trans (hb3.mono hw1.size)⟩
    show _ = _
    rw [HR.out, if_neg h0, HT.out, Int.toNat_natCast]
end Go.Proofs.YtibjhkpgaaapaaaGreatDoor
