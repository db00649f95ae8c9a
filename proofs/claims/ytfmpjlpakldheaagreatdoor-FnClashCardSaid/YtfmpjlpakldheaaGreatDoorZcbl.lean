import Derived.Test.YtfmpjlpakldheaaGreatDoorZcbk
namespace Go.Proofs.YtfmpjlpakldheaaGreatDoor
open Go.RowKit Go.Proofs.Sha

set_option maxRecDepth 100000 in
set_option maxHeartbeats 1000000 in
theorem twins_any (m : Nat) (h1 : 1 ≤ m) (h2 : m ≤ 32) (s t : Tr PairT) (p q : Option Addr) (w : World) (hs : TA 0 (hf m) s p w) (ht : TA 0 (hf m) t q w) (hp : Pre m s t) :
    Calls Tryz.prog 57 #[.agg #[.pointer p, .pointer q], .func (.func 58) #[] #[]] w fun e w' => e = .returned (.tuple #[.string (resT (twinT m s t)).1, .string (resT (twinT m s t)).2, .bool (!(twinT m s t).isNone)]) ∧ Below w.heap.size w w' := by
  obtain ⟨W, hW⟩ : ∃ W, ((w.alloc (.cells #[.pointer p, .pointer q] 82)).alloc (.cells #[.string ⟨#[]⟩] 9)).alloc (.cells #[.string ⟨#[]⟩] 9) = W := ⟨_, rfl⟩
  have hbA : Below w.heap.size w W := by rw [← hW]; exact (((Below.refl _ _).alloc (Nat.le_refl _) _).alloc (by simp) _).alloc (by simp; omega) _
  have n0 : W.heap[w.heap.size]? = some (.cells #[.pointer p, .pointer q] 82) := by
    rw [← hW, Below.heap_alloc _ _ _ (by simp; omega), Below.heap_alloc _ _ _ (by simp)]; exact heap_alloc_new w _
  have n1 : W.heap[w.heap.size + 1]? = some (.cells #[.string ⟨#[]⟩] 9) := by
    have := heap_alloc_new (w.alloc (.cells #[.pointer p, .pointer q] 82)) (.cells #[.string ⟨#[]⟩] 9)
    rw [← hW, Below.heap_alloc _ _ _ (by simp)]; simpa using this
  have n2 : W.heap[w.heap.size + 1 + 1]? = some (.cells #[.string ⟨#[]⟩] 9) := by
    have := heap_alloc_new ((w.alloc (.cells #[.pointer p, .pointer q] 82)).alloc (.cells #[.string ⟨#[]⟩] 9)) (.cells #[.string ⟨#[]⟩] 9)
    rw [← hW]; simpa using this
  have hAB : AB (w.heap.size + 1) (w.heap.size + 1 + 1) ⟨#[]⟩ ⟨#[]⟩ W := ⟨n1, n2, by omega⟩
  have HW := walk_both m (w.heap.size + 1) (w.heap.size + 1 + 1) h1 h2 s t p q W (.of (hs.below hbA (Nat.le_refl _)) hAB) (.of (ht.below hbA (Nat.le_refl _)) hAB) hp hAB
  unfold WBc wbArgs at HW
  have hmf : ∀ (fn : Fn) (first cap : Array Value) (w : World), (Instr.makeFunc fn first cap).run Tryz.prog w = .ok (.func fn first cap) w := fun _ _ _ _ => rfl
  clear hs ht hp n1 n2 hAB
  generalize twinT m s t = R at HW ⊢
  obtain ⟨ga, hga⟩ : ∃ ga, w.heap.size = ga := ⟨_, rfl⟩
  rw [hga] at n0 HW
  have k0 := Lib.cell_of_heap n0 0
  have k1 := Lib.cell_of_heap n0 1
  go_enter Tryz.func57, Tryz.ntmps57
  go_upto_region 3 with (go_at_call 100; refine HW.mono ?_; rintro e w1 ⟨rfl, hA1, hu1⟩; have ka := Lib.cell_of_heap hA1.ha 0; have kb := Lib.cell_of_heap hA1.hb 0)
  go_region_held3 (fun X => X.cell? ⟨ga + 1, 0, none⟩ = some (.string (resT R).1) ∧ X.cell? ⟨ga + 1 + 1, 0, none⟩ = some (.string (resT R).2)) (exact ⟨ka, kb⟩) (fail)
  have hb1 : Below w.heap.size w w1 := hbA.trans (hu1.below (by have := hbA.size; omega) (fun k hk => by omega))
  go_wp2_with fail
  exact bodyPost_ret (v := .tuple #[.string (resT R).1, .string (resT R).2, .bool (!R.isNone)]) (by simp [results, Tryz.results57, go_sem]) rfl ⟨rfl, hb1.drew⟩
/-- What Clash finds. -/
def clashR (ps qs : List PairT) (n : Int) : Option (ByteArray × ByteArray) := if (isMapT ps && (isMapT qs && isW n)) = true then (if rootT n.toNat (cutTree ps) = rootT n.toNat (cutTree qs) then twinT n.toNat (cutTree ps) (cutTree qs) else none) else none
def clashV (R : Option (ByteArray × ByteArray)) : Value := .tuple #[.string (resT R).1, .string (resT R).2, .bool (!R.isNone)]
theorem cut_pre (m : Nat) (ps qs : List PairT) (h1 : isMapT ps = true) (h2 : isMapT qs = true) (hr : rootT m (cutTree ps) = rootT m (cutTree qs)) : Pre m (cutTree ps) (cutTree qs) := by
  have l1 : ps.length ≤ 500 := by unfold isMapT at h1; rw [Bool.and_eq_true, decide_eq_true_eq] at h1; exact h1.1
  have l2 : qs.length ≤ 500 := by unfold isMapT at h2; rw [Bool.and_eq_true, decide_eq_true_eq] at h2; exact h2.1
  exact ⟨hr, by rw [cutTree_inord]; exact isMapT_ok ps h1, by rw [cutTree_inord]; exact isMapT_ok qs h2, by rw [cutTree_size]; omega, by rw [cutTree_size]; omega⟩
set_option maxRecDepth 100000 in
set_option maxHeartbeats 1000000 in
theorem clashImpl_any (a b : Option Addr) (ps qs : List PairT) (c d : Nat) (n : Int) (w : World) (h : PArg a ps w) (h' : PArg b qs w) (hk : KTab w) :
    Calls Tryz.prog 13 #[.slice a ps.length c, .slice b qs.length d, .int .i64 n] w fun e w' => e = .returned (clashV (clashR ps qs n)) ∧ Below w.heap.size w w' := by
  have HM := isMap_any a ps c w h
  have HN : Hid (∀ w', Below w.heap.size w w' → Calls Tryz.prog 53 #[.slice b qs.length d] w' fun e w'' => e = .returned (.bool (isMapT qs)) ∧ Below w'.heap.size w' w'') := fun w' hb => isMap_any b qs d w' (h'.below hb)
  have HI := fun w' => isW_any n w'
  obtain ⟨R, hR⟩ : ∃ R, clashR ps qs n = R := ⟨_, rfl⟩
  rw [hR]
  have hz : R = none → clashV R = .tuple #[.string ⟨#[]⟩, .string ⟨#[]⟩, .bool false] := fun e => by rw [e]; rfl
  cases hm : isMapT ps with
  | false =>
    have HR : Hid (clashV R = .tuple #[.string ⟨#[]⟩, .string ⟨#[]⟩, .bool false]) := hz (by rw [← hR]; unfold clashR; rw [hm]; rfl)
    rw [hm] at HM
    clear hR hm hk h h' hz HN
    generalize ps.length = n1 at HM ⊢
    generalize qs.length = n2
    go_enter Tryz.func13, Tryz.ntmps13
    go_wp2_with (first | (go_at_call 53; refine HM.mono ?_; rintro e w1 ⟨rfl, hb1⟩))
    exact bodyPost_ret (v := .tuple #[.string ⟨#[]⟩, .string ⟨#[]⟩, .bool false]) (by simp [results, Tryz.results13, go_sem]) rfl ⟨by rw [HR.out], hb1⟩
  | true =>
    rw [hm] at HM
    cases hm2 : isMapT qs with
    | false =>
      have HR : Hid (clashV R = .tuple #[.string ⟨#[]⟩, .string ⟨#[]⟩, .bool false]) := hz (by rw [← hR]; unfold clashR; rw [hm, hm2]; rfl)
      rw [hm2] at HN
      clear hR hm hk h h' hz hm2
      generalize ps.length = n1 at HM ⊢
      generalize qs.length = n2 at HN ⊢
      go_enter Tryz.func13, Tryz.ntmps13
      go_wp2_with (go_at_call 53; refine HM.mono ?_)
      rintro _ w1 ⟨rfl, hb1⟩
      go_wp2_with (go_at_call 53; refine (HN.out _ hb1).mono ?_)
      rintro _ w2 ⟨rfl, hb2⟩
      go_wp2_with fail
      exact bodyPost_ret (v := .tuple #[.string ⟨#[]⟩, .string ⟨#[]⟩, .bool false]) (by simp [results, Tryz.results13, go_sem]) rfl ⟨by rw [HR.out], hb1.trans (hb2.mono hb1.size)⟩
    | true =>
      rw [hm2] at HN
      cases hw : isW n with
      | false =>
        have HR : Hid (clashV R = .tuple #[.string ⟨#[]⟩, .string ⟨#[]⟩, .bool false]) := hz (by rw [← hR]; unfold clashR; rw [hm, hm2, hw]; rfl)
        rw [hw] at HI
        clear hR hm hk h h' hz hm2 hw
        generalize ps.length = n1 at HM ⊢
        generalize qs.length = n2 at HN ⊢
        go_enter Tryz.func13, Tryz.ntmps13
        go_wp2_with (go_at_call 53; refine HM.mono ?_)
        rintro _ w1 ⟨rfl, hb1⟩
        go_wp2_with (go_at_call 53; refine (HN.out _ hb1).mono ?_)
        rintro _ w2 ⟨rfl, hb2⟩
        go_wp2_with (go_at_call 54; refine (HI _).mono ?_)
        rintro _ w3 ⟨rfl, rfl⟩
        go_wp2_with fail
        exact bodyPost_ret (v := .tuple #[.string ⟨#[]⟩, .string ⟨#[]⟩, .bool false]) (by simp [results, Tryz.results13, go_sem]) rfl ⟨by rw [HR.out], hb1.trans (hb2.mono hb1.size)⟩
      | true =>
        obtain ⟨m, rfl, q1, q2⟩ := isW_out hw
        have hR2 : R = if rootT m (cutTree ps) = rootT m (cutTree qs) then twinT m (cutTree ps) (cutTree qs) else none := by rw [← hR]; unfold clashR; rw [hm, hm2, hw]; rfl
        rw [hw] at HI
        have HT1 : Hid (∀ w1, Below w.heap.size w w1 → Calls Tryz.prog 56 #[.slice a ps.length c, .int .i64 (m : Int)] w1 fun e w' => (∃ p, e = .returned (.pointer p) ∧ TA 0 (hf m) (cutTree ps) p w') ∧ Below w1.heap.size w1 w') := fun w1 hb => (hashedTree_any m q1 q2 a ps c w1 (h.below hb) hm (hk.below hb)).mono (by
          rintro e w' ⟨p, he, ht, hb'⟩
          exact ⟨⟨p, he, ht.base⟩, hb'⟩)
        have HT2 : Hid (∀ w1, Below w.heap.size w w1 → Calls Tryz.prog 56 #[.slice b qs.length d, .int .i64 (m : Int)] w1 fun e w' => (∃ p, e = .returned (.pointer p) ∧ TA 0 (hf m) (cutTree qs) p w') ∧ Below w1.heap.size w1 w') := fun w1 hb => (hashedTree_any m q1 q2 b qs d w1 (h'.below hb) hm2 (hk.below hb)).mono (by
          rintro e w' ⟨p, he, ht, hb'⟩
          exact ⟨⟨p, he, ht.base⟩, hb'⟩)
        have HRo : Hid (∀ t p w', TA 0 (hf m) t p w' → Calls Tryz.prog 55 #[.pointer p] w' fun e w'' => e = .returned (.string (rootT m t)) ∧ w'' = w') := fun t p w' ht => root_any m t p w' ht
        have HTw : rootT m (cutTree ps) = rootT m (cutTree qs) → ∀ p q w', TA 0 (hf m) (cutTree ps) p w' → TA 0 (hf m) (cutTree qs) q w' → Calls Tryz.prog 57 #[.agg #[.pointer p, .pointer q], .func (.func 58) #[] #[]] w' fun e w'' => e = .returned (clashV (twinT m (cutTree ps) (cutTree qs))) ∧ Below w'.heap.size w' w'' := fun hr p q w' h1 h2 => twins_any m q1 q2 _ _ p q w' h1 h2 (cut_pre m ps qs hm hm2 hr)
        clear hR hk h h' hm2 hw
        generalize cutTree ps = s at HT1 HTw hR2
        generalize cutTree qs = t at HT2 HTw hR2
        generalize ps.length = n1 at HM HT1 ⊢
        generalize qs.length = n2 at HN HT2 ⊢
        have HH1 := fun p w' ht => HRo.out s p w' ht
        have HH2 := fun p w' ht => HRo.out t p w' ht
        obtain ⟨A, hA⟩ : ∃ A, rootT m s = A := ⟨_, rfl⟩
        obtain ⟨B', hB⟩ : ∃ B', rootT m t = B' := ⟨_, rfl⟩
        rw [hA] at HH1 HTw hR2
        rw [hB] at HH2 HTw hR2
        have HR2 : Hid (R = if A = B' then twinT m s t else none) := hR2
        have HTw' : Hid _ := HTw
        replace HH1 : Hid _ := HH1
        replace HH2 : Hid _ := HH2
        replace hz : Hid _ := hz
        clear hA hB hR2 HTw HRo hm
        go_enter Tryz.func13, Tryz.ntmps13
        go_wp2_with (go_at_call 53; refine HM.mono ?_)
        rintro _ w1 ⟨rfl, hb1⟩
        go_wp2_with (go_at_call 53; refine (HN.out _ hb1).mono ?_)
        rintro _ w2 ⟨rfl, hb2'⟩
        have hb2 : Below w.heap.size w w2 := hb1.trans (hb2'.mono hb1.size)
        go_wp2_with (go_at_call 54; refine (HI _).mono ?_)
        rintro _ w3 ⟨rfl, rfl⟩
        go_wp2_with (go_at_call 56; refine (HT1.out _ hb2).mono ?_)
        rintro _ w4 ⟨⟨p, rfl, hp⟩, hb4'⟩
        have hb4 : Below w.heap.size w w4 := hb2.trans (hb4'.mono hb2.size)
        go_upto_region 4 with (go_at_call 56; refine (HT2.out _ hb4).mono ?_; rintro e w5 ⟨⟨q, rfl, hq⟩, hb5'⟩)
        have hb5 : Below w.heap.size w w5 := hb4.trans (hb5'.mono hb4.size)
        have hp5 := hp.below hb5' (Nat.le_refl _)
        have hbB : Below w5.heap.size w5 (w5.alloc (.cells #[.pointer p, .pointer q] 82)) := (Below.refl _ _).alloc (Nat.le_refl _) _
        have hp6 := hp5.below hbB (Nat.le_refl _)
        have hq6 := hq.below hbB (Nat.le_refl _)
        have nB := heap_alloc_new w5 (.cells #[.pointer p, .pointer q] 82)
        have hb6 : Below w.heap.size w (w5.alloc (.cells #[.pointer p, .pointer q] 82)) := hb5.trans (hbB.mono hb5.size)
        obtain ⟨g9, hg9⟩ : ∃ g9, w5.heap.size = g9 := ⟨_, rfl⟩
        rw [hg9] at nB ⊢
        clear hb1 hb2 hb2' hb4 hb4' hb5 hb5' hp hq hp5 hbB hg9 HT1 HT2 HM HN HI
        generalize w5.alloc (.cells #[.pointer p, .pointer q] 82) = w6 at hp6 hq6 nB hb6 ⊢
        have k0 := Lib.cell_of_heap nB 0
        have k1 := Lib.cell_of_heap nB 1
        have hp7 : TA 0 (hf m) s p w6.drew := hp6.below (Below.refl _ _).drew (Nat.le_refl _)
        have hq7 : TA 0 (hf m) t q w6.drew := hq6.below (Below.refl _ _).drew (Nat.le_refl _)
        have hb7 : Below w.heap.size w w6.drew := hb6.drew
        cases v : (A.toList == B'.toList) with
        | false =>
          have hAB : A ≠ B' := fun e => by subst e; rw [beq_self_eq_true] at v; cases v
          have HR : Hid (clashV R = .tuple #[.string ⟨#[]⟩, .string ⟨#[]⟩, .bool false]) := hz.out (by rw [HR2.out, if_neg hAB])
          clear hAB HR2 hz HTw'
          go_region_held3 (fun X => X.cell? ⟨g9, 0, none⟩ = some (.pointer p) ∧ X.cell? ⟨g9, 1, none⟩ = some (.pointer q)) (exact ⟨k0, k1⟩) (first | (go_at_call_of 55 (Value.pointer p); refine (HH1.out _ _ hp7).mono ?_; rintro e w8 ⟨rfl, rfl⟩) | (go_at_call_of 55 (Value.pointer q); refine (HH2.out _ _ hq7).mono ?_; rintro e w8 ⟨rfl, rfl⟩))
          go_wp2_with fail
          exact bodyPost_ret (v := .tuple #[.string ⟨#[]⟩, .string ⟨#[]⟩, .bool false]) (by simp [results, Tryz.results13, go_sem]) rfl ⟨by rw [HR.out], hb7⟩
        | true =>
          have hAB : A = B' := ByteArray.ext (Array.toList_inj.1 (by rw [beq_iff_eq, ByteArray.toList_eq, ByteArray.toList_eq] at v; exact v))
          have HR : Hid (R = twinT m s t) := by show _ = _; rw [HR2.out, if_pos hAB]
          have HT := HTw'.out hAB p q
          replace HT : Hid _ := HT
          clear hAB HR2 hz HTw'
          go_region_held3 (fun X => X.cell? ⟨g9, 0, none⟩ = some (.pointer p) ∧ X.cell? ⟨g9, 1, none⟩ = some (.pointer q)) (exact ⟨k0, k1⟩) (first | (go_at_call_of 55 (Value.pointer p); refine (HH1.out _ _ hp7).mono ?_; rintro e w8 ⟨rfl, rfl⟩) | (go_at_call_of 55 (Value.pointer q); refine (HH2.out _ _ hq7).mono ?_; rintro e w8 ⟨rfl, rfl⟩))
          unfold clashV at HT
          go_wp2_with (go_at_call 57; refine (HT.out _ hp7 hq7).mono ?_; rintro e w9 ⟨rfl, hb9⟩)
          exact bodyPost_ret (v := clashV (twinT m s t)) (by simp [results, Tryz.results13, go_sem, clashV]) rfl ⟨by rw [HR.out], hb7.trans (hb9.mono hb7.size)⟩
end Go.Proofs.YtfmpjlpakldheaaGreatDoor
namespace Go.Proofs.YtfmpjlpakldheaaGreatDoor
open Go.RowKit Go.Proofs.Sha

def lessP (p q : PairT) : Prop := Op.bytesLess p.1.data.toList q.1.data.toList = true
theorem isMapT_iff (ps : List PairT) : isMapT ps = true ↔ ps.length ≤ 500 ∧ (∀ x ∈ ps, Okp x) ∧ ps.Pairwise lessP := by
  constructor
  · intro h
    have hok := isMapT_ok ps h
    unfold isMapT at h
    rw [Bool.and_eq_true, decide_eq_true_eq] at h
    refine ⟨h.1, hok, List.pairwise_iff_getElem.2 fun i j hi hj hij => ?_⟩
    have := mapTo_less ps ps.length h.2 i j hij hj
    unfold keyAt at this
    rw [getD_lt _ _ hi, getD_lt _ _ hj] at this
    exact this
  · rintro ⟨hl, hok, hp⟩
    have key : ∀ k, k ≤ ps.length → mapTo ps k = true := by
      intro k
      induction k with
      | zero => intro _; rfl
      | succ k ih =>
        intro hk
        rw [mapTo, ih (by omega), Bool.true_and]
        have hx := hok ps[k] (List.getElem_mem (by omega))
        unfold goodAt
        rw [getD_lt ps k (by omega), hx.1, hx.2, Bool.true_and, Bool.true_and, ByteArray.toList_eq, ByteArray.toList_eq]
        cases k with
        | zero =>
          have h1 := hx.1
          unfold okKey at h1
          rw [decide_eq_true_eq] at h1
          show Op.bytesLess [] _ = true
          cases hq : ps[0].1.data.toList with
          | nil =>
            have : ps[0].1.data.toList.length = 0 := by rw [hq]; rfl
            have e : ps[0].1.data.toList.length = ps[0].1.size := rfl
            omega
          | cons a b => rfl
        | succ k =>
          show Op.bytesLess (ps.getD k noPair).1.data.toList _ = true
          rw [getD_lt ps k (by omega)]
          exact List.pairwise_iff_getElem.1 hp k (k + 1) (by omega) (by omega) (by omega)
    unfold isMapT
    rw [Bool.and_eq_true, decide_eq_true_eq]
    exact ⟨hl, key _ (Nat.le_refl _)⟩
theorem isMapT_sub {ps qs : List PairT} (h : isMapT ps = true) (hs : qs.Sublist ps) : isMapT qs = true := by
  rw [isMapT_iff] at h ⊢
  exact ⟨Nat.le_trans hs.length_le h.1, fun x hx => h.2.1 x (hs.subset hx), h.2.2.sublist hs⟩
theorem cut_node (ps : List PairT) (h : 0 < ps.length) : cutTree ps = .node (cutTree (ps.take (topTo ps (ps.length - 1)))) (ps.getD (topTo ps (ps.length - 1)) noPair) (cutTree (ps.drop (topTo ps (ps.length - 1) + 1))) := by
  rw [cutTree, dif_pos h]
/-- What the model does, one step. -/
theorem clashR_step (m : Nat) (h1 : 1 ≤ m) (h2 : m ≤ 32) (ps qs : List PairT) (hp : isMapT ps = true) (hq : isMapT qs = true) (hne : ps ≠ qs) (hr : rootT m (cutTree ps) = rootT m (cutTree qs)) :
    0 < ps.length ∧ 0 < qs.length ∧ clashR ps qs m = if encT m (cutTree ps) ≠ encT m (cutTree qs) then some (encT m (cutTree ps), encT m (cutTree qs)) else
      if ps.take (topTo ps (ps.length - 1)) ≠ qs.take (topTo qs (qs.length - 1)) then clashR (ps.take (topTo ps (ps.length - 1))) (qs.take (topTo qs (qs.length - 1))) m
      else clashR (ps.drop (topTo ps (ps.length - 1) + 1)) (qs.drop (topTo qs (qs.length - 1) + 1)) m := by
  have hw : isW (m : Int) = true := by unfold isW; rw [Bool.and_eq_true, decide_eq_true_eq, decide_eq_true_eq]; omega
  have n1 : 0 < ps.length := by
    cases ps with
    | cons a b => exact Nat.succ_pos _
    | nil =>
      exfalso
      have e : cutTree [] = .nil := by rw [cutTree]; rfl
      rw [e] at hr
      have := rootT_nil m h1 h2 _ hr.symm
      have hi := cutTree_inord qs
      rw [this] at hi
      exact hne hi
  have n2 : 0 < qs.length := by
    cases qs with
    | cons a b => exact Nat.succ_pos _
    | nil =>
      exfalso
      have e : cutTree [] = .nil := by rw [cutTree]; rfl
      rw [e] at hr
      have := rootT_nil m h1 h2 _ hr
      have hi := cutTree_inord ps
      rw [this] at hi
      exact hne hi.symm
  refine ⟨n1, n2, ?_⟩
  have val : ∀ ps qs : List PairT, isMapT ps = true → isMapT qs = true → ps ≠ qs → rootT m (cutTree ps) = rootT m (cutTree qs) → clashR ps qs m = clashT m (cutTree ps) (cutTree qs) := fun ps qs hp hq hne hr => by
    obtain ⟨q, e1, e2, _⟩ := twin_clash m h1 h2 (cutTree ps) (cutTree qs) (by rw [cutTree_inord]; exact isMapT_ok ps hp) (by rw [cutTree_inord]; exact isMapT_ok qs hq) (by rw [cutTree_inord, cutTree_inord]; exact hne) hr
    unfold clashR
    rw [hp, hq, hw]
    simp only [Bool.and_self, if_true, Int.toNat_natCast]
    rw [if_pos hr, e1, e2]
  rw [val ps qs hp hq hne hr]
  have c1 := cut_node ps n1
  have c2 := cut_node qs n2
  have x1 : Okp (ps.getD (topTo ps (ps.length - 1)) noPair) := by
    have ht := topTo_le ps (ps.length - 1)
    rw [getD_lt ps _ (by omega)]
    exact isMapT_ok ps hp _ (List.getElem_mem _)
  have x2 : Okp (qs.getD (topTo qs (qs.length - 1)) noPair) := by
    have ht := topTo_le qs (qs.length - 1)
    rw [getD_lt qs _ (by omega)]
    exact isMapT_ok qs hq _ (List.getElem_mem _)
  by_cases he : encT m (cutTree ps) = encT m (cutTree qs)
  · rw [if_neg (by simp [he])]
    have he' := he
    rw [c1, c2] at he'
    obtain ⟨e0, e1, e2⟩ := encT_inj m h1 h2 x1 x2 he'
    have hcl : clashT m (cutTree ps) (cutTree qs) = if (cutTree (ps.take (topTo ps (ps.length - 1)))).inord ≠ (cutTree (qs.take (topTo qs (qs.length - 1)))).inord then clashT m (cutTree (ps.take (topTo ps (ps.length - 1)))) (cutTree (qs.take (topTo qs (qs.length - 1)))) else clashT m (cutTree (ps.drop (topTo ps (ps.length - 1) + 1))) (cutTree (qs.drop (topTo qs (qs.length - 1) + 1))) := by
      rw [c1, c2, clashT, if_neg (fun q => q he')]
    rw [hcl, cutTree_inord, cutTree_inord]
    have s1 : isMapT (ps.take (topTo ps (ps.length - 1))) = true := isMapT_sub hp (List.take_sublist _ _)
    have s2 : isMapT (qs.take (topTo qs (qs.length - 1))) = true := isMapT_sub hq (List.take_sublist _ _)
    have s3 : isMapT (ps.drop (topTo ps (ps.length - 1) + 1)) = true := isMapT_sub hp (List.drop_sublist _ _)
    have s4 : isMapT (qs.drop (topTo qs (qs.length - 1) + 1)) = true := isMapT_sub hq (List.drop_sublist _ _)
    by_cases hl : ps.take (topTo ps (ps.length - 1)) = qs.take (topTo qs (qs.length - 1))
    · rw [if_neg (by simp [hl]), if_neg (by simp [hl])]
      have hrn : ps.drop (topTo ps (ps.length - 1) + 1) ≠ qs.drop (topTo qs (qs.length - 1) + 1) := fun q => hne (by
        rw [← cut_at ps (topTo ps (ps.length - 1)) (by have := topTo_le ps (ps.length - 1); omega), ← cut_at qs (topTo qs (qs.length - 1)) (by have := topTo_le qs (qs.length - 1); omega), hl, e0, q])
      exact (val _ _ s3 s4 hrn e2).symm
    · rw [if_pos hl, if_pos hl]
      exact (val _ _ s1 s2 hl e1).symm
  · rw [if_pos he, c1, c2, clashT, if_pos (by rw [← c1, ← c2]; exact he)]
theorem clashR_none (ps qs : List PairT) (n : Int) (h : (isMapT ps && (isMapT qs && isW n)) = false ∨ ps = qs ∨ rootT n.toNat (cutTree ps) ≠ rootT n.toNat (cutTree qs)) : clashR ps qs n = none := by
  unfold clashR
  rcases h with h | h | h
  · rw [h]; rfl
  · subst h
    split
    · rw [if_pos rfl, twinT_same _ _ _ rfl]
    · rfl
  · rw [if_neg h]
    split <;> rfl
theorem ltxt2_any (e : ByteArray) (w : World) (he : e.size ≤ 1048576) : Calls Tryz.prog 50 #[.string e] w fun y w' => y = .returned (.string (txt e)) ∧ w' = w := by
  have z : ¬ (9223372036854775807 < (⟨#[78]⟩ : ByteArray).size + e.size) := by show ¬ _ < 1 + e.size; omega
  have z' : ¬ (9223372036854775807 < 1 + e.size) := by omega
  unfold txt
  go_enter Tryz.func50, Tryz.ntmps50
  go_wp2_with fail
  go_ret
  exact ⟨rfl, rfl⟩
theorem lenc_any (m : Nat) (h1 : 1 ≤ m) (h2 : m ≤ 32) (a : Option Addr) (ps : List PairT) (c : Nat) (w : World) (h : PArg a ps w) (hc : ps.length ≤ c) (h0 : 0 < ps.length) (hok : ∀ x ∈ ps, Okp x) :
    Calls Tryz.prog 49 #[.slice a ps.length c, .int .i64 (m : Int)] w fun e w' => e = .returned (.string (encT m (cutTree ps))) ∧ Below w.heap.size w w' := by
  have HE := encs_any m h1 h2 _ a ps c w (Nat.le_refl _) hc h hok
  unfold EncsAt at HE
  have hn := h.le
  have hlast : ((encsT m (cutTree ps)).map Value.string)[ps.length - 1]? = some (.string (encT m (cutTree ps))) := by
    have hlen : (encsT m (cutTree ps)).length = ps.length := by rw [encsT_len, cutTree_size]
    have c1 := cut_node ps h0
    rw [List.getElem?_map]
    have e : (encsT m (cutTree ps))[ps.length - 1]? = some (encT m (cutTree ps)) := by
      rw [← hlen]
      generalize cutTree ps = t at c1
      subst c1
      rw [encsT]
      simp
    rw [e]; rfl
  generalize encT m (cutTree ps) = E at hlast ⊢
  generalize (encsT m (cutTree ps)).map Value.string = L at HE hlast
  generalize rootT m (cutTree ps) = G at HE
  obtain ⟨n, hnn⟩ : ∃ n, ps.length = n + 1 := ⟨ps.length - 1, by omega⟩
  rw [hnn] at HE hn hlast ⊢
  rw [show n + 1 - 1 = n by omega] at hlast
  have hl' : Hid (L[n]? = some (.string E)) := hlast
  clear hlast hnn h hc h0 hok
  have z : ((n : Int) + 1) - 1 = (n : Int) := by omega
  have y0 : (0 : Int) ≤ (n : Int) := Int.natCast_nonneg _
  go_enter Tryz.func49, Tryz.ntmps49
  go_wp2_with (go_at_call 52; refine HE.mono ?_; rintro e w1 ⟨g, c', rfl, hr, hb⟩; have hcell : w1.cell? ⟨g, n, none⟩ = some (.string E) := (hr.cell n (by omega)).trans hl'.out)
  go_ret
  exact ⟨rfl, hb⟩
end Go.Proofs.YtfmpjlpakldheaaGreatDoor
