import Derived.Test.YtgicihmdcnelaaaGreatDoorZxc
import Derived.Test.YtgicihmdcnelaaaGreatDoorZbl
import Derived.Test.YtgicihmdcnelaaaGreatDoorZxb
import Derived.Test.YtgicihmdcnelaaaGreatDoorZat
import Derived.Test.YtgicihmdcnelaaaGreatDoorZbo
namespace Go.Proofs.YtgicihmdcnelaaaGreatDoor
open Go.RowKit Go.Proofs.Sha

theorem bl_nil {k : ByteArray} (h : 1 ≤ k.size) : Op.bytesLess (⟨#[]⟩ : ByteArray).toList k.toList = true := by
  rw [ByteArray.toList_eq, ByteArray.toList_eq]
  have : 1 ≤ k.data.toList.length := h
  cases hk : k.data.toList with
  | nil => rw [hk] at this; cases this
  | cons x xs => simp [Op.bytesLess]
theorem ku_at {ps : List PairT} (h : KeysUp (keys ps)) : ∀ i j, i < j → j < ps.length → lessB (ps.getD i noPair).1 (ps.getD j noPair).1 = true := by
  induction ps with
  | nil => intro i j _ hj; cases hj
  | cons x xs ih =>
    intro i j hij hj
    obtain ⟨h1, h2⟩ := h
    cases j with
    | zero => omega
    | succ j =>
      have hj' : j < xs.length := by simpa using hj
      have e : (x :: xs).getD (j + 1) noPair = xs.getD j noPair := by simp [List.getD_eq_getElem?_getD]
      rw [e]
      cases i with
      | zero =>
        have e0 : (x :: xs).getD 0 noPair = x := by simp [List.getD_eq_getElem?_getD]
        rw [e0]
        exact h1 _ (by rw [getD_lt xs j hj']; exact mem_keys (List.getElem_mem _))
      | succ i =>
        have e0 : (x :: xs).getD (i + 1) noPair = xs.getD i noPair := by simp [List.getD_eq_getElem?_getD]
        rw [e0]
        exact ih h2 i j (by omega) hj'
theorem isMapT_of {ps : List PairT} (h : KeysUp (keys ps)) (hok : ∀ p ∈ ps, okKey p.1 = true ∧ okVal p.2 = true) (hl : ps.length ≤ 500) : isMapT ps = true := by
  unfold isMapT
  rw [decide_eq_true hl, Bool.true_and]
  have key : ∀ k, k ≤ ps.length → mapTo ps k = true := by
    intro k
    induction k with
    | zero => intro _; rfl
    | succ k ih =>
      intro hk
      rw [mapTo, ih (by omega), Bool.true_and]
      have hm : ps.getD k noPair ∈ ps := by rw [getD_lt ps k (by omega)]; exact List.getElem_mem _
      obtain ⟨o1, o2⟩ := hok _ hm
      unfold goodAt
      rw [o1, o2, Bool.true_and, Bool.true_and]
      cases k with
      | zero =>
        unfold okKey at o1
        exact bl_nil (of_decide_eq_true o1).1
      | succ k => exact ku_at h k (k + 1) (by omega) (by omega)
  exact key _ (Nat.le_refl _)
theorem own2_le {w : World} {base n m c : Nat} {a : Option Addr} {xs : List Value} (h : w.ownsRow base 60 2 (.slice a m c) n xs) : m ≤ c := by
  rcases h.2 with ⟨e, h0⟩ | ⟨g, cap, cur, e, hb, hg, q1, q2, q3, q4⟩
  · simp only [Value.slice.injEq] at e; omega
  · simp only [Value.slice.injEq] at e
    omega
theorem rangeM_zero {fnd : ByteArray → FN} {n : Int} {m : Nat} {root lo hi : ByteArray} (h : (rangeM fnd n m root lo hi).2 = 0) : poolOk n m = true := by
  unfold rangeM at h
  split at h
  · rename_i q
    exact ((Bool.and_eq_true _ _).mp q).1
  · cases h
theorem sld_any (HD : Hid DigSaid) (D : Dec) (n : Int) (HD2 : Hid (∀ wd : Nat, (wd : Int) = n → 1 ≤ wd → wd ≤ 32 → DecSaid 124 wd D)) (hdo : ∀ wd : Nat, (wd : Int) = n → DecOk wd D) (a : Option Addr) (ss : List ByteArray) (c : Nat) (root : ByteArray) (w : World) (h : SArg a ss w) (hs : Hid (∀ j, (ss.getD j ⟨#[]⟩).size ≤ 1048575)) (hr : root.size ≤ 1048576) :
    Calls Tryz.prog 45 #[.agg #[.int .i64 n, .slice a ss.length c], .string root] w (RangeAt (rangeM (fndD D n.toNat ss) n ss.length root ⟨#[]⟩ ⟨#[]⟩) w) := by
  refine sload_any _ _ root w ⟨_, _, _, _, rfl⟩ fun w' hb => ?_
  have hS := h.below hb
  cases hp : (poolOk n ss.length && hashOk root.size n) with
  | false => rw [rangeM_bad hp]; exact srange_bad n _ ss.length c root ⟨#[]⟩ ⟨#[]⟩ w' hS.le hr hp
  | true =>
    have hp2 := (Bool.and_eq_true _ _).mp hp
    have hp' : 1 ≤ n ∧ n ≤ 32 ∧ ss.length ≤ 20000 := of_decide_eq_true hp2.1
    obtain ⟨wd, rfl⟩ : ∃ wd : Nat, n = (wd : Int) := ⟨n.toNat, by omega⟩
    rw [Int.toNat_natCast]
    exact srange_good HD D wd (HD2.out wd rfl (by omega) (by omega)) (hdo wd rfl) _ ss c root ⟨#[]⟩ ⟨#[]⟩ w' hS hs (by omega) (by omega) hr (Nat.zero_le _) (Nat.zero_le _) hp2.1 hp2.2
set_option maxRecDepth 100000 in
set_option maxHeartbeats 2000000 in
theorem sdel_any (HDg : Hid DigSaid) (D : Dec) (n : Int) (HD2 : Hid (∀ wd : Nat, (wd : Int) = n → 1 ≤ wd → wd ≤ 32 → DecSaid 124 wd D)) (hdo : ∀ wd : Nat, (wd : Int) = n → DecOk wd D) (a : Option Addr) (ss : List ByteArray) (c : Nat) (root key : ByteArray) (w : World) (h : SArg a ss w) (hs : Hid (∀ j, (ss.getD j ⟨#[]⟩).size ≤ 1048575)) (hr : root.size ≤ 1048576) (hk : key.size ≤ 1048576) :
    Calls Tryz.prog 19 #[.agg #[.int .i64 n, .slice a ss.length c], .string root, .string key] w (SavedIs (delO D n ss root key) w) := by
  have hbA : Below w.heap.size w ((w.alloc (.cells #[.int .i64 n, .slice a ss.length c] 28)).alloc (.cells #[.int .i64 0, .int .i64 0, .slice none 0 0, .string ⟨#[]⟩, .string ⟨#[]⟩, .string ⟨#[]⟩] 30)) := ((Below.refl _ _).alloc (Nat.le_refl _) _).alloc (by simp) _
  have nB := heap_alloc_new (w.alloc (.cells #[.int .i64 n, .slice a ss.length c] 28)) (.cells #[.int .i64 0, .int .i64 0, .slice none 0 0, .string ⟨#[]⟩, .string ⟨#[]⟩, .string ⟨#[]⟩] 30)
  have nA := (Below.heap_alloc (w.alloc (.cells #[.int .i64 n, .slice a ss.length c] 28)) (.cells #[.int .i64 0, .int .i64 0, .slice none 0 0, .string ⟨#[]⟩, .string ⟨#[]⟩, .string ⟨#[]⟩] 30) w.heap.size (by simp)).trans (heap_alloc_new w _)
  rw [World.size_alloc] at nB
  have HLd : Hid (∀ w', Below w.heap.size w w' → Calls Tryz.prog 45 #[.agg #[.int .i64 n, .slice a ss.length c], .string root] w' (RangeAt (rangeM (fndD D n.toNat ss) n ss.length root ⟨#[]⟩ ⟨#[]⟩) w')) := fun w' hb => sld_any HDg D n HD2 hdo a ss c root w' (h.below hb) hs hr
  have HB : Hid (∀ W, Below ((w.alloc (.cells #[.int .i64 n, .slice a ss.length c] 28)).alloc (.cells #[.int .i64 0, .int .i64 0, .slice none 0 0, .string ⟨#[]⟩, .string ⟨#[]⟩, .string ⟨#[]⟩] 30)).heap.size ((w.alloc (.cells #[.int .i64 n, .slice a ss.length c] 28)).alloc (.cells #[.int .i64 0, .int .i64 0, .slice none 0 0, .string ⟨#[]⟩, .string ⟨#[]⟩, .string ⟨#[]⟩] 30)) W → Below w.heap.size w W ∧ SB (w.heap.size + 1) 0 0 none 0 0 ⟨#[]⟩ ⟨#[]⟩ ⟨#[]⟩ W ∧ W.cell? ⟨w.heap.size, 0, none⟩ = some (.int .i64 n) ∧ W.cell? ⟨w.heap.size, 1, none⟩ = some (.slice a ss.length c)) := fun W hW => ⟨hbA.trans (hW.mono hbA.size), pblk_below hW nB, Lib.cell_of_heap (pblk_below hW nA) 0, Lib.cell_of_heap (pblk_below hW nA) 1⟩
  have hge' : w.heap.size ≤ w.heap.size + 1 := Nat.le_succ _
  have hfo : poolOk n ss.length = true → KeysUp (keys (rangeM (fndD D n.toNat ss) n ss.length root ⟨#[]⟩ ⟨#[]⟩).1) ∧ ((rangeM (fndD D n.toNat ss) n ss.length root ⟨#[]⟩ ⟨#[]⟩).1.length ≤ 500 ∧ SmallP (rangeM (fndD D n.toNat ss) n ss.length root ⟨#[]⟩ ⟨#[]⟩).1) ∧ ∀ p ∈ (rangeM (fndD D n.toNat ss) n ss.length root ⟨#[]⟩ ⟨#[]⟩).1, okKey p.1 = true ∧ okVal p.2 = true := fun hp => by
    have hp' : 1 ≤ n ∧ n ≤ 32 ∧ ss.length ≤ 20000 := of_decide_eq_true hp
    have hf : FndOk n.toNat (fndD D n.toNat ss) := fndD_ok D n.toNat ss (hdo n.toNat (by omega))
    refine ⟨rangeM_up hf _ _ _ _ _, rangeM_small hf _ _ _ _ _, fun p hpm => ?_⟩
    unfold rangeM at hpm
    split at hpm
    · split at hpm
      · exact goF_ok hf _ _ _ _ _ _ p hpm
      · cases hpm
    · cases hpm
  have hz : (rangeM (fndD D n.toNat ss) n ss.length root ⟨#[]⟩ ⟨#[]⟩).2 = 0 → poolOk n ss.length = true := rangeM_zero
  have HPk : Hid (∀ w', Calls Tryz.prog 46 #[.string key, .string ⟨#[]⟩] w' fun e w'' => e = .returned (.bool (okKey key)) ∧ w'' = w') := fun w' => by
    have := pairOk_q key ⟨#[]⟩ w' hk (Nat.zero_le _)
    have e : okVal ⟨#[]⟩ = true := rfl
    rw [e, Bool.and_true] at this
    exact this
  have hod : delO D n ss root key = chgO n ss (rangeM (fndD D n.toNat ss) n ss.length root ⟨#[]⟩ ⟨#[]⟩) (if okKey key = true then 0 else 1) (wout (rangeM (fndD D n.toNat ss) n ss.length root ⟨#[]⟩ ⟨#[]⟩).1 key) := rfl
  generalize rangeM (fndD D n.toNat ss) n ss.length root ⟨#[]⟩ ⟨#[]⟩ = X at HLd hfo hz hod
  obtain ⟨ps, xc⟩ := X
  dsimp only at hfo hz hod
  generalize delO D n ss root key = O at hod ⊢
  have HO : Hid _ := hod
  clear hod
  have HL : Hid (∀ w', Below w.heap.size w w' → Calls Tryz.prog 45 #[.agg #[.int .i64 n, .slice a ss.length c], .string root] w' fun e w'' => ∃ a3 c3, e = .returned (.tuple #[.slice a3 ps.length c3, .int .i64 xc]) ∧ w''.ownsRow w'.heap.size 60 2 (.slice a3 ps.length c3) ps.length (flatP ps) ∧ Below w'.heap.size w' w'') := fun w' hb => (HLd.out w' hb).mono (by
    rintro e w'' ⟨⟨a3, c3, he, ho⟩, hb2⟩
    exact ⟨a3, c3, he, ho, hb2⟩)
  have hsH : Hid (∀ j, (ss.getD j ⟨#[]⟩).size ≤ 1048575) := hs
  clear HLd nA nB
  by_cases hx : xc = 0
  · subst hx
    have hpo := hz rfl
    obtain ⟨hku, ⟨hlen, hsm⟩, hok⟩ := hfo hpo
    clear hfo hz
    by_cases hk1 : okKey key = true
    · have hmap : isMapT (wout ps key) = true := isMapT_of (ku_wout hku key) (fun p hp => hok p (wout_mem hp)) (Nat.le_trans (wout_le ps key) hlen)
      have ho : Hid (O = saveO n ss (wout ps key)) := by
        show _ = _
        rw [HO.out]
        unfold chgO saveO
        rw [if_neg (by simp), if_pos hk1, if_neg (by simp), if_pos (by rw [hpo, hmap]; rfl)]
      have hqs : SmallP (wout ps key) := smallP_of (by have := wout_le ps key; have := hsm.1; omega) (fun p hp => smallP_mem hsm p (wout_mem hp))
      have HW : Hid (∀ a3 c3 w', PArg a3 ps w' → Calls Tryz.prog 47 #[.slice a3 ps.length c3, .string key] w' fun e w'' => ∃ a4 c4, e = .returned (.slice a4 (wout ps key).length c4) ∧ PArg a4 (wout ps key) w'' ∧ (wout ps key).length ≤ c4 ∧ Below w'.heap.size w' w'') := fun a3 c3 w' hp => (without_any a3 ps c3 key w' hp).mono (by
        rintro e w'' ⟨a4, c4, he, ho⟩
        exact ⟨a4, c4, he, ownp_parg ho hqs, own2_le ho.own, ho.bel⟩)
      have HSv : Hid (∀ a4 c4 w', Below w.heap.size w w' → SB (w.heap.size + 1) 0 0 none 0 0 ⟨#[]⟩ ⟨#[]⟩ ⟨#[]⟩ w' → w'.cell? ⟨w.heap.size, 0, none⟩ = some (.int .i64 n) → w'.cell? ⟨w.heap.size, 1, none⟩ = some (.slice a ss.length c) → PArg a4 (wout ps key) w' → (wout ps key).length ≤ c4 → Calls Tryz.prog 8 #[.agg #[.int .i64 n, .slice a ss.length c], .slice a4 (wout ps key).length c4] w' fun e W => ∃ a' m c', e = .returned (svV (saveO n ss (wout ps key)).cd (saveO n ss (wout ps key)).n a' m c' (saveO n ss (wout ps key)).root (saveO n ss (wout ps key)).x (saveO n ss (wout ps key)).y) ∧ W.cell? ⟨w.heap.size, 0, none⟩ = some (.int .i64 n) ∧ W.cell? ⟨w.heap.size, 1, none⟩ = some (.slice a ss.length c) ∧ SB (w.heap.size + 1) 0 0 none 0 0 ⟨#[]⟩ ⟨#[]⟩ ⟨#[]⟩ W ∧ SavedIs (saveO n ss (wout ps key)) w (.returned (svV (saveO n ss (wout ps key)).cd (saveO n ss (wout ps key)).n a' m c' (saveO n ss (wout ps key)).root (saveO n ss (wout ps key)).x (saveO n ss (wout ps key)).y)) (set6 W (w.heap.size + 1) (saveO n ss (wout ps key)).cd (saveO n ss (wout ps key)).n a' m c' (saveO n ss (wout ps key)).root (saveO n ss (wout ps key)).x (saveO n ss (wout ps key)).y)) := fun a4 c4 w' hb hB hq0 hq1 hp hl => by
        refine (ssave_any HDg n a ss c a4 (wout ps key) c4 w' (h.below hb) hs hp hl).mono ?_
        intro e W hE
        have hbe : Below w'.heap.size w' W := by
          obtain ⟨_, _, _, hT⟩ := hE
          exact hT.bel
        obtain ⟨a', m, c', r1, r2, r3⟩ := SavedIs.put hE hb hB hge'
        exact ⟨a', m, c', r1, (hbe.cell (World.block_lt_of_cell? w' _ hq0)).trans hq0, (hbe.cell (World.block_lt_of_cell? w' _ hq1)).trans hq1, r2, r3⟩
      generalize saveO n ss (wout ps key) = O' at HSv ho
      obtain ⟨od, on, oxs, oroot, ox, oy⟩ := O'
      dsimp only at HSv
      have HPk' : Hid (∀ w', Calls Tryz.prog 46 #[.string key, .string ⟨#[]⟩] w' fun e w'' => e = .returned (.bool true) ∧ w'' = w') := fun w' => by
        have := HPk.out w'
        rw [hk1] at this
        exact this
      obtain ⟨HsmH⟩ : Nonempty (Hid (SmallP ps)) := ⟨hsm⟩
      generalize (wout ps key).length = L at HW HSv
      obtain ⟨K, hKK⟩ : ∃ K, ps.length = K := ⟨_, rfl⟩
      have HP : Hid (∀ w' b a3 c3, w'.ownsRow b 60 2 (.slice a3 K c3) K (flatP ps) → PArg a3 ps w') := fun w' b a3 c3 q => by rw [← hKK] at q; exact own_parg q HsmH.out
      rw [hKK] at HW HL
      clear HO HPk hqs hmap hku hlen hsm hok hKK hk1 HsmH
      have HK : Hid (∀ (W : World) (o : Nat) (v : Value), (W.cell? ⟨w.heap.size, 0, none⟩ = some (.int .i64 n) ∧ W.cell? ⟨w.heap.size, 1, none⟩ = some (.slice a ss.length c)) → (W.setCell ⟨w.heap.size + 1, o, none⟩ v).cell? ⟨w.heap.size, 0, none⟩ = some (.int .i64 n) ∧ (W.setCell ⟨w.heap.size + 1, o, none⟩ v).cell? ⟨w.heap.size, 1, none⟩ = some (.slice a ss.length c)) := fun W o v h => by
        have hf : ∀ (j : Nat) (x : Value), W.cell? ⟨w.heap.size, j, none⟩ = some x → (W.setCell ⟨w.heap.size + 1, o, none⟩ v).cell? ⟨w.heap.size, j, none⟩ = some x := fun j x hx => ((grownBy_setCell W (w.heap.size + 1) o v).cell_far ⟨w.heap.size, j, none⟩ (World.block_lt_of_cell? W _ hx) (by intro e; have := Option.some.inj e; simp at this)).trans hx
        exact ⟨hf _ _ h.1, hf _ _ h.2⟩
      go_enter Tryz.func19, Tryz.ntmps19
      go_upto_region 6 with (first | (go_at_call 45; refine (HL.out _ hbA).mono ?_; rintro e w1 ⟨a3, c3, rfl, ho1, hb1⟩; obtain ⟨hbw1, hB1, q0, q1⟩ := HB.out _ hb1; have hP1 := HP.out _ _ _ _ ho1; clear ho1) | (go_at_call 46; refine (HPk'.out _).mono ?_; rintro e w2 ⟨rfl, rfl⟩))
      have hdr : Below w2.heap.size w2 w2.drew := (Below.refl _ _).drew
      refine wp_region_held_drew (S := fun W => W.cell? ⟨w.heap.size, 0, none⟩ = some (.int .i64 n) ∧ W.cell? ⟨w.heap.size, 1, none⟩ = some (.slice a ss.length c)) (by kernel_rfl) (⟨q0, q1⟩) (fun hHeld => ?_)
      refine wpAnyH_take (i := 0) (v := ?_) rfl (by kernel_rfl) (by kernel_rfl) (by kernel_rfl) (fun _ _ _ h => h) (Or.inl ⟨by rfl, ?_⟩) (by assumption) ?_
      rotate_left
      · intro w hSw; obtain ⟨s1, s2⟩ := hSw; go_simp; rfl
      simp only [Act.put, List.setIfInBounds_toArray, List.set_cons_zero, List.set_cons_succ, List.getElem_toArray, List.getElem_cons_zero]
      refine wpAnyH_take (i := 1) (v := ?_) rfl (by kernel_rfl) (by kernel_rfl) (by kernel_rfl) (fun _ _ _ h => h) (Or.inl ⟨by rfl, ?_⟩) (by assumption) ?_
      rotate_left
      · intro w hSw; obtain ⟨s1, s2⟩ := hSw; go_simp; rfl
      simp only [Act.put, List.setIfInBounds_toArray, List.set_cons_zero, List.set_cons_succ, List.getElem_toArray, List.getElem_cons_zero, List.getElem_cons_succ]
      refine wpAnyH_take (i := 2) (v := ?_) rfl (by kernel_rfl) (by kernel_rfl) (by kernel_rfl) (fun _ _ _ h => h) (Or.inl ⟨by rfl, ?_⟩) (by assumption) ?_
      rotate_left
      · intro w hSw; obtain ⟨s1, s2⟩ := hSw; go_simp; rfl
      simp only [Act.put, List.setIfInBounds_toArray, List.set_cons_zero, List.set_cons_succ, List.getElem_toArray, List.getElem_cons_zero, List.getElem_cons_succ]
      refine wpAnyH_ready (rs := [3]) (by kernel_rfl) (by simp) ?_
      refine AllReadyH.cons rfl (fun K hK => ?_) AllReadyH.nil
      go_simp
      refine (HW.out _ _ _ (hP1.below hdr)).mono ?_
      rintro e w3 ⟨a4, c4, rfl, hP3, hl3, hb3⟩
      have hb13 := (hb1.trans (hdr.mono hb1.size)).trans (hb3.mono (Nat.le_trans hb1.size hdr.size))
      obtain ⟨hbw3, hB3, q3, q4⟩ := HB.out _ hb13
      refine hK.out _ _ (⟨q3, q4⟩) (fun hHeld => ?_)
      clear hK K
      refine wpAnyH_ready (rs := [4]) (by kernel_rfl) (by simp) ?_
      refine AllReadyH.cons rfl (fun K hK => ?_) AllReadyH.nil
      go_simp
      refine (HSv.out _ _ _ hbw3 hB3 q3 q4 hP3 hl3).mono ?_
      rintro e w6 ⟨a6, m6, c6, rfl, q5, q6, hB6, hF6⟩
      obtain ⟨d0, d1, d2, d3, d4, d5, df⟩ := hB6.at
      have h6S := HK.out _ 5 (.string oy) (HK.out _ 4 (.string ox) (HK.out _ 3 (.string oroot) (HK.out _ 2 (.slice a6 m6 c6) (HK.out _ 1 (.int .i64 on) (HK.out _ 0 (.int .i64 od) ⟨q5, q6⟩)))))
      refine hK.out _ _ (⟨q5, q6⟩) (fun hHeld => ?_)
      clear hK K
      refine wpAnyH_ready (rs := [5]) (by kernel_rfl) (by simp) ?_
      refine AllReadyH.cons rfl (fun K hK => ?_) AllReadyH.nil
      go_simp
      refine hK.out _ _ (h6S) (fun hHeld => ?_)
      clear hK K
      refine wpAnyH_done (by kernel_rfl) ?_ _
      go_wp2_with fail
      exact retS Tryz.results19 rfl rfl (hB6.all od on a6 m6 c6 oroot ox oy) (by rw [ho.out]; exact hF6)
    · have ho : Hid (O = codeO 1) := by
        show _ = _
        rw [HO.out]
        unfold chgO
        rw [if_neg (by simp), if_neg hk1, if_pos (by decide)]
      have HPk' : Hid (∀ w', Calls Tryz.prog 46 #[.string key, .string ⟨#[]⟩] w' fun e w'' => e = .returned (.bool false) ∧ w'' = w') := fun w' => by
        have := HPk.out w'
        rw [Bool.not_eq_true] at hk1
        rw [hk1] at this
        exact this
      generalize ps.length = K at HL
      clear HO HPk hku hok hk1
      go_enter Tryz.func19, Tryz.ntmps19
      go_wp2_with (first | (go_at_call 45; refine (HL.out _ hbA).mono ?_; rintro e w1 ⟨a3, c3, rfl, _, hb1⟩; obtain ⟨hbw1, hB1, q0, q1⟩ := HB.out _ hb1; obtain ⟨d0, d1, d2, d3, d4, d5, df⟩ := hB1.at) | (go_at_call 46; refine (HPk'.out _).mono ?_; rintro e w2 ⟨rfl, rfl⟩))
      exact retS Tryz.results19 rfl rfl (hB1.all 1 0 none 0 0 ⟨#[]⟩ ⟨#[]⟩ ⟨#[]⟩) (by rw [ho.out]; exact SavedIs.code hbw1 hB1 hge')
  · have ho : Hid (O = codeO xc) := by
      show _ = _
      rw [HO.out]
      unfold chgO
      rw [if_pos hx]
    have zc : (xc != 0) = true := by simp [hx]
    generalize ps.length = K at HL
    clear HO hx hfo hz
    go_enter Tryz.func19, Tryz.ntmps19
    go_wp2_with (first | (go_at_call 45; refine (HL.out _ hbA).mono ?_; rintro e w1 ⟨a3, c3, rfl, _, hb1⟩; obtain ⟨hbw1, hB1, q0, q1⟩ := HB.out _ hb1; obtain ⟨d0, d1, d2, d3, d4, d5, df⟩ := hB1.at))
    exact retS Tryz.results19 rfl rfl (hB1.all xc 0 none 0 0 ⟨#[]⟩ ⟨#[]⟩ ⟨#[]⟩) (by rw [ho.out]; exact SavedIs.code hbw1 hB1 hge')
end Go.Proofs.YtgicihmdcnelaaaGreatDoor
namespace Go.Proofs.YtgicihmdcnelaaaGreatDoor
open Go.RowKit Go.Proofs.Sha

set_option maxRecDepth 100000 in
set_option maxHeartbeats 2000000 in
theorem sput_any (HDg : Hid DigSaid) (D : Dec) (n : Int) (HD2 : Hid (∀ wd : Nat, (wd : Int) = n → 1 ≤ wd → wd ≤ 32 → DecSaid 124 wd D)) (hdo : ∀ wd : Nat, (wd : Int) = n → DecOk wd D) (a : Option Addr) (ss : List ByteArray) (c : Nat) (root key val : ByteArray) (w : World) (h : SArg a ss w) (hs : Hid (∀ j, (ss.getD j ⟨#[]⟩).size ≤ 1048575)) (hr : root.size ≤ 1048576) (hk : key.size ≤ 1048576) (hv : val.size ≤ 1048576) :
    Calls Tryz.prog 21 #[.agg #[.int .i64 n, .slice a ss.length c], .string root, .string key, .string val] w (SavedIs (putO D n ss root key val) w) := by
  have hbA : Below w.heap.size w ((w.alloc (.cells #[.int .i64 n, .slice a ss.length c] 28)).alloc (.cells #[.int .i64 0, .int .i64 0, .slice none 0 0, .string ⟨#[]⟩, .string ⟨#[]⟩, .string ⟨#[]⟩] 30)) := ((Below.refl _ _).alloc (Nat.le_refl _) _).alloc (by simp) _
  have nB := heap_alloc_new (w.alloc (.cells #[.int .i64 n, .slice a ss.length c] 28)) (.cells #[.int .i64 0, .int .i64 0, .slice none 0 0, .string ⟨#[]⟩, .string ⟨#[]⟩, .string ⟨#[]⟩] 30)
  have nA := (Below.heap_alloc (w.alloc (.cells #[.int .i64 n, .slice a ss.length c] 28)) (.cells #[.int .i64 0, .int .i64 0, .slice none 0 0, .string ⟨#[]⟩, .string ⟨#[]⟩, .string ⟨#[]⟩] 30) w.heap.size (by simp)).trans (heap_alloc_new w _)
  rw [World.size_alloc] at nB
  have HLd : Hid (∀ w', Below w.heap.size w w' → Calls Tryz.prog 45 #[.agg #[.int .i64 n, .slice a ss.length c], .string root] w' (RangeAt (rangeM (fndD D n.toNat ss) n ss.length root ⟨#[]⟩ ⟨#[]⟩) w')) := fun w' hb => sld_any HDg D n HD2 hdo a ss c root w' (h.below hb) hs hr
  have HB : Hid (∀ W, Below ((w.alloc (.cells #[.int .i64 n, .slice a ss.length c] 28)).alloc (.cells #[.int .i64 0, .int .i64 0, .slice none 0 0, .string ⟨#[]⟩, .string ⟨#[]⟩, .string ⟨#[]⟩] 30)).heap.size ((w.alloc (.cells #[.int .i64 n, .slice a ss.length c] 28)).alloc (.cells #[.int .i64 0, .int .i64 0, .slice none 0 0, .string ⟨#[]⟩, .string ⟨#[]⟩, .string ⟨#[]⟩] 30)) W → Below w.heap.size w W ∧ SB (w.heap.size + 1) 0 0 none 0 0 ⟨#[]⟩ ⟨#[]⟩ ⟨#[]⟩ W ∧ W.cell? ⟨w.heap.size, 0, none⟩ = some (.int .i64 n) ∧ W.cell? ⟨w.heap.size, 1, none⟩ = some (.slice a ss.length c)) := fun W hW => ⟨hbA.trans (hW.mono hbA.size), pblk_below hW nB, Lib.cell_of_heap (pblk_below hW nA) 0, Lib.cell_of_heap (pblk_below hW nA) 1⟩
  have hge' : w.heap.size ≤ w.heap.size + 1 := Nat.le_succ _
  have hfo : poolOk n ss.length = true → KeysUp (keys (rangeM (fndD D n.toNat ss) n ss.length root ⟨#[]⟩ ⟨#[]⟩).1) ∧ ((rangeM (fndD D n.toNat ss) n ss.length root ⟨#[]⟩ ⟨#[]⟩).1.length ≤ 500 ∧ SmallP (rangeM (fndD D n.toNat ss) n ss.length root ⟨#[]⟩ ⟨#[]⟩).1) ∧ ∀ p ∈ (rangeM (fndD D n.toNat ss) n ss.length root ⟨#[]⟩ ⟨#[]⟩).1, okKey p.1 = true ∧ okVal p.2 = true := fun hp => by
    have hp' : 1 ≤ n ∧ n ≤ 32 ∧ ss.length ≤ 20000 := of_decide_eq_true hp
    have hf : FndOk n.toNat (fndD D n.toNat ss) := fndD_ok D n.toNat ss (hdo n.toNat (by omega))
    refine ⟨rangeM_up hf _ _ _ _ _, rangeM_small hf _ _ _ _ _, fun p hpm => ?_⟩
    unfold rangeM at hpm
    split at hpm
    · split at hpm
      · exact goF_ok hf _ _ _ _ _ _ p hpm
      · cases hpm
    · cases hpm
  have hz : (rangeM (fndD D n.toNat ss) n ss.length root ⟨#[]⟩ ⟨#[]⟩).2 = 0 → poolOk n ss.length = true := rangeM_zero
  have HPk : Hid (∀ w', Calls Tryz.prog 46 #[.string key, .string val] w' fun e w'' => e = .returned (.bool (okKey key && okVal val)) ∧ w'' = w') := fun w' => pairOk_q key val w' hk hv
  have hod : putO D n ss root key val = chgO n ss (rangeM (fndD D n.toNat ss) n ss.length root ⟨#[]⟩ ⟨#[]⟩) (putCd key val (rangeM (fndD D n.toNat ss) n ss.length root ⟨#[]⟩ ⟨#[]⟩).1) (wth (rangeM (fndD D n.toNat ss) n ss.length root ⟨#[]⟩ ⟨#[]⟩).1 key val) := rfl
  generalize rangeM (fndD D n.toNat ss) n ss.length root ⟨#[]⟩ ⟨#[]⟩ = X at HLd hfo hz hod
  obtain ⟨ps, xc⟩ := X
  dsimp only at hfo hz hod
  generalize putO D n ss root key val = O at hod ⊢
  have HO : Hid _ := hod
  clear hod
  have HL : Hid (∀ w', Below w.heap.size w w' → Calls Tryz.prog 45 #[.agg #[.int .i64 n, .slice a ss.length c], .string root] w' fun e w'' => ∃ a3 c3, e = .returned (.tuple #[.slice a3 ps.length c3, .int .i64 xc]) ∧ w''.ownsRow w'.heap.size 60 2 (.slice a3 ps.length c3) ps.length (flatP ps) ∧ Below w'.heap.size w' w'') := fun w' hb => (HLd.out w' hb).mono (by
    rintro e w'' ⟨⟨a3, c3, he, ho⟩, hb2⟩
    exact ⟨a3, c3, he, ho, hb2⟩)
  have hsH : Hid (∀ j, (ss.getD j ⟨#[]⟩).size ≤ 1048575) := hs
  clear HLd nA nB
  by_cases hx : xc = 0
  · subst hx
    have hpo := hz rfl
    obtain ⟨hku, ⟨hlen, hsm⟩, hok⟩ := hfo hpo
    clear hfo hz
    by_cases hk1 : (okKey key && okVal val) = true
    · have hwl := wthLen ps key val
      have hsz : ∀ x ∈ wth ps key val, x.1.size ≤ 1048576 ∧ x.2.size ≤ 1048576 := fun x hx => by
        rcases wth_mem hx with q | q
        · rw [q]; exact ⟨hk, hv⟩
        · exact smallP_mem hsm x q
      have hqs : SmallP (wth ps key val) := smallP_of (by omega) hsz
      have HPk' : Hid (∀ w', Calls Tryz.prog 46 #[.string key, .string val] w' fun e w'' => e = .returned (.bool true) ∧ w'' = w') := fun w' => by
        have := HPk.out w'
        rw [hk1] at this
        exact this
      have HW : Hid (∀ a3 c3 w', PArg a3 ps w' → Calls Tryz.prog 52 #[.slice a3 ps.length c3, .string key, .string val] w' fun e w'' => ∃ a4 c4, e = .returned (.slice a4 (wth ps key val).length c4) ∧ PArg a4 (wth ps key val) w'' ∧ (wth ps key val).length ≤ c4 ∧ Below w'.heap.size w' w'') := fun a3 c3 w' hp => (with_any a3 ps c3 key val w' hp hk (by omega)).mono (by
        rintro e w'' ⟨a4, c4, he, ho⟩
        exact ⟨a4, c4, he, ownp_parg ho hqs, own2_le ho.own, ho.bel⟩)
      by_cases hm5 : (wth ps key val).length ≤ 500
      · have z5 : decide ((500 : Int) < ((wth ps key val).length : Int)) = false := by rw [decide_eq_false_iff_not]; omega
        have z6 : ¬ (((wth ps key val).length : Int) > 500) := by omega
        have hmap : isMapT (wth ps key val) = true := isMapT_of (ku_wth hku key val) (fun p hp => by
          rcases wth_mem hp with q | q
          · rw [q]; exact (Bool.and_eq_true _ _).mp hk1
          · exact hok p q) hm5
        have ho : Hid (O = saveO n ss (wth ps key val)) := by
          show _ = _
          rw [HO.out]
          unfold chgO saveO
          have hc0 : putCd key val ps = 0 := by unfold putCd; rw [if_pos hk1, if_neg (by omega)]
          rw [if_neg (by simp), if_neg (by rw [hc0]; simp), if_pos (by rw [hpo, hmap]; rfl)]
        clear hmap
        have HSv : Hid (∀ a4 c4 w', Below w.heap.size w w' → SB (w.heap.size + 1) 0 0 none 0 0 ⟨#[]⟩ ⟨#[]⟩ ⟨#[]⟩ w' → w'.cell? ⟨w.heap.size, 0, none⟩ = some (.int .i64 n) → w'.cell? ⟨w.heap.size, 1, none⟩ = some (.slice a ss.length c) → PArg a4 (wth ps key val) w' → (wth ps key val).length ≤ c4 → Calls Tryz.prog 8 #[.agg #[.int .i64 n, .slice a ss.length c], .slice a4 (wth ps key val).length c4] w' fun e W => ∃ a' m c', e = .returned (svV (saveO n ss (wth ps key val)).cd (saveO n ss (wth ps key val)).n a' m c' (saveO n ss (wth ps key val)).root (saveO n ss (wth ps key val)).x (saveO n ss (wth ps key val)).y) ∧ W.cell? ⟨w.heap.size, 0, none⟩ = some (.int .i64 n) ∧ W.cell? ⟨w.heap.size, 1, none⟩ = some (.slice a ss.length c) ∧ SB (w.heap.size + 1) 0 0 none 0 0 ⟨#[]⟩ ⟨#[]⟩ ⟨#[]⟩ W ∧ SavedIs (saveO n ss (wth ps key val)) w (.returned (svV (saveO n ss (wth ps key val)).cd (saveO n ss (wth ps key val)).n a' m c' (saveO n ss (wth ps key val)).root (saveO n ss (wth ps key val)).x (saveO n ss (wth ps key val)).y)) (set6 W (w.heap.size + 1) (saveO n ss (wth ps key val)).cd (saveO n ss (wth ps key val)).n a' m c' (saveO n ss (wth ps key val)).root (saveO n ss (wth ps key val)).x (saveO n ss (wth ps key val)).y)) := fun a4 c4 w' hb hB hq0 hq1 hp hl => by
          refine (ssave_any HDg n a ss c a4 (wth ps key val) c4 w' (h.below hb) hs hp hl).mono ?_
          intro e W hE
          have hbe : Below w'.heap.size w' W := by
            obtain ⟨_, _, _, hT⟩ := hE
            exact hT.bel
          obtain ⟨a', m, c', r1, r2, r3⟩ := SavedIs.put hE hb hB hge'
          exact ⟨a', m, c', r1, (hbe.cell (World.block_lt_of_cell? w' _ hq0)).trans hq0, (hbe.cell (World.block_lt_of_cell? w' _ hq1)).trans hq1, r2, r3⟩
        generalize saveO n ss (wth ps key val) = O' at HSv ho
        obtain ⟨od, on, oxs, oroot, ox, oy⟩ := O'
        dsimp only at HSv
        obtain ⟨HsmH⟩ : Nonempty (Hid (SmallP ps)) := ⟨hsm⟩
        generalize hLL : (wth ps key val).length = L at HW HSv z5 z6
        obtain ⟨K, hKK⟩ : ∃ K, ps.length = K := ⟨_, rfl⟩
        have HP : Hid (∀ w' b a3 c3, w'.ownsRow b 60 2 (.slice a3 K c3) K (flatP ps) → PArg a3 ps w') := fun w' b a3 c3 q => by rw [← hKK] at q; exact own_parg q HsmH.out
        rw [hKK] at HW HL
        clear HO HPk hqs hku hok hKK hk1 HsmH hsm hlen hLL hwl hsz hm5
        go_enter Tryz.func21, Tryz.ntmps21
        go_wp2_with (first | (go_at_call 45; refine (HL.out _ hbA).mono ?_; rintro e w1 ⟨a3, c3, rfl, ho1, hb1⟩; obtain ⟨hbw1, hB1, q0, q1⟩ := HB.out _ hb1; have hP1 := HP.out _ _ _ _ ho1; clear ho1) | (go_at_call 46; refine (HPk'.out _).mono ?_; rintro e w2 ⟨rfl, rfl⟩) | (go_at_call 52; refine (HW.out _ _ _ hP1).mono ?_; rintro e w3 ⟨a4, c4, rfl, hP3, hl3, hb3⟩; obtain ⟨hbw3, hB3, q3, q4⟩ := HB.out _ (hb1.trans (hb3.mono hb1.size))) | (go_at_call 8; refine (HSv.out _ _ _ hbw3 hB3 q3 q4 hP3 hl3).mono ?_; rintro e w6 ⟨a6, m6, c6, rfl, q5, q6, hB6, hF6⟩; obtain ⟨d0, d1, d2, d3, d4, d5, df⟩ := hB6.at))
        exact retS Tryz.results21 rfl rfl (hB6.all od on a6 m6 c6 oroot ox oy) (by rw [ho.out]; exact hF6)
      · have z5 : decide ((500 : Int) < ((wth ps key val).length : Int)) = true := by rw [decide_eq_true_eq]; omega
        have z6 : (((wth ps key val).length : Int) > 500) := by omega
        have ho : Hid (O = codeO 6) := by
          show _ = _
          rw [HO.out]
          unfold chgO
          have hc0 : putCd key val ps = 6 := by unfold putCd; rw [if_pos hk1, if_pos (by omega)]
          rw [if_neg (by simp), hc0, if_pos (by decide)]
        obtain ⟨HsmH⟩ : Nonempty (Hid (SmallP ps)) := ⟨hsm⟩
        generalize hLL : (wth ps key val).length = L at HW z5 z6
        obtain ⟨K, hKK⟩ : ∃ K, ps.length = K := ⟨_, rfl⟩
        have HP : Hid (∀ w' b a3 c3, w'.ownsRow b 60 2 (.slice a3 K c3) K (flatP ps) → PArg a3 ps w') := fun w' b a3 c3 q => by rw [← hKK] at q; exact own_parg q HsmH.out
        rw [hKK] at HW HL
        clear HO HPk hqs hku hlen hsm hok hKK hk1 HsmH hLL hwl hsz hm5
        go_enter Tryz.func21, Tryz.ntmps21
        go_wp2_with (first | (go_at_call 45; refine (HL.out _ hbA).mono ?_; rintro e w1 ⟨a3, c3, rfl, ho1, hb1⟩; obtain ⟨hbw1, hB1, q0, q1⟩ := HB.out _ hb1; have hP1 := HP.out _ _ _ _ ho1; clear ho1) | (go_at_call 46; refine (HPk'.out _).mono ?_; rintro e w2 ⟨rfl, rfl⟩) | (go_at_call 52; refine (HW.out _ _ _ hP1).mono ?_; rintro e w3 ⟨a4, c4, rfl, hP3, hl3, hb3⟩; obtain ⟨hbw3, hB3, q0, q1⟩ := HB.out _ (hb1.trans (hb3.mono hb1.size)); obtain ⟨d0, d1, d2, d3, d4, d5, df⟩ := hB3.at))
        exact retS Tryz.results21 rfl rfl (hB3.all 6 0 none 0 0 ⟨#[]⟩ ⟨#[]⟩ ⟨#[]⟩) (by rw [ho.out]; exact SavedIs.code hbw3 hB3 hge')
    · have ho : Hid (O = codeO 1) := by
        show _ = _
        rw [HO.out]
        unfold chgO
        rw [if_neg (by simp), show putCd key val ps = 1 from if_neg hk1, if_pos (by decide)]
      have HPk' : Hid (∀ w', Calls Tryz.prog 46 #[.string key, .string val] w' fun e w'' => e = .returned (.bool false) ∧ w'' = w') := fun w' => by
        have := HPk.out w'
        rw [Bool.not_eq_true] at hk1
        rw [hk1] at this
        exact this
      generalize ps.length = K at HL
      clear HO HPk hku hok hk1
      go_enter Tryz.func21, Tryz.ntmps21
      go_wp2_with (first | (go_at_call 45; refine (HL.out _ hbA).mono ?_; rintro e w1 ⟨a3, c3, rfl, _, hb1⟩; obtain ⟨hbw1, hB1, q0, q1⟩ := HB.out _ hb1; obtain ⟨d0, d1, d2, d3, d4, d5, df⟩ := hB1.at) | (go_at_call 46; refine (HPk'.out _).mono ?_; rintro e w2 ⟨rfl, rfl⟩))
      exact retS Tryz.results21 rfl rfl (hB1.all 1 0 none 0 0 ⟨#[]⟩ ⟨#[]⟩ ⟨#[]⟩) (by rw [ho.out]; exact SavedIs.code hbw1 hB1 hge')
  · have ho : Hid (O = codeO xc) := by
      show _ = _
      rw [HO.out]
      unfold chgO
      rw [if_pos hx]
    have zc : (xc != 0) = true := by simp [hx]
    generalize ps.length = K at HL
    clear HO hx hfo hz
    go_enter Tryz.func21, Tryz.ntmps21
    go_wp2_with (first | (go_at_call 45; refine (HL.out _ hbA).mono ?_; rintro e w1 ⟨a3, c3, rfl, _, hb1⟩; obtain ⟨hbw1, hB1, q0, q1⟩ := HB.out _ hb1; obtain ⟨d0, d1, d2, d3, d4, d5, df⟩ := hB1.at))
    exact retS Tryz.results21 rfl rfl (hB1.all xc 0 none 0 0 ⟨#[]⟩ ⟨#[]⟩ ⟨#[]⟩) (by rw [ho.out]; exact SavedIs.code hbw1 hB1 hge')
end Go.Proofs.YtgicihmdcnelaaaGreatDoor
namespace Go.Proofs.YtgicihmdcnelaaaGreatDoor
open Go.RowKit Go.Proofs.Sha

theorem chgO_small (n : Int) (ss : List ByteArray) (X : List PairT × Int) (cd : Int) (qs : List PairT) (h2 : ∀ j, (ss.getD j ⟨#[]⟩).size ≤ 1048576) (hp : X.2 = 0 → poolOk n ss.length = true) : SmallO (chgO n ss X cd qs) := by
  unfold chgO
  split
  · exact codeO_small _
  · rename_i hx
    split
    · exact codeO_small _
    · have hp' : 1 ≤ n ∧ n ≤ 32 ∧ ss.length ≤ 20000 := of_decide_eq_true (hp (by simpa using hx))
      exact savO_small _ _ _ hp'.2.2 h2
set_option maxRecDepth 100000 in
set_option maxHeartbeats 4000000 in
theorem law_dl (O : SvO) (hO1 : O.xs.length ≤ 1048576) (hO2 : ∀ j, (O.xs.getD j ⟨#[]⟩).size ≤ 1048576) (n : Int) (a : Option Addr) (ss : List ByteArray) (c : Nat) (rt key : ByteArray) (w : World) (h : RArg a ss w) (hN : ss.length ≤ maxLen) (hM : ∀ j, (ss.getD j ⟨#[]⟩).size ≤ maxLen) (hrt : rt.size ≤ maxLen) (hkey : key.size ≤ maxLen) (hK : KTab w)
    (H8 : Hid (rt.size ≤ 1048576 → key.size ≤ 1048576 → SmallS ss → ∀ g w', SArg (some ⟨g, 0, none⟩) ss w' → Calls Tryz.prog 19 #[.agg #[.int .i64 n, .slice (some ⟨g, 0, none⟩) ss.length ss.length], .string rt, .string key] w' (SavedIs O w')))
    (H11 : Hid (rt.size ≤ 1048576 → key.size ≤ 1048576 → SmallS ss → ∀ g w', SArg (some ⟨g, 0, none⟩) ss w' → KTab w' → Calls Tryz.prog 20 #[.agg #[.int .i64 n, .slice (some ⟨g, 0, none⟩) ss.length ss.length], .string rt, .string key] w' (SavedIs O w'))) :
    Calls Tryz.prog 4 #[.agg #[.int .i64 n, .slice a ss.length c], .string rt, .string key] w fun e w' => e = .returned (.bool true) ∧ Below w.heap.size w w' := by
  have hb0 : Below w.heap.size w (w.alloc (.cells #[.int .i64 n, .slice a ss.length c] 24)) := (Below.refl _ _).alloc (Nat.le_refl _) _
  have HS : Hid (∀ w', RArg a ss w' → Calls Tryz.prog 6 #[.agg #[.int .i64 n, .slice a ss.length c], .int .i64 1048576] w' fun e w'' => ∃ r : Int, e = .returned (.int .i64 r) ∧ Hid (0 ≤ r → SmallS ss) ∧ r ≤ 1048576 ∧ Below w'.heap.size w' w'') := fun w' h' => szPool_le n a ss c w' h' hN hM
  have HT : Hid (SmallS ss → ∀ w', RArg a ss w' → Calls Tryz.prog 9 #[.agg #[.int .i64 n, .slice a ss.length c]] w' fun e w'' => ∃ g, e = .returned (.agg #[.int .i64 n, .slice (some ⟨g, 0, none⟩) ss.length ss.length]) ∧ Row w'' w'.heap.size g ss.length ss.length (ss.map Value.string) ∧ SArg (some ⟨g, 0, none⟩) ss w'' ∧ Below w'.heap.size w' w'') := fun hs w' h' => by
    refine (toPool_row n a ss c w' (h'.sarg hs)).mono ?_
    rintro e w'' ⟨g, he, hrow, hb⟩
    exact ⟨g, he, hrow, Row.sarg hrow hs, hb⟩
  have HQ : Hid (∀ g g2 w', SArg (some ⟨g, 0, none⟩) ss w' → SArg (some ⟨g2, 0, none⟩) ss w' → Calls Tryz.prog 13 #[.agg #[.int .i64 n, .slice (some ⟨g, 0, none⟩) ss.length ss.length], .agg #[.int .i64 n, .slice (some ⟨g2, 0, none⟩) ss.length ss.length]] w' fun e w'' => e = .returned (.bool true) ∧ Below w'.heap.size w' w'') := fun g g2 w' hw hw2 => eqPool_same n _ _ ss _ _ w' hw hw2
  obtain ⟨M, hMM⟩ := mark_ex
  have HM : Hid (MarkSaid M) := hMM
  obtain ⟨cd, nn, xs, root, x, y⟩ := O
  simp only at hO1 hO2
  have HE : Hid (∀ a1 c1 a2 c2 w', SArg a1 xs w' → SArg a2 xs w' → Calls Tryz.prog 12 #[svV cd nn a1 xs.length c1 root x y, svV cd nn a2 xs.length c2 root x y] w' fun e w'' => e = .returned (.bool true) ∧ Below w'.heap.size w' w'') := fun a1 c1 a2 c2 w' q1 q2 => eqSaved_same cd nn a1 a2 xs c1 c2 root x y w' q1 q2
  unfold SavedIs at H8 H11
  simp only at H8 H11
  obtain ⟨m, hm⟩ : ∃ m, xs.length = m := ⟨_, rfl⟩
  rw [hm] at H8 H11 HE hO1
  clear hMM hM hN
  unfold maxLen at hrt hkey
  by_cases hxrt : 1048576 < rt.size
  · have zrt : decide ((1048576 : Int) < (rt.size : Int)) = true := by rw [decide_eq_true_eq]; omega
    go_enter Tryz.func4, Tryz.ntmps4
    go_wp2_with fail
    go_ret
    exact ⟨rfl, hb0⟩
  have zrt : decide ((1048576 : Int) < (rt.size : Int)) = false := by rw [decide_eq_false_iff_not]; omega
  by_cases hxkey : 1048576 < key.size
  · have zkey : decide ((1048576 : Int) < (key.size : Int)) = true := by rw [decide_eq_true_eq]; omega
    go_enter Tryz.func4, Tryz.ntmps4
    go_wp2_with fail
    go_ret
    exact ⟨rfl, hb0⟩
  have zkey : decide ((1048576 : Int) < (key.size : Int)) = false := by rw [decide_eq_false_iff_not]; omega
  go_enter Tryz.func4, Tryz.ntmps4
  go_wp2_with fail
  refine (HS.out _ (h.below hb0)).mono ?_
  rintro e w1 ⟨x1, rfl, HX, hx1, hb1⟩
  have hn1 := pblk_below hb1 (heap_alloc_new w (.cells #[.int .i64 n, .slice a ss.length c] 24))
  have hw1 : Below w.heap.size w w1 := hb0.trans (hb1.mono (by simp))
  clear hb1 hb0
  by_cases hx : x1 < 0
  · have zx : decide (x1 < 0) = true := decide_eq_true hx
    clear hx
    go_wp2_with fail
    go_ret
    exact ⟨rfl, hw1⟩
  have hs := HX.out (by omega)
  have zx : decide (x1 < 0) = false := decide_eq_false hx
  have H8' := H8.out (by omega) (by omega) hs
  have H11' := H11.out (by omega) (by omega) hs
  clear H11
  have H11 : Hid _ := H11'
  clear H11'
  have HT' := HT.out hs
  have hsl : ss.length ≤ 1048576 := hs.1
  replace H8' : Hid _ := H8'
  replace HT' : Hid _ := HT'
  obtain ⟨N, hN⟩ : ∃ N, ss.length = N := ⟨_, rfl⟩
  rw [hN] at HT' H8' H11 HQ hn1 hsl
  clear H8 HT HX hx hs HS hx1
  obtain ⟨ga, hga⟩ : ∃ ga, w.heap.size = ga := ⟨_, rfl⟩
  rw [hga] at hn1
  try rw [hga]
  have hgaH : Hid (w.heap.size = ga) := hga
  clear hga
  have hn2 := hn1
  have hw2 := hw1
  clear hn1 hw1
  have c0 := Lib.cell_of_heap hn2 0
  have c1 := Lib.cell_of_heap hn2 1
  go_wp2_with fail
  refine (HT'.out _ (h.below hw2)).mono ?_
  rintro e w3 ⟨g3, rfl, _, hi3, hb3⟩
  have hn3 := pblk_below hb3 hn2
  have hw3 := hw2.trans (hb3.mono hw2.size)
  clear hb3 hn2 hw2 c0 c1
  go_wp2_with fail
  refine (H8'.out _ _ hi3).mono ?_
  rintro e w5 ⟨aw, cw, rfl, ow⟩
  have hn5 := pblk_below ow.bel hn3
  have hw5 := hw3.trans (ow.bel.mono hw3.size)
  have sw5 := ow.sarg (by omega) hO2
  have lw5 : ∀ b off, aw = some ⟨b, off, none⟩ → b < w5.heap.size := fun b off e => (ow.lt b off e).2
  clear ow hn3 hw3 hi3
  go_upto_region 10 with fail
  have al5 : Below w5.heap.size w5 (w5.alloc (.cells #[.int .i64 cd, .int .i64 nn, .slice aw m cw, .string root, .string x, .string y] 30)) := (Below.refl _ _).alloc (Nat.le_refl _) _
  have hL : LW w ga n a N c w5.heap.size cd nn xs root x y aw m cw (w5.alloc (.cells #[.int .i64 cd, .int .i64 nn, .slice aw m cw, .string root, .string x, .string y] 30)) := ⟨pblk_below al5 hn5, heap_alloc_new w5 _, sw5.below al5, hw5.trans (al5.mono hw5.size)⟩
  have hsz6 : (w5.alloc (.cells #[.int .i64 cd, .int .i64 nn, .slice aw m cw, .string root, .string x, .string y] 30)).heap.size = w5.heap.size + 1 := by simp
  have hgw : ga < w5.heap.size := (Array.getElem?_eq_some_iff.1 hn5).1
  generalize w5.alloc (.cells #[.int .i64 cd, .int .i64 nn, .slice aw m cw, .string root, .string x, .string y] 30) = w6 at hL hsz6 ⊢
  clear al5 hn5 hw5 sw5
  obtain ⟨gw, hgw'⟩ : ∃ g, w5.heap.size = g := ⟨_, rfl⟩
  rw [hgw'] at hL hsz6 hgw lw5
  try rw [hgw']
  clear hgw'
  have c0 := Lib.cell_of_heap hL.par 0
  have c1 := Lib.cell_of_heap hL.par 1
  go_wp2_with fail
  refine (HT'.out _ (h.below hL.bel)).mono ?_
  rintro e w7 ⟨g7, rfl, rx7, hi7, hb7⟩
  have hL7 := hL.below hb7
  have hg7 := rx7.ge
  clear c0 c1
  go_upto_region 11 with fail
  have al7 : Below w7.heap.size w7 (w7.alloc (.cells #[.int .i64 n, .slice (some ⟨g7, 0, none⟩) N N] 28)) := (Below.refl _ _).alloc (Nat.le_refl _) _
  have hL8 := hL7.below al7
  have nX := heap_alloc_new w7 (.cells #[.int .i64 n, .slice (some ⟨g7, 0, none⟩) N N] 28)
  have hi8 := hi7.below al7
  have rx8 := (rx7.mono hL.bel.size).below al7
  have hsz8 : (w7.alloc (.cells #[.int .i64 n, .slice (some ⟨g7, 0, none⟩) N N] 28)).heap.size = w7.heap.size + 1 := by simp
  have hgx7 : g7 < w7.heap.size := rx7.lt
  generalize w7.alloc (.cells #[.int .i64 n, .slice (some ⟨g7, 0, none⟩) N N] 28) = w8 at hL8 nX hi8 rx8 hsz8 ⊢
  obtain ⟨gx, hgx⟩ : ∃ g, w7.heap.size = g := ⟨_, rfl⟩
  rw [hgx] at nX hsz8 hgx7
  try rw [hgx]
  clear hgx al7 hL7 hi7 rx7 hL hb7
  have hL9 := hL8
  have nX9 := nX
  have hi9 := hi8
  have rx9 := rx8
  clear hL8 nX hi8 rx8
  have d0 := Lib.cell_of_heap nX9 0
  have d1 := Lib.cell_of_heap nX9 1
  go_wp2_with fail
  refine (H11.out _ _ hi9 (hK.below hL9.bel)).mono ?_
  rintro e w10 ⟨ag, cg, rfl, og⟩
  go_upto_region 12 with fail
  have al10 : Below w10.heap.size w10 (w10.alloc (.cells #[.int .i64 cd, .int .i64 nn, .slice ag m cg, .string root, .string x, .string y] 30)) := (Below.refl _ _).alloc (Nat.le_refl _) _
  have hb911 : Below w8.heap.size w8 (w10.alloc (.cells #[.int .i64 cd, .int .i64 nn, .slice ag m cg, .string root, .string x, .string y] 30)) := og.bel.trans (al10.mono og.bel.size)
  have hG11 : LG w8.heap.size w10.heap.size cd nn xs root x y ag m cg (w10.alloc (.cells #[.int .i64 cd, .int .i64 nn, .slice ag m cg, .string root, .string x, .string y] 30)) := ⟨heap_alloc_new w10 _, (og.sarg (by omega) hO2).below al10, (own_srow og.own).below al10, og.lt, og.bel.size⟩
  have hL11 := hL9.below hb911
  have nX11 := pblk_below hb911 nX9
  have hi11 := hi9.below hb911
  have rx11 := rx9.below hb911
  generalize w10.alloc (.cells #[.int .i64 cd, .int .i64 nn, .slice ag m cg, .string root, .string x, .string y] 30) = w11 at hb911 hG11 hL11 nX11 hi11 rx11 ⊢
  obtain ⟨gg, hgg⟩ : ∃ g, w10.heap.size = g := ⟨_, rfl⟩
  rw [hgg] at hG11
  try rw [hgg]
  obtain ⟨bs, hbs⟩ : ∃ b, w8.heap.size = b := ⟨_, rfl⟩
  rw [hbs] at hG11 hsz8
  clear hgg og al10 hb911 hL9 nX9 hi9 rx9 d0 d1 hbs
  obtain ⟨e0, e1, e2, e3, e4, e5⟩ := hG11.blk.load
  obtain ⟨f0, f1, f2, f3, f4, f5⟩ := hL11.sw.load
  go_wp2_with fail
  refine (HE.out _ _ _ _ _ hG11.arg hL11.arg).mono ?_
  rintro e w12 ⟨rfl, hb12⟩
  have hL12 := hL11.below hb12
  have hG12 := hG11.below hb12
  have nX12 := pblk_below hb12 nX11
  have hi12 := hi11.below hb12
  have rx12 := rx11.below hb12
  clear hL11 hG11 nX11 hi11 rx11 hb12 e0 e1 e2 e3 e4 e5 f0 f1 f2 f3 f4 f5
  have c0 := Lib.cell_of_heap hL12.par 0
  have c1 := Lib.cell_of_heap hL12.par 1
  have d0 := Lib.cell_of_heap nX12 0
  have d1 := Lib.cell_of_heap nX12 1
  go_upto_region 14 with fail
  have hC : Hid (∀ W : World, Below w12.heap.size w12 W → W.cell? ⟨ga, 0, none⟩ = some (.int .i64 n) ∧ W.cell? ⟨ga, 1, none⟩ = some (.slice a N c) ∧ W.cell? ⟨gx, 0, none⟩ = some (.int .i64 n) ∧ W.cell? ⟨gx, 1, none⟩ = some (.slice (some ⟨g7, 0, none⟩) N N)) := fun W hW => ⟨Lib.cell_of_heap (pblk_below hW hL12.par) 0, Lib.cell_of_heap (pblk_below hW hL12.par) 1, Lib.cell_of_heap (pblk_below hW nX12) 0, Lib.cell_of_heap (pblk_below hW nX12) 1⟩
  go_region_held3 (fun W => W.cell? ⟨ga, 0, none⟩ = some (.int .i64 n) ∧ W.cell? ⟨ga, 1, none⟩ = some (.slice a N c) ∧ W.cell? ⟨gx, 0, none⟩ = some (.int .i64 n) ∧ W.cell? ⟨gx, 1, none⟩ = some (.slice (some ⟨g7, 0, none⟩) N N)) (first | exact ⟨c0, c1, d0, d1⟩ | exact hC.out _ hx13 | exact hC.out _ hx14) (first | (go_at_call 9; refine (HT'.out _ ((h.below hL12.bel).below (Below.refl w12.heap.size w12).drew)).mono ?_; rintro e w13 ⟨g13, rfl, _, hi13, hb13⟩; have hx13 : Below w12.heap.size w12 w13 := (Below.refl w12.heap.size w12).drew.trans hb13; have hi13' := hi12.below hx13; clear hb13) | (go_at_call 13; refine (HQ.out _ _ _ hi13' hi13).mono ?_; rintro e w14 ⟨rfl, hb14⟩; have hx14 : Below w12.heap.size w12 w14 := hx13.trans (hb14.mono hx13.size)))
  have hL14 := hL12.below hx14
  have hG14 := hG12.below hx14
  have nX14 := pblk_below hx14 nX12
  have rx14 := rx12.below hx14
  clear hL12 hG12 nX12 hi12 rx12 hx13 hx14 hb14 hi13 hi13' c0 c1 d0 d1 hC HQ
  have hL16 := hL14
  have hG16 := hG14
  have nX16 := nX14
  have rx16 := rx14
  clear hL14 hG14 nX14 rx14
  have d0 := Lib.cell_of_heap nX16 0
  have d1 := Lib.cell_of_heap nX16 1
  have HMk := markPool_any M HM w.heap.size g7 N 1 n _ w14 rx16 (Nat.le_refl _) (by omega) hL16.bel.size
  have hw7 : w.heap.size ≤ g7 := rx16.ge
  obtain ⟨p, hp⟩ : ∃ p : Nat, 1 + N = p := ⟨_, rfl⟩
  rw [hp] at HMk
  go_wp2_with fail
  refine HMk.mono ?_
  rintro e w17 ⟨rfl, hg17⟩
  have hL17 := hL16.grown hg17 (fun q hq => by have := Option.some.inj hq; omega) (fun b off e => lw5 b off e)
  have hG17 := hG16.grown hg17 (fun q hq => by have := Option.some.inj hq; omega)
  clear hL16 hG16 nX16 rx16 hg17 HMk d0 d1
  have zp : decide ((p : Int) < 0) = false := by rw [decide_eq_false_iff_not]; omega
  clear hp
  have hL18 := hL17
  have hG18 := hG17
  clear hL17 hG17
  obtain ⟨e0, e1, e2, e3, e4, e5⟩ := hG18.blk.load
  obtain ⟨f0, f1, f2, f3, f4, f5⟩ := hL18.sw.load
  go_wp2_with fail
  refine (HE.out _ _ _ _ _ hG18.arg hL18.arg).mono ?_
  rintro e w19 ⟨rfl, hb19⟩
  have hL19 := hL18.below hb19
  have hG19 := hG18.below hb19
  clear hL18 hG18 hb19 e0 e1 e2 e3 e4 e5 f0 f1 f2 f3 f4 f5
  obtain ⟨e0, e1, e2, e3, e4, e5⟩ := hG19.blk.load
  have hbs19 : bs ≤ w19.heap.size := Nat.le_trans hG19.ge (Nat.le_of_lt (Array.getElem?_eq_some_iff.1 (show w19.heap[gg]? = _ from hG19.blk)).1)
  have HMs := markSaved_any cd nn ag m cg root x y 1 (1 + m) (fun W => SRow W bs ag m cg (marksV M 1 m) ∧ w19.grownBy W (if m = 0 then none else (Value.slice ag m cg).ownBlock)) w19 (fun w' hb' => (markPool_s M HM bs m cg 1 nn ag _ w' (hG19.row.below hb') (Nat.le_refl _) (by omega) (Nat.le_trans hbs19 hb'.size)).mono (by
    rintro e w'' ⟨he, h1, h2⟩
    exact ⟨he, h1, grownBy_trans (grownBy_of_below hb' _) h2⟩))
  have HHd : Hid (∀ w', SRow w' bs ag m cg (marksV M 1 m) → Calls Tryz.prog 18 #[svV cd nn ag m cg root x y, .int .i64 ((1 : Nat) : Int)] w' fun e w'' => e = .returned (.int .i64 ((1 + m : Nat) : Int)) ∧ Below w'.heap.size w' w'') := fun w' hw' => heldSaved_any cd nn ag m cg root x y 1 (1 + m) w' (fun w2 hb2 => heldPool_any M HM bs m cg 1 nn ag w2 (hw'.below hb2) (Nat.le_refl _) (by omega))
  generalize marksV M 1 m = mV at HMs HHd
  obtain ⟨z, hz⟩ : ∃ z : Nat, 1 + m = z := ⟨_, rfl⟩
  rw [hz] at HMs HHd
  have zm : decide ((z : Int) < 0) = false := by rw [decide_eq_false_iff_not]; omega
  have zm2 : ((z : Int) != (z : Int)) = false := by simp
  clear hz
  obtain ⟨row, hrow⟩ : ∃ row, (if m = 0 then none else (Value.slice ag m cg).ownBlock) = row := ⟨_, rfl⟩
  rw [hrow] at HMs
  have hrow' : ∀ q, row = some q → bs ≤ q ∧ q < gg := fun q hq => by
    rw [← hrow] at hq
    split at hq
    · cases hq
    · cases ag with
      | none => cases hq
      | some A =>
        obtain ⟨b, o, el⟩ := A
        obtain rfl : b = q := Option.some.inj hq
        rcases hG19.row with h0 | ⟨g, e, hr⟩
        · omega
        · cases e
          exact hG19.lt b 0 rfl
  clear hrow
  go_wp2_with fail
  refine HMs.mono ?_
  rintro e w20 ⟨rfl, hS20, hg20⟩
  have hL20 := hL19.grown hg20 (fun q hq => by have := hrow' q hq; omega) (fun b off e => lw5 b off e)
  have hB20 : SB gg cd nn ag m cg root x y w20 := (hg20.block gg (Array.getElem?_eq_some_iff.1 (show w19.heap[gg]? = _ from hG19.blk)).1 (fun e => by have := hrow' gg e.symm; omega)).trans hG19.blk
  clear hL19 hG19 hg20 HMs e0 e1 e2 e3 e4 e5 hrow'
  obtain ⟨e0, e1, e2, e3, e4, e5⟩ := hB20.load
  go_wp2_with fail
  refine (HHd.out _ hS20).mono ?_
  rintro e w21 ⟨rfl, hb21⟩
  have hL21 := hL20.below hb21
  clear hL20 hB20 hS20 hb21 HHd e0 e1 e2 e3 e4 e5
  have c0 := Lib.cell_of_heap hL21.par 0
  have c1 := Lib.cell_of_heap hL21.par 1
  go_wp2_with fail
  refine (HT'.out _ (h.below hL21.bel)).mono ?_
  rintro e w22 ⟨g22, rfl, _, hi22, hb22⟩
  have hL22 := hL21.below hb22
  clear hL21 hb22 c0 c1
  have hL23 := hL22
  have hi23 := hi22
  clear hL22 hi22
  go_wp2_with fail
  refine (H11.out _ _ hi23 (hK.below hL23.bel)).mono ?_
  rintro e w24 ⟨ah, ch, rfl, oh⟩
  have sh24 := oh.sarg (by omega) hO2
  have hL24 := hL23.below oh.bel
  clear oh hL23 hi23
  have al24 : Below w24.heap.size w24 (w24.alloc (.cells #[.int .i64 cd, .int .i64 nn, .slice ah m ch, .string root, .string x, .string y] 30)) := (Below.refl _ _).alloc (Nat.le_refl _) _
  have nH : SB w24.heap.size cd nn ah m ch root x y (w24.alloc (.cells #[.int .i64 cd, .int .i64 nn, .slice ah m ch, .string root, .string x, .string y] 30)) := heap_alloc_new w24 _
  have hL25 := hL24.below al24
  have sh25 := sh24.below al24
  clear hL24 sh24
  obtain ⟨e0, e1, e2, e3, e4, e5⟩ := nH.load
  obtain ⟨f0, f1, f2, f3, f4, f5⟩ := hL25.sw.load
  go_wp2_with fail
  refine (HE.out _ _ _ _ _ sh25 hL25.arg).mono ?_
  rintro e w26 ⟨rfl, hb26⟩
  have hfin := (hL25.below hb26).bel
  clear hL25 e0 e1 e2 e3 e4 e5 f0 f1 f2 f3 f4 f5 sh25 nH
  go_wp2_with fail
  go_ret
  exact ⟨rfl, hfin⟩
theorem law_del (n : Int) (a : Option Addr) (ss : List ByteArray) (c : Nat) (rt key : ByteArray) (w : World) (hN : ss.length ≤ maxLen) (hM : ∀ j, (ss.getD j ⟨#[]⟩).size ≤ maxLen)
    (h : 0 < ss.length → ∃ b off : Nat, a = some ⟨b, off, none⟩ ∧ b < w.heap.size ∧ ∀ j, j < ss.length → w.cell? ⟨b, off + j, none⟩ = some (.string (ss.getD j ⟨#[]⟩))) (hrt : rt.size ≤ maxLen) (hkey : key.size ≤ maxLen)
    (hK : ∀ j, j < 64 → w.cell? ⟨0, j, none⟩ = some (.int .u32 ((kTab.getD j 0).toNat : Int))) :
    Calls Tryz.prog 4 #[.agg #[.int .i64 n, .slice a ss.length c], .string rt, .string key] w fun e w' => e = .returned (.bool true) ∧ Below w.heap.size w w' := by
  obtain ⟨f, hf⟩ := Classical.axiomOfChoice (dec_ex n)
  obtain ⟨D, hD⟩ : ∃ D : Dec, D = ⟨fun s => (f s).1, fun s => (f s).2.1, fun s => (f s).2.2.1, fun s => (f s).2.2.2.1, fun s => (f s).2.2.2.2⟩ := ⟨_, rfl⟩
  have hdo : ∀ wd : Nat, (wd : Int) = n → DecOk wd D := fun wd hwd s hs => by
    have h1 := hf s
    rw [hD] at hs
    simp only at hs
    rw [hs] at h1
    have h2 := nodeOk_out (decOk_of h1)
    rw [hD]
    simp only
    unfold okKey okVal
    refine ⟨decide_eq_true (by omega), decide_eq_true (by omega), by omega, by omega⟩
  have HD1 : Hid (∀ wd : Nat, (wd : Int) = n → 1 ≤ wd → wd ≤ 32 → DecSaid 145 wd D) := by
    intro wd hwd _ _ s w' hs
    refine (dec_impl s wd w' hs).mono ?_
    rintro e w'' ⟨h1, hb⟩
    rw [hwd] at h1
    rw [hD]
    exact ⟨h1.one (hf s), hb⟩
  have HD2 : Hid (∀ wd : Nat, (wd : Int) = n → 1 ≤ wd → wd ≤ 32 → DecSaid 124 wd D) := by
    intro wd hwd _ _ s w' hs
    refine (dec_any s wd w' hs).mono ?_
    rintro e w'' ⟨h1, hb⟩
    rw [hwd] at h1
    rw [hD]
    exact ⟨h1.one (hf s), hb⟩
  by_cases hs : SmallS ss
  · have hsz : ∀ j, (ss.getD j ⟨#[]⟩).size ≤ 1048576 := fun j => Nat.le_trans (hs.2 j) (by decide)
    have hO : SmallO (delO D n ss rt key) := chgO_small n ss _ _ _ hsz (fun q => rangeM_zero q)
    exact law_dl (delO D n ss rt key) (Nat.le_trans hO.1 (by decide)) hO.2 n a ss c rt key w ⟨h⟩ hN hM hrt hkey hK
      (fun hrt hkey _ g w' q1 => sdel_any (fun t k w' ht h1 h2 => sdig_yes t k w' ht h1 h2) D n HD2 hdo _ ss _ rt key w' q1 hs.2 hrt hkey)
      (fun hrt hkey _ g w' q1 q3 => idel_any (fun s w' hs hk => ehash_any s w' hs hk) D n HD1 hdo _ ss _ rt key w' q1 q3 hrt hkey)
  · exact law_dl (codeO 0) (Nat.zero_le _) (fun _ => Nat.zero_le _) n a ss c rt key w ⟨h⟩ hN hM hrt hkey hK (fun _ _ q => absurd q hs) (fun _ _ q => absurd q hs)
end Go.Proofs.YtgicihmdcnelaaaGreatDoor
