import Derived.Test.YtgicihmdcnelaaaGreatDoorZbk
import Derived.Test.YtgicihmdcnelaaaGreatDoorZaq
import Derived.Test.YtgicihmdcnelaaaGreatDoorZat
import Derived.Test.YtgicihmdcnelaaaGreatDoorZae
namespace Go.Proofs.YtgicihmdcnelaaaGreatDoor
open Go.RowKit Go.Proofs.Sha

set_option maxRecDepth 100000 in
set_option maxHeartbeats 1000000 in
theorem ssave_any (HD : Hid DigSaid) (n : Int) (a : Option Addr) (ss : List ByteArray) (c : Nat) (a2 : Option Addr) (ps : List PairT) (c2 : Nat) (w : World) (h : SArg a ss w) (hq : Hid (∀ j, (ss.getD j ⟨#[]⟩).size ≤ 1048575)) (h2 : PArg a2 ps w) (hc2 : ps.length ≤ c2) :
    Calls Tryz.prog 8 #[.agg #[.int .i64 n, .slice a ss.length c], .slice a2 ps.length c2] w (SavedIs (saveO n ss ps) w) := by
  by_cases hpm : (poolOk n ss.length && isMapT ps) = true
  · have hp2 := (Bool.and_eq_true _ _).mp hpm
    have hp' : 1 ≤ n ∧ n ≤ 32 ∧ ss.length ≤ 20000 := of_decide_eq_true hp2.1
    obtain ⟨wd, rfl⟩ : ∃ wd : Nat, n = (wd : Int) := ⟨n.toNat, by omega⟩
    have ho : saveO (wd : Int) ss ps = savO wd ss (cutTree ps) := by unfold saveO; rw [if_pos hpm]; rfl
    rw [ho]
    exact ssave_yes HD wd a ss c a2 ps c2 w h hq h2 hc2 (by omega) (by omega) hp'.2.2 hp2.2
  have ho : saveO n ss ps = codeO 1 := by unfold saveO; rw [if_neg hpm]
  rw [ho]
  have HV : Hid (∀ w', Calls Tryz.prog 25 #[.agg #[.int .i64 n, .slice a ss.length c]] w' fun e w'' => e = .returned (.bool (poolOk n ss.length)) ∧ Below w'.heap.size w' w'') := fun w' => poolOk_any n a ss.length c w' h.le
  have HM : Hid (∀ w', Below w.heap.size w w' → Calls Tryz.prog 26 #[.slice a2 ps.length c2] w' fun e w'' => e = .returned (.bool (isMapT ps)) ∧ Below w'.heap.size w' w'') := fun w' hb => mapOk_any a2 ps c2 w' (h2.below hb)
  have hbA : Below w.heap.size w ((w.alloc (.cells #[.int .i64 n, .slice a ss.length c] 28)).alloc (.cells #[.int .i64 0, .int .i64 0, .slice none 0 0, .string ⟨#[]⟩, .string ⟨#[]⟩, .string ⟨#[]⟩] 30)) := ((Below.refl _ _).alloc (Nat.le_refl _) _).alloc (by simp) _
  have nB := heap_alloc_new (w.alloc (.cells #[.int .i64 n, .slice a ss.length c] 28)) (.cells #[.int .i64 0, .int .i64 0, .slice none 0 0, .string ⟨#[]⟩, .string ⟨#[]⟩, .string ⟨#[]⟩] 30)
  have nA := (Below.heap_alloc (w.alloc (.cells #[.int .i64 n, .slice a ss.length c] 28)) (.cells #[.int .i64 0, .int .i64 0, .slice none 0 0, .string ⟨#[]⟩, .string ⟨#[]⟩, .string ⟨#[]⟩] 30) w.heap.size (by simp)).trans (heap_alloc_new w _)
  rw [World.size_alloc] at nB
  obtain ⟨gp, hgp⟩ : ∃ g, w.heap.size = g := ⟨_, rfl⟩
  have hge' : w.heap.size ≤ gp + 1 := by omega
  clear h h2 ho
  go_enter Tryz.func8, Tryz.ntmps8
  go_upto_region 1 with fail
  generalize (w.alloc (.cells #[.int .i64 n, .slice a ss.length c] 28)).alloc (.cells #[.int .i64 0, .int .i64 0, .slice none 0 0, .string ⟨#[]⟩, .string ⟨#[]⟩, .string ⟨#[]⟩] 30) = wA at hbA nA nB ⊢
  try rw [hgp]
  rw [hgp] at nA nB
  have p0 := Lib.cell_of_heap nA 0
  have p1 := Lib.cell_of_heap nA 1
  have HB : Hid (∀ W, Below wA.heap.size wA W → Below w.heap.size w W ∧ SB (gp + 1) 0 0 none 0 0 ⟨#[]⟩ ⟨#[]⟩ ⟨#[]⟩ W) := fun W hW => ⟨hbA.trans (hW.mono hbA.size), pblk_below hW nB⟩
  cases hp : poolOk n ss.length with
  | false =>
    rw [hp] at HV
    go_wp2_with (first | (go_at_call 25; refine (HV.out _).mono ?_; rintro e w1 ⟨rfl, hb1⟩; obtain ⟨hbw, hB1⟩ := HB.out _ hb1; obtain ⟨d0, d1, d2, d3, d4, d5, df⟩ := hB1.at))
    exact retS Tryz.results8 rfl rfl (hB1.all 1 0 none 0 0 ⟨#[]⟩ ⟨#[]⟩ ⟨#[]⟩) (SavedIs.code hbw hB1 hge')
  | true =>
    have hm : isMapT ps = false := by
      cases hm : isMapT ps with
      | false => rfl
      | true => exact absurd (by rw [hp, hm]; rfl) hpm
    rw [hp] at HV
    rw [hm] at HM
    go_wp2_with (first | (go_at_call 25; refine (HV.out _).mono ?_; rintro e w1 ⟨rfl, hb1⟩) | (go_at_call 26; refine (HM.out _ (hbA.trans (hb1.mono hbA.size))).mono ?_; rintro e w2 ⟨rfl, hb2⟩; obtain ⟨hbw, hB1⟩ := HB.out _ (hb1.trans (hb2.mono hb1.size)); obtain ⟨d0, d1, d2, d3, d4, d5, df⟩ := hB1.at))
    exact retS Tryz.results8 rfl rfl (hB1.all 1 0 none 0 0 ⟨#[]⟩ ⟨#[]⟩ ⟨#[]⟩) (SavedIs.code hbw hB1 hge')
end Go.Proofs.YtgicihmdcnelaaaGreatDoor
namespace Go.Proofs.YtgicihmdcnelaaaGreatDoor
open Go.RowKit Go.Proofs.Sha

set_option maxRecDepth 100000 in
set_option maxHeartbeats 1000000 in
theorem szStringS_le (a : Option Addr) (ss : List ByteArray) (c : Nat) (w : World) (h : RArg a ss w) (hN : ss.length ≤ maxLen) (hM : ∀ j, (ss.getD j ⟨#[]⟩).size ≤ maxLen) :
    Calls Tryz.prog 23 #[.slice a ss.length c, .int .i64 1048576] w fun e w' => ∃ r : Int, e = .returned (.int .i64 r) ∧ Hid (0 ≤ r → SmallS ss) ∧ r ≤ 1048576 ∧ w = w' := by
  unfold maxLen at hN hM
  obtain ⟨N, hl⟩ : ∃ N, ss.length = N := ⟨_, rfl⟩
  rw [hl] at hN
  rw [hl]
  by_cases hx : 1048576 < N
  · have z1 : decide ((1048576 : Int) - (N : Int) < 0) = true := by rw [decide_eq_true_eq]; omega
    have z3 : (-9223372036854775808 : Int) ≤ 1048576 - (N : Int) := by omega
    have z4 : (1048576 : Int) - (N : Int) ≤ 9223372036854775807 := by omega
    have z5 : wrap64 (1048576 - (N : Int)) = 1048576 - (N : Int) := wr_in _ (by omega)
    go_enter Tryz.func23, Tryz.ntmps23
    go_wp2_with fail
    go_ret
    exact ⟨_, rfl, fun hh => absurd hh (by decide), by decide, rfl⟩
  · have z1 : decide ((1048576 : Int) - (N : Int) < 0) = false := by rw [decide_eq_false_iff_not]; omega
    have z5 : wrap64 (1048576 - (N : Int)) = 1048576 - (N : Int) := wr_in _ (by omega)
    obtain ⟨q, hq⟩ : ∃ q : Nat, 1048576 - (N : Int) = (q : Int) := ⟨1048576 - N, by omega⟩
    rw [hq] at z1 z5
    go_enter Tryz.func23, Tryz.ntmps23
    go_wp2_with fail
    go_loopw [1, 5] (fun t1 t5 wr => ∃ k r : Nat, k ≤ N ∧ t5 = .int .i64 (k : Int) ∧ t1 = .int .i64 (r : Int) ∧ r ≤ q ∧ (∀ j, j < k → (ss.getD j ⟨#[]⟩).size ≤ q) ∧ w = wr) (fun _ t5 _ => N - (intOf t5).toNat)
    case atStart => exact ⟨0, q, Nat.zero_le _, rfl, by first | rfl | rw [z5], Nat.le_refl _, fun j hj => absurd hj (Nat.not_lt_zero j), rfl⟩
    case round =>
      obtain ⟨k, r, hk, rfl, rfl, hr, hall, rfl⟩ := hrel
      by_cases hlt : k < N
      · have y1 : decide ((k : Int) < (N : Int)) = true := by simp; omega
        have hx0 : (0 : Int) ≤ (k : Int) := Int.natCast_nonneg _
        have hx1 : (k : Int) < (N : Int) := by omega
        obtain ⟨b, off, rfl, hbl, hcs⟩ := h.at_ (by omega)
        obtain ⟨s, hs⟩ : ∃ s, ss.getD k ⟨#[]⟩ = s := ⟨_, rfl⟩
        have hsz : s.size ≤ 9223372036854775807 := by rw [← hs]; exact hM k
        have hcx := hcs k (by omega)
        rw [hs] at hcx
        by_cases hc : s.size ≤ r
        · obtain ⟨r', hr'⟩ : ∃ r' : Nat, (r : Int) - (s.size : Int) = (r' : Int) := ⟨r - s.size, by omega⟩
          have y2 : wrap64 ((r : Int) - (s.size : Int)) = (r' : Int) := by rw [hr']; exact wr_in _ (by omega)
          have y3 : decide ((r' : Int) < 0) = false := by rw [decide_eq_false_iff_not]; omega
          have hall' : ∀ j, j < k + 1 → (ss.getD j ⟨#[]⟩).size ≤ q := fun j hj => by
            by_cases hjk : j < k
            · exact hall j hjk
            · obtain rfl : j = k := by omega
              rw [hs]; omega
          clear hall hcs
          go_wp2_with fail
          go_roundw
          case rel => exact ⟨k + 1, r', hlt, by go_num, rfl, by omega, hall', by first | trivial | rfl⟩
          case measure => simp [intOf]; omega
        · obtain ⟨v, hv⟩ : ∃ v : Int, (r : Int) - (s.size : Int) = v := ⟨_, rfl⟩
          have y2 : wrap64 ((r : Int) - (s.size : Int)) = v := by rw [hv]; exact wr_in _ (by omega)
          have y3 : decide (v < 0) = true := by rw [decide_eq_true_eq]; omega
          clear hall hcs
          go_wp2_with fail
          go_ret
          exact ⟨_, rfl, fun hh => absurd hh (by decide), by decide, rfl⟩
      · obtain rfl : k = N := by omega
        have y1 : decide ((k : Int) < (k : Int)) = false := by simp
        have HS : Hid (SmallS ss) := by
          refine ⟨by omega, fun j => ?_⟩
          by_cases hj : j < k
          · have := hall j hj; omega
          · rw [getD_out ss j (by omega)]; exact Nat.zero_le _
        clear hall
        go_wp2_with fail
        go_ret
        exact ⟨_, rfl, fun _ => HS.out, by omega, rfl⟩
set_option maxRecDepth 100000 in
set_option maxHeartbeats 1000000 in
theorem szPool_le (n : Int) (a : Option Addr) (ss : List ByteArray) (c : Nat) (w : World) (h : RArg a ss w) (hN : ss.length ≤ maxLen) (hM : ∀ j, (ss.getD j ⟨#[]⟩).size ≤ maxLen) :
    Calls Tryz.prog 6 #[.agg #[.int .i64 n, .slice a ss.length c], .int .i64 1048576] w fun e w' => ∃ r : Int, e = .returned (.int .i64 r) ∧ Hid (0 ≤ r → SmallS ss) ∧ r ≤ 1048576 ∧ Below w.heap.size w w' := by
  have hb0 : Below w.heap.size w (w.alloc (.cells #[.int .i64 n, .slice a ss.length c] 24)) := (Below.refl _ _).alloc (Nat.le_refl _) _
  have HS : Hid (∀ w', RArg a ss w' → Calls Tryz.prog 23 #[.slice a ss.length c, .int .i64 1048576] w' fun e w'' => ∃ r : Int, e = .returned (.int .i64 r) ∧ Hid (0 ≤ r → SmallS ss) ∧ r ≤ 1048576 ∧ w' = w'') := fun w' h' => szStringS_le a ss c w' h' hN hM
  have h1 := h.below hb0
  go_enter Tryz.func6, Tryz.ntmps6
  go_wp2_with fail
  refine (HS.out _ h1).mono ?_
  rintro e w1 ⟨r, rfl, HR, hrl, rfl⟩
  by_cases hr : r < 0
  · have z1 : decide (r < 0) = true := decide_eq_true hr
    go_wp2_with fail
    go_ret
    exact ⟨_, rfl, fun hh => absurd hh (by decide), by decide, hb0⟩
  · have z1 : decide (r < 0) = false := decide_eq_false hr
    go_wp2_with fail
    go_ret
    exact ⟨_, rfl, HR, hrl, hb0⟩

end Go.Proofs.YtgicihmdcnelaaaGreatDoor
namespace Go.Proofs.YtgicihmdcnelaaaGreatDoor
open Go.RowKit Go.Proofs.Sha

set_option maxRecDepth 100000 in
set_option maxHeartbeats 1000000 in
theorem toPairS_row (a : Option Addr) (ps : List PairT) (c : Nat) (w : World) (h : PArg a ps w) :
    Calls Tryz.prog 10 #[.slice a ps.length c] w fun e w' => ∃ g, e = .returned (.slice (some ⟨g, 0, none⟩) ps.length ps.length) ∧ Row w' w.heap.size g (ps.length * 2) (ps.length * 2) (flatP ps) ∧ Below w.heap.size w w' := by
  have hn := h.le
  have hmk := make25 ps.length hn
  obtain ⟨N, hN⟩ : ∃ N, ps.length = N := ⟨_, rfl⟩
  have hrow0 : Row (w.alloc (.cells (flatP (List.replicate ps.length noPair)).toArray 60)) w.heap.size w.heap.size (N * 2) (N * 2) (flatP (partP ps 0)) := by
    have hl : (flatP (List.replicate ps.length noPair)).toArray.size = N * 2 := by rw [List.size_toArray, flatP_len, List.length_replicate, hN]
    have := Row.of_block (Nat.le_refl w.heap.size) (heap_alloc_new w (.cells (flatP (List.replicate ps.length noPair)).toArray 60)) (N * 2) (by rw [hl]; exact Nat.le_refl _) (.inl rfl)
    rw [hl] at this
    have e : (flatP (List.replicate ps.length noPair)).toArray.toList.take (N * 2) = flatP (partP ps 0) := by
      rw [partP_zero, List.toList_toArray, List.take_of_length_le (by rw [flatP_len, List.length_replicate, hN]; exact Nat.le_refl _)]
    rw [e] at this
    exact this
  have hb0 : Below w.heap.size w (w.alloc (.cells (flatP (List.replicate ps.length noPair)).toArray 60)) := (Below.refl _ _).alloc (Nat.le_refl _) _
  obtain ⟨o, ho⟩ : ∃ o, (.cells (flatP (List.replicate ps.length noPair)).toArray 60 : Obj) = o := ⟨_, rfl⟩
  rw [ho] at hrow0 hb0 hmk
  clear ho
  rw [hN] at hmk hn ⊢
  have hNl : Hid (ps.length = N) := hN
  clear hN
  go_enter Tryz.func10, Tryz.ntmps10
  go_wp2_with fail
  obtain ⟨g, hg⟩ : ∃ g, w.heap.size = g := ⟨_, rfl⟩
  rw [hg] at hrow0 hb0 ⊢
  generalize w.alloc o = W0 at hrow0 hb0 ⊢
  go_loopw [4] (fun t wr => ∃ k : Nat, k ≤ N ∧ t = .int .i64 (k : Int) ∧ Row wr g g (N * 2) (N * 2) (flatP (partP ps k)) ∧ Below g w wr) (fun t _ => N - (intOf t).toNat)
  case atStart => exact ⟨0, Nat.zero_le _, rfl, hrow0, hb0⟩
  case round =>
    clear hrow0 hb0 hmk
    obtain ⟨k, hk, rfl, hrow, hbel⟩ := hrel
    by_cases hlt : k < N
    · have z1 : decide ((k : Int) < (N : Int)) = true := by simp; omega
      have hx0 : (0 : Int) ≤ (k : Int) := Int.natCast_nonneg _
      have hx1 : (k : Int) < (N : Int) := by omega
      obtain ⟨b, off, rfl, hbl, hc⟩ := (h.below (by rw [hg]; exact hbel)).at_ (by rw [hNl.out]; omega)
      obtain ⟨hc1, hc2⟩ := hc k (by rw [hNl.out]; exact hlt)
      have hbg : b < w.heap.size := by
        obtain ⟨b', off', he, hb', _⟩ := h.at_ (by rw [hNl.out]; omega)
        obtain ⟨rfl, rfl⟩ : b = b' ∧ off = off' := by simpa using he
        exact hb'
      have hkl : k < ps.length := by rw [hNl.out]; exact hlt
      have hstep := flatP_set (partP ps k) k (ps.getD k noPair).1 (ps.getD k noPair).2 (by rw [partP_len ps k (by omega)]; exact hkl)
      rw [show ((ps.getD k noPair).1, (ps.getD k noPair).2) = ps.getD k noPair from rfl, partP_set ps k hkl] at hstep
      generalize (ps.getD k noPair).1 = pk at hc1 hstep
      generalize (ps.getD k noPair).2 = pv at hc2 hstep
      have hstep' : Hid (((flatP (partP ps k)).set (k * 2) (.string pk)).set (k * 2 + 1) (.string pv) = flatP (partP ps (k + 1))) := hstep
      have hgl := hrow.lt
      have HT := fun w' => toPair_any pk pv w'
      have hset := fun w' (hr : Row w' g g (N * 2) (N * 2) (flatP (partP ps k))) => (hr.set (k * 2) (by omega) (.string pk)).set (k * 2 + 1) (by omega) (.string pv)
      rw [hstep] at hset
      replace hset : Hid _ := hset
      clear hc hstep hkl
      generalize flatP (partP ps k) = L at hrow hset
      go_wp2_with (go_at_call 34; refine (HT _).mono ?_; rintro e w1 ⟨rfl, hb1⟩; have hrow1 := hrow.below hb1; obtain ⟨y0, hy0⟩ := Option.isSome_iff_exists.1 (hrow1.room (k * 2) (by omega)); obtain ⟨y1, hy1⟩ := Option.isSome_iff_exists.1 (hrow1.room (k * 2 + 1) (by omega)); have hf0 := hrow1.free (k * 2) (by omega); have hf1 := hrow1.free (k * 2 + 1) (by omega))
      go_roundw
      case rel =>
        have hb1' : Below g w w1 := hbel.trans (hb1.mono (by omega))
        exact ⟨k + 1, hlt, by go_num, hset.out _ hrow1, (hb1'.setCell (Nat.le_refl _) _).setCell (Nat.le_refl _) _⟩
      case measure => simp [intOf]; omega
    · obtain rfl : k = N := by omega
      have z1 : decide ((k : Int) < (k : Int)) = false := by simp
      have hall : partP ps k = ps := by rw [← hNl.out]; exact partP_all ps
      rw [hall] at hrow
      go_wp2_with fail
      go_ret
      exact ⟨g, rfl, by rw [hg]; exact hrow, by rw [hg]; exact hbel⟩
set_option maxRecDepth 100000 in
theorem markPool_s (M : Nat → ByteArray) (HM : Hid (MarkSaid M)) (base m c k0 : Nat) (n : Int) (a : Option Addr) (xs : List Value) (w : World) (h : SRow w base a m c xs) (h1 : 1 ≤ k0) (h2 : k0 + m ≤ 4000000) (hb : base ≤ w.heap.size) :
    Calls Tryz.prog 15 #[.agg #[.int .i64 n, .slice a m c], .int .i64 (k0 : Int)] w fun e w' => e = .returned (.int .i64 ((k0 + m : Nat) : Int)) ∧ SRow w' base a m c (marksV M k0 m) ∧ w.grownBy w' (if m = 0 then none else (Value.slice a m c).ownBlock) := by
  have hA : Below w.heap.size w (w.alloc (.cells #[.int .i64 n, .slice a m c] 28)) := (Below.refl _ _).alloc (Nat.le_refl _) _
  have HR2 : Hid (Calls Tryz.prog 42 #[.slice a m c, .int .i64 (k0 : Int)] (w.alloc (.cells #[.int .i64 n, .slice a m c] 28)) fun e w' => e = .returned (.int .i64 ((k0 + m : Nat) : Int)) ∧ SRow w' base a m c (marksV M k0 m) ∧ w.grownBy w' (if m = 0 then none else (Value.slice a m c).ownBlock)) := by
    refine (mark_s M HM base m c k0 a xs _ (h.below hA) h1 h2 (Nat.le_trans hb hA.size)).mono ?_
    rintro e w' ⟨rfl, q1, hg⟩
    exact ⟨rfl, q1, grownBy_trans (grownBy_of_below hA _) hg⟩
  obtain ⟨z, hz⟩ : ∃ z : Int, ((k0 + m : Nat) : Int) = z := ⟨_, rfl⟩
  rw [hz] at HR2 ⊢
  generalize (if m = 0 then none else (Value.slice a m c).ownBlock) = row at HR2 ⊢
  clear hz
  go_enter Tryz.func15, Tryz.ntmps15
  go_wp2_with (first | (go_at_call 42; refine HR2.out.mono ?_; rintro e w2 ⟨rfl, hs2, hg2⟩))
  go_ret
  exact ⟨rfl, hs2, hg2⟩
theorem sv_small (wd : Nat) (ss : List ByteArray) : ∀ (es ad0 ad : List ByteArray), es.foldl (svStep wd ss) (.go ad0) = .go ad → SmallE ad0 → (∀ e ∈ es, e.size ≤ 1048576) → SmallE ad
  | [], ad0, ad, h, h0, _ => by
    have : ad0 = ad := by injection h
    subst this
    exact h0
  | e :: es, ad0, ad, h, h0, hs => by
    rw [List.foldl_cons] at h
    have hes : ∀ x ∈ es, x.size ≤ 1048576 := fun x hx => hs x (List.mem_cons_of_mem _ hx)
    cases hf : fst2 wd ss ad0 (hashT wd e) with
    | some u =>
      rw [svStep_some hf] at h
      split at h
      · exact sv_small wd ss es ad0 ad h h0 hes
      · rw [sv_stuck wd ss es _ rfl] at h; cases h
    | none =>
      rw [svStep_none hf] at h
      split at h
      · rw [sv_stuck wd ss es _ rfl] at h; cases h
      · exact sv_small wd ss es _ ad h (h0.snoc (by omega) (hs e (List.mem_cons_self ..))) hes
theorem getD_app_small {ss ad : List ByteArray} {q : Nat} (h1 : ∀ j, (ss.getD j ⟨#[]⟩).size ≤ q) (h2 : ∀ j, (ad.getD j ⟨#[]⟩).size ≤ q) (j : Nat) : ((ss ++ ad).getD j ⟨#[]⟩).size ≤ q := by
  rw [List.getD_eq_getElem?_getD, List.getElem?_append]
  split
  · have := h1 j
    rw [List.getD_eq_getElem?_getD] at this
    exact this
  · have := h2 (j - ss.length)
    rw [List.getD_eq_getElem?_getD] at this
    exact this
/-- An answer's texts are small. -/
def SmallO (o : SvO) : Prop := o.xs.length ≤ 40000 ∧ ∀ j, (o.xs.getD j ⟨#[]⟩).size ≤ 1048576
theorem codeO_small (c : Int) : SmallO (codeO c) := ⟨Nat.zero_le _, fun _ => Nat.zero_le _⟩
theorem savO_small (wd : Nat) (ss : List ByteArray) (t : Tr PairT) (h1 : ss.length ≤ 20000) (h2 : ∀ j, (ss.getD j ⟨#[]⟩).size ≤ 1048576) : SmallO (savO wd ss t) := by
  unfold savO
  cases hR : svAll wd ss (encsT wd t) with
  | full => exact codeO_small 1
  | clash u e => exact ⟨by show ss.length ≤ _; omega, h2⟩
  | go ad =>
    have hs := sv_small wd ss (encsT wd t) [] ad hR ⟨Nat.zero_le _, fun _ => Nat.zero_le _⟩ (fun e he => by have := encsT_size wd t e he; omega)
    refine ⟨?_, getD_app_small h2 hs.2⟩
    show (ss ++ ad).length ≤ _
    rw [List.length_append]
    have := hs.1
    omega
theorem saveO_small (n : Int) (ss : List ByteArray) (ps : List PairT) (h2 : ∀ j, (ss.getD j ⟨#[]⟩).size ≤ 1048576) : SmallO (saveO n ss ps) := by
  unfold saveO
  split
  · rename_i hp
    have hp' : 1 ≤ n ∧ n ≤ 32 ∧ ss.length ≤ 20000 := of_decide_eq_true ((Bool.and_eq_true _ _).mp hp).1
    exact savO_small _ _ _ hp'.2.2 h2
  · exact codeO_small 1
end Go.Proofs.YtgicihmdcnelaaaGreatDoor
namespace Go.Proofs.YtgicihmdcnelaaaGreatDoor
open Go.RowKit Go.Proofs.Sha

end Go.Proofs.YtgicihmdcnelaaaGreatDoor
