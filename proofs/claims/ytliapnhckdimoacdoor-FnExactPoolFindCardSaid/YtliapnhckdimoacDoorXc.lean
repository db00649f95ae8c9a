import Derived.Test.YtliapnhckdimoacDoorXb
import Derived.Laws.MakeOwn
import Derived.Laws.OwnMore
import Derived.Deep.AppendLies
namespace Go.Proofs.YtliapnhckdimoacDoor
open Go.RowKit Go.Proofs.Sha

theorem P2.na4 {w : World} {ga gb : Nat} {n : Int} {a : Option Addr} {m c : Nat} {W : World} (h : P2 w ga gb n a m c W) (x y z u : Value) : ((((W.setCell ⟨gb, 0, none⟩ x).setCell ⟨gb, 1, none⟩ y).setCell ⟨gb, 2, none⟩ z).setCell ⟨gb, 3, none⟩ u).heap[ga]? = some (.cells #[.int .i64 n, .slice a m c] 35) := by
  have hge : ga + 1 ≤ gb := by have := h.nx; omega
  have hb : Below (ga + 1) W ((((W.setCell ⟨gb, 0, none⟩ x).setCell ⟨gb, 1, none⟩ y).setCell ⟨gb, 2, none⟩ z).setCell ⟨gb, 3, none⟩ u) := ((((Below.refl _ W).setCell hge _).setCell hge _).setCell hge _).setCell hge _
  exact (hb.block ga (by omega)).trans h.na
theorem hashT_hit (wd : Nat) (s hash : ByteArray) : decide (hashT wd s = hash) = decide ((sha (78 :: s.data.toList)).take wd = hash.data.toList) := by
  unfold hashT
  by_cases h : (sha (78 :: s.data.toList)).take wd = hash.data.toList
  · rw [decide_eq_true h, decide_eq_true]
    rw [h]
  · rw [decide_eq_false h, decide_eq_false]
    intro he
    apply h
    rw [← he]
theorem first_hash (wd : Nat) (ss : List ByteArray) (hash : ByteArray) : firstI (fun i => decide ((ss.map (hashT wd)).getD i ⟨#[]⟩ = hash)) ss.length = firstI (hitB wd ss hash) ss.length := by
  refine firstI_congr fun j hj => ?_
  have h1 : (ss.map (hashT wd)).getD j ⟨#[]⟩ = hashT wd (ss.getD j ⟨#[]⟩) := by
    rw [List.getD_eq_getElem?_getD, List.getElem?_map, List.getD_eq_getElem?_getD, List.getElem?_eq_getElem hj]
    rfl
  rw [h1, hitB, hashT_hit]

set_option maxRecDepth 100000 in
set_option maxHeartbeats 2000000 in
theorem pf_spec (HG : Hid DigSaid) (D : Dec) (n : Int) (HDc : Hid (∀ wd : Nat, (wd : Int) = n → 1 ≤ wd → wd ≤ 32 → DecSaid 62 wd D)) (a : Option Addr) (ss : List ByteArray) (c : Nat) (hash : ByteArray) (w : World) (h : SArg a ss w) (hq : Hid (∀ j, (ss.getD j ⟨#[]⟩).size ≤ 1048575)) :
    Calls Tryd.prog 12 #[.agg #[.int .i64 n, .slice a ss.length c], .string hash] w fun e w' => e = .returned (nodeT (pfR D n ss hash)) ∧ Below w.heap.size w w' := by
  have hle := h.le
  obtain ⟨b, hb⟩ : ∃ b, poolOk n ss.length = b := ⟨_, rfl⟩
  have HO : Hid (∀ w', Calls Tryd.prog 30 #[.agg #[.int .i64 n, .slice a ss.length c]] w' fun e w'' => e = .returned (.bool b) ∧ Below w'.heap.size w' w'') := fun w' => by rw [← hb]; exact poolOk_any n a ss.length c w' hle
  cases b with
  | false =>
    have hr : pfR D n ss hash = ((⟨#[]⟩, ⟨#[]⟩, ⟨#[]⟩, ⟨#[]⟩), 1) := by unfold pfR; rw [if_neg (fun hh => by rw [hb] at hh; cases hh.1)]
    rw [hr]
    clear hr hb
    go_enter Tryd.func12, Tryd.ntmps12
    go_wp2_with fail
    refine (HO.out _).mono ?_
    rintro e w1 ⟨rfl, hb1⟩
    have hS := (P2.mk0 w n a ss.length c).below hb1
    clear hb1
    obtain ⟨ga, hga⟩ : ∃ ga, w.heap.size = ga := ⟨_, rfl⟩
    obtain ⟨gb, hgb⟩ : ∃ gb, w.heap.size + 1 = gb := ⟨_, rfl⟩
    rw [hgb, hga]
    rw [hgb, hga] at hS
    clear hga hgb
    obtain ⟨c0, c1, c2, c3, f0, f1, f2, f3⟩ := hS.nb.at
    go_wp2_with fail
    exact retN Tryd.results12 rfl rfl rfl (hS.nb.all _ _ _ _) ⟨rfl, hS.fin _ _ _ _⟩
  | true =>
    by_cases hz : (hash.size : Int) = n
    · obtain ⟨wd, hwd⟩ : ∃ wd, hash.size = wd := ⟨_, rfl⟩
      rw [hwd] at hz
      subst hz
      have hpo : 1 ≤ wd ∧ wd ≤ 32 := by
        unfold poolOk at hb
        rw [decide_eq_true_eq] at hb
        omega
      obtain ⟨R, hR⟩ : ∃ R, pfR D (wd : Int) ss hash = R := ⟨_, rfl⟩
      have hr : foundR D ss (firstI (fun i => decide ((ss.map (hashT wd)).getD i ⟨#[]⟩ = hash)) ss.length) = R := by rw [first_hash, ← hR]; unfold pfR; rw [if_pos ⟨hb, by rw [hwd]⟩, Int.toNat_natCast]
      rw [hR]
      have HA : Hid (∀ w', SArg a ss w' → Calls Tryd.prog 32 #[.agg #[.int .i64 (wd : Int), .slice a ss.length c]] w' fun e w'' => ∃ g c', e = .returned (.slice (some ⟨g, 0, none⟩) ss.length c') ∧ Row w'' (w'.heap.size + 1) g ss.length c' ((ss.map (hashT wd)).map Value.string) ∧ Below w'.heap.size w' w'') := fun w' h' => hashes_any HG wd a ss c w' h' hq hpo.1 hpo.2
      have HF : Hid (∀ w' base g c', SArg a ss w' → Row w' base g ss.length c' ((ss.map (hashT wd)).map Value.string) → Calls Tryd.prog 31 #[.agg #[.int .i64 (wd : Int), .slice a ss.length c], .slice (some ⟨g, 0, none⟩) ss.length c', .string hash] w' fun e w'' => e = .returned (nodeT R) ∧ Below w'.heap.size w' w'') := fun w' base g c' h' hrow => by
        rw [← hr]
        refine lfind_any D wd (HDc.out wd rfl hpo.1 hpo.2) a ss c g c' (ss.map (hashT wd)) hash w' h' (by rw [List.length_map]) hrow.lt fun j hj => ?_
        rw [hrow.cell j hj, List.getElem?_map, List.getElem?_map, List.getD_eq_getElem?_getD, List.getElem?_map, List.getElem?_eq_getElem hj]
        rfl
      have z1 : ((hash.size : Int) != (wd : Int)) = false := by rw [hwd]; simp
      obtain ⟨⟨rk, rv, rl, rr⟩, rc⟩ := R
      unfold nodeT at HF
      clear hr hb hR HDc hwd HG
      go_enter Tryd.func12, Tryd.ntmps12
      go_wp2_with fail
      refine (HO.out _).mono ?_
      rintro e w1 ⟨rfl, hb1⟩
      have hS := (P2.mk0 w (wd : Int) a ss.length c).below hb1
      clear hb1
      obtain ⟨ga, hga⟩ : ∃ ga, w.heap.size = ga := ⟨_, rfl⟩
      obtain ⟨gb, hgb⟩ : ∃ gb, w.heap.size + 1 = gb := ⟨_, rfl⟩
      rw [hgb, hga]
      rw [hgb, hga] at hS
      clear hga hgb
      have d0 := Lib.cell_of_heap hS.na 0
      have d1 := Lib.cell_of_heap hS.na 1
      have hC : Hid (∀ W : World, W.heap[ga]? = some (.cells #[.int .i64 (wd : Int), .slice a ss.length c] 35) → W.cell? ⟨ga, 0, none⟩ = some (.int .i64 (wd : Int)) ∧ W.cell? ⟨ga, 1, none⟩ = some (.slice a ss.length c)) := fun W hW => ⟨Lib.cell_of_heap hW 0, Lib.cell_of_heap hW 1⟩
      go_upto_region 3 with fail
      go_region_held3 (fun w' => w'.cell? ⟨ga, 0, none⟩ = some (.int .i64 (wd : Int)) ∧ w'.cell? ⟨ga, 1, none⟩ = some (.slice a ss.length c)) (first | exact ⟨d0, d1⟩ | exact hC.out _ hS2.na | exact hC.out _ hS3.na | exact hC.out _ (hS3.na4 _ _ _ _)) (first | (go_at_call 32; refine (HA.out _ ((h.below hS.bw).below ((Below.refl w1.heap.size w1).drew))).mono ?_; rintro e w2 ⟨g, c', rfl, hrow, hb2⟩; have hS2 := hS.below ((Below.refl w1.heap.size w1).drew.trans hb2); clear hb2) | (go_at_call 31; refine (HF.out _ _ g c' (h.below hS2.bw) hrow).mono ?_; rintro e w3 ⟨rfl, hb3⟩; have hS3 := hS2.below hb3; clear hb3 hrow; obtain ⟨c0, c1, c2, c3, f0, f1, f2, f3⟩ := hS3.nb.at))
      go_wp2_with fail
      exact retN Tryd.results12 rfl rfl rfl (hS3.nb.all _ _ _ _) ⟨rfl, hS3.fin _ _ _ _⟩
    · have hr : pfR D n ss hash = ((⟨#[]⟩, ⟨#[]⟩, ⟨#[]⟩, ⟨#[]⟩), 1) := by unfold pfR; rw [if_neg (fun hh => hz hh.2)]
      rw [hr]
      clear hr hb
      have z1 : ((hash.size : Int) != n) = true := by rw [bne_iff_ne]; exact hz
      go_enter Tryd.func12, Tryd.ntmps12
      go_wp2_with fail
      refine (HO.out _).mono ?_
      rintro e w1 ⟨rfl, hb1⟩
      have hS := (P2.mk0 w n a ss.length c).below hb1
      clear hb1
      obtain ⟨ga, hga⟩ : ∃ ga, w.heap.size = ga := ⟨_, rfl⟩
      obtain ⟨gb, hgb⟩ : ∃ gb, w.heap.size + 1 = gb := ⟨_, rfl⟩
      rw [hgb, hga]
      rw [hgb, hga] at hS
      clear hga hgb
      obtain ⟨c0, c1, c2, c3, f0, f1, f2, f3⟩ := hS.nb.at
      have d0 := Lib.cell_of_heap hS.na 0
      have d1 := Lib.cell_of_heap hS.na 1
      go_wp2_with fail
      exact retN Tryd.results12 rfl rfl rfl (hS.nb.all _ _ _ _) ⟨rfl, hS.fin _ _ _ _⟩
end Go.Proofs.YtliapnhckdimoacDoor
namespace Go.Proofs.YtliapnhckdimoacDoor
open Go.RowKit Go.Proofs.Sha

/-- A slice of texts that was handed in, whatever its size. -/
structure RArg (a : Option Addr) (ss : List ByteArray) (w : World) : Prop where
  at_ : 0 < ss.length → ∃ b off : Nat, a = some ⟨b, off, none⟩ ∧ b < w.heap.size ∧ ∀ j, j < ss.length → w.cell? ⟨b, off + j, none⟩ = some (.string (ss.getD j ⟨#[]⟩))
theorem RArg.below {a : Option Addr} {ss : List ByteArray} {w w' : World} (h : RArg a ss w) (hb : Below w.heap.size w w') : RArg a ss w' := by
  refine ⟨fun hn => ?_⟩
  obtain ⟨b, off, ha, hlt, hc⟩ := h.at_ hn
  exact ⟨b, off, ha, Nat.lt_of_lt_of_le hlt hb.size, fun j hj => (hb.cell hlt).trans (hc j hj)⟩
/-- Within the law's bound. -/
def SmallS (ss : List ByteArray) : Prop := ss.length ≤ 1048576 ∧ ∀ j, (ss.getD j ⟨#[]⟩).size ≤ 1048575
theorem RArg.sarg {a : Option Addr} {ss : List ByteArray} {w : World} (h : RArg a ss w) (hs : SmallS ss) : SArg a ss w := ⟨hs.1, fun j => Nat.le_trans (hs.2 j) (by decide), h.at_⟩
theorem wr_in (n : Int) (h : -9223372036854775808 ≤ n ∧ n ≤ 9223372036854775807) : wrap64 n = n := by unfold wrap64; omega
theorem getD_out (ss : List ByteArray) (j : Nat) (h : ss.length ≤ j) : ss.getD j ⟨#[]⟩ = ⟨#[]⟩ := by
  rw [List.getD_eq_getElem?_getD, List.getElem?_eq_none h]; rfl
set_option maxRecDepth 100000 in
set_option maxHeartbeats 1000000 in
theorem szStringS_any (a : Option Addr) (ss : List ByteArray) (c : Nat) (w : World) (h : RArg a ss w) (hN : ss.length ≤ maxLen) (hM : ∀ j, (ss.getD j ⟨#[]⟩).size ≤ maxLen) :
    Calls Tryd.prog 29 #[.slice a ss.length c, .int .i64 1048576] w fun e w' => ∃ r : Int, e = .returned (.int .i64 r) ∧ Hid (0 ≤ r → SmallS ss) ∧ w = w' := by
  unfold maxLen at hN hM
  obtain ⟨N, hl⟩ : ∃ N, ss.length = N := ⟨_, rfl⟩
  rw [hl] at hN
  rw [hl]
  by_cases hx : 1048576 < N
  · have z1 : decide ((1048576 : Int) - (N : Int) < 0) = true := by rw [decide_eq_true_eq]; omega
    have z3 : (-9223372036854775808 : Int) ≤ 1048576 - (N : Int) := by omega
    have z4 : (1048576 : Int) - (N : Int) ≤ 9223372036854775807 := by omega
    have z5 : wrap64 (1048576 - (N : Int)) = 1048576 - (N : Int) := wr_in _ (by omega)
    go_enter Tryd.func29, Tryd.ntmps29
    go_wp2_with fail
    go_ret
    exact ⟨_, rfl, fun hh => absurd hh (by decide), rfl⟩
  · have z1 : decide ((1048576 : Int) - (N : Int) < 0) = false := by rw [decide_eq_false_iff_not]; omega
    have z5 : wrap64 (1048576 - (N : Int)) = 1048576 - (N : Int) := wr_in _ (by omega)
    obtain ⟨q, hq⟩ : ∃ q : Nat, 1048576 - (N : Int) = (q : Int) := ⟨1048576 - N, by omega⟩
    rw [hq] at z1 z5
    go_enter Tryd.func29, Tryd.ntmps29
    go_wp2_with fail
    go_loopw [1, 5] (fun t1 t5 wr => ∃ k r : Nat, k ≤ N ∧ t5 = .int .i64 (k : Int) ∧ t1 = .int .i64 (r : Int) ∧ r ≤ q ∧ (∀ j, j < k → (ss.getD j ⟨#[]⟩).size ≤ q) ∧ w = wr) (fun _ t5 _ => N - (intOf t5).toNat)
    case atStart => exact ⟨0, q, Nat.zero_le _, rfl, by first | rfl | rw [z5], Nat.le_refl _, fun j hj => absurd hj (Nat.not_lt_zero j), rfl⟩
    case round =>
      obtain ⟨k, r, hk, rfl, rfl, hr, hall, rfl⟩ := hrel
      by_cases hlt : k < N
      · have y1 : decide ((k : Int) < (N : Int)) = true := by simp; omega
        have hx0 : (0 : Int) ≤ (k : Int) := Int.natCast_nonneg _
        have hx1 : (k : Int) < (N : Int) := by omega
        obtain ⟨b, off, rfl, hbl, hcs⟩ := h.at_ (by omega)
        obtain ⟨s, hs⟩ : ∃ s, ss.getD k ⟨#[]⟩ = s := ⟨_, rfl⟩
        have hsz : s.size ≤ 9223372036854775807 := by rw [← hs]; exact hM k
        have hcx := hcs k (by omega)
        rw [hs] at hcx
        by_cases hc : s.size ≤ r
        · obtain ⟨r', hr'⟩ : ∃ r' : Nat, (r : Int) - (s.size : Int) = (r' : Int) := ⟨r - s.size, by omega⟩
          have y2 : wrap64 ((r : Int) - (s.size : Int)) = (r' : Int) := by rw [hr']; exact wr_in _ (by omega)
          have y3 : decide ((r' : Int) < 0) = false := by rw [decide_eq_false_iff_not]; omega
          have hall' : ∀ j, j < k + 1 → (ss.getD j ⟨#[]⟩).size ≤ q := fun j hj => by
            by_cases hjk : j < k
            · exact hall j hjk
            · obtain rfl : j = k := by omega
              rw [hs]; omega
          clear hall hcs
          go_wp2_with fail
          go_roundw
          case rel => exact ⟨k + 1, r', hlt, by go_num, rfl, by omega, hall', by first | trivial | rfl⟩
          case measure => simp [intOf]; omega
        · obtain ⟨v, hv⟩ : ∃ v : Int, (r : Int) - (s.size : Int) = v := ⟨_, rfl⟩
          have y2 : wrap64 ((r : Int) - (s.size : Int)) = v := by rw [hv]; exact wr_in _ (by omega)
          have y3 : decide (v < 0) = true := by rw [decide_eq_true_eq]; omega
          clear hall hcs
          go_wp2_with fail
          go_ret
          exact ⟨_, rfl, fun hh => absurd hh (by decide), rfl⟩
      · obtain rfl : k = N := by omega
        have y1 : decide ((k : Int) < (k : Int)) = false := by simp
        have HS : Hid (SmallS ss) := by
          refine ⟨by omega, fun j => ?_⟩
          by_cases hj : j < k
          · have := hall j hj; omega
          · rw [getD_out ss j (by omega)]; exact Nat.zero_le _
        clear hall
        go_wp2_with fail
        go_ret
        exact ⟨_, rfl, fun _ => HS.out, rfl⟩
end Go.Proofs.YtliapnhckdimoacDoor
namespace Go.Proofs.YtliapnhckdimoacDoor
open Go.RowKit Go.Proofs.Sha

theorem make29 (n : Nat) (hn : n ≤ 1048576) (W : World) : (Instr.makeSlice 29 (.int .i64 (n : Int)) (.int .i64 (n : Int))).run Tryd.prog W = .ok (.slice (some ⟨W.heap.size, 0, none⟩) n n) (W.alloc (.cells ((List.replicate n ⟨#[]⟩).map Value.string).toArray 9)) := by
  obtain ⟨i0, hi, hz0, hz1, hz2⟩ := info_parts info9
  have e : madeCells (Value.string ⟨#[]⟩).cells (((n : Nat) : Int).toNat * i0.size) = ((List.replicate n ⟨#[]⟩).map Value.string).toArray := by
    rw [hz1, Int.toNat_natCast, Nat.mul_one]
    show madeCells #[.string ⟨#[]⟩] n = _
    rw [← Array.toList_inj, toList_madeCells_one, List.map_replicate]
  have h := run_make (P := Tryd.prog) W 29 9 i0 (.string ⟨#[]⟩) Tryd.underlying29 hi hz0 .i64 .i64 (n : Int) (n : Int) (by omega) (by omega) (by rw [hz2]; omega) (by omega)
  rw [e] at h
  simpa using h
theorem Row.sarg {w : World} {base g c : Nat} {ss : List ByteArray} (h : Row w base g ss.length c (ss.map Value.string)) (hs : SmallS ss) : SArg (some ⟨g, 0, none⟩) ss w := by
  refine RArg.sarg ⟨fun _ => ⟨g, 0, rfl, h.lt, fun j hj => ?_⟩⟩ hs
  rw [Nat.zero_add, h.cell j hj, List.getElem?_map, List.getElem?_eq_getElem hj, List.getD_eq_getElem?_getD, List.getElem?_eq_getElem hj]
  rfl

/-- The first k of xs, and zeros. -/
def partS (xs : List ByteArray) (k : Nat) : List ByteArray := xs.take k ++ List.replicate (xs.length - k) ⟨#[]⟩
theorem partS_zero (xs : List ByteArray) : partS xs 0 = List.replicate xs.length ⟨#[]⟩ := by simp [partS]
theorem partS_all (xs : List ByteArray) : partS xs xs.length = xs := by simp [partS]
theorem partS_len (xs : List ByteArray) (k : Nat) (h : k ≤ xs.length) : (partS xs k).length = xs.length := by simp [partS]; omega
theorem partS_set (xs : List ByteArray) (k : Nat) (h : k < xs.length) : ((partS xs k).map Value.string).set k (Value.string (xs.getD k ⟨#[]⟩)) = (partS xs (k + 1)).map Value.string := by
  rw [← List.map_set]
  congr 1
  have e : xs.take (k + 1) = xs.take k ++ [xs[k]] := by rw [List.take_add_one, List.getElem?_eq_getElem h]; rfl
  unfold partS
  rw [show xs.length - k = (xs.length - (k + 1)) + 1 by omega, List.replicate_succ, List.set_append_right _ _ (by rw [List.length_take]; omega), List.length_take, show k - min k xs.length = 0 by omega, List.set_cons_zero, e, List.getD_eq_getElem?_getD, List.getElem?_eq_getElem h, List.append_assoc]
  rfl

set_option maxRecDepth 100000 in
theorem toStringS_any (a : Option Addr) (xs : List ByteArray) (c : Nat) (w : World) (h : SArg a xs w) :
    Calls Tryd.prog 33 #[.slice a xs.length c] w fun e w' => ∃ g, e = .returned (.slice (some ⟨g, 0, none⟩) xs.length xs.length) ∧ Row w' w.heap.size g xs.length xs.length (xs.map Value.string) ∧ Below w.heap.size w w' := by
  have hn := h.le
  have hmk := make29 xs.length hn
  go_enter Tryd.func33, Tryd.ntmps33
  have hrow0 : Row (w.alloc (.cells ((List.replicate xs.length ⟨#[]⟩).map Value.string).toArray 9)) w.heap.size w.heap.size xs.length xs.length ((partS xs 0).map Value.string) := by
    have := Row.of_block (Nat.le_refl w.heap.size) (heap_alloc_new w (.cells ((List.replicate xs.length ⟨#[]⟩).map Value.string).toArray 9)) xs.length (by simp) (.inl rfl)
    simpa [partS_zero] using this
  have hb0 : Below w.heap.size w (w.alloc (.cells ((List.replicate xs.length ⟨#[]⟩).map Value.string).toArray 9)) := (Below.refl _ _).alloc (Nat.le_refl _) _
  obtain ⟨o, ho⟩ : ∃ o, (.cells ((List.replicate xs.length ⟨#[]⟩).map Value.string).toArray 9 : Obj) = o := ⟨_, rfl⟩
  rw [ho] at hrow0 hb0 hmk
  clear ho
  go_wp2_with fail
  go_loopw [4] (fun t wr => ∃ k : Nat, k ≤ xs.length ∧ t = .int .i64 (k : Int) ∧ Row wr w.heap.size w.heap.size xs.length xs.length ((partS xs k).map Value.string) ∧ Below w.heap.size w wr) (fun t _ => xs.length - (intOf t).toNat)
  case atStart => exact ⟨0, Nat.zero_le _, rfl, hrow0, hb0⟩
  case round =>
    clear hrow0 hb0 hmk
    obtain ⟨k, hk, rfl, hrow, hbel⟩ := hrel
    by_cases hlt : k < xs.length
    · have z1 : decide ((k : Int) < (xs.length : Int)) = true := by simp; omega
      obtain ⟨b, off, rfl, hbl, hc⟩ := (h.below hbel).at_ (by omega)
      have hcx := hc k hlt
      obtain ⟨y, hy⟩ := Option.isSome_iff_exists.1 (hrow.room k hlt)
      have hfr := hrow.free k hlt
      obtain ⟨x, hx⟩ : ∃ x, xs.getD k ⟨#[]⟩ = x := ⟨_, rfl⟩
      rw [hx] at hcx
      clear hc
      obtain ⟨g, hg⟩ : ∃ g, w.heap.size = g := ⟨_, rfl⟩
      rw [hg] at hy hfr hrow hbel ⊢
      go_wp2_with fail
      go_roundw
      case rel =>
        have e := hrow.set k hlt (Value.string (xs.getD k ⟨#[]⟩))
        rw [partS_set xs k hlt, hx] at e
        exact ⟨k + 1, hlt, rfl, e, hbel.setCell (Nat.le_refl _) _⟩
      case measure => simp [intOf]; omega
    · obtain rfl : k = xs.length := by omega
      have z1 : decide ((xs.length : Int) < (xs.length : Int)) = false := by simp
      rw [partS_all] at hrow
      go_wp2_with fail
      go_ret
      exact ⟨_, rfl, hrow, hbel⟩

set_option maxRecDepth 100000 in
theorem eqStringS_same (a a2 : Option Addr) (xs : List ByteArray) (c c2 : Nat) (w : World) (h : SArg a xs w) (h2 : SArg a2 xs w) :
    Calls Tryd.prog 37 #[.slice a xs.length c, .slice a2 xs.length c2] w fun e w' => e = .returned (.bool true) ∧ Below w.heap.size w w' := by
  have hn := h.le
  go_enter Tryd.func37, Tryd.ntmps37
  go_wp2_with fail
  go_loopw [5] (fun t wr => ∃ k : Nat, k ≤ xs.length ∧ t = .int .i64 (k : Int) ∧ Below w.heap.size w wr) (fun t _ => xs.length - (intOf t).toNat)
  case atStart => exact ⟨0, Nat.zero_le _, rfl, Below.refl _ _⟩
  case round =>
    obtain ⟨k, hk, rfl, hbel⟩ := hrel
    by_cases hlt : k < xs.length
    · have z1 : decide ((k : Int) < (xs.length : Int)) = true := by simp; omega
      obtain ⟨b, off, rfl, hbl, hc⟩ := (h.below hbel).at_ (by omega)
      obtain ⟨b2, off2, rfl, hbl2, hc2⟩ := (h2.below hbel).at_ (by omega)
      have hcx := hc k hlt
      have hcy := hc2 k hlt
      obtain ⟨x, hx⟩ : ∃ x, xs.getD k ⟨#[]⟩ = x := ⟨_, rfl⟩
      rw [hx] at hcx hcy
      have hq : (x.toList != x.toList) = false := by simp
      clear hc hc2 hx
      have b1 : (k : Int) < (xs.length : Int) := by omega
      go_wp2_with fail
      go_region_held3 (fun W => W.cell? ⟨b, off + k, none⟩ = some (.string x) ∧ W.cell? ⟨b2, off2 + k, none⟩ = some (.string x)) (exact ⟨hcx, hcy⟩) (fail)
      go_wp2_with fail
      go_roundw
      case rel => exact ⟨k + 1, hlt, rfl, hbel.drew⟩
      case measure => simp [intOf]; omega
    · obtain rfl : k = xs.length := by omega
      have z1 : decide ((xs.length : Int) < (xs.length : Int)) = false := by simp
      go_wp2_with fail
      go_ret
      exact ⟨rfl, hbel⟩
end Go.Proofs.YtliapnhckdimoacDoor
namespace Go.Proofs.YtliapnhckdimoacDoor
open Go.RowKit Go.Proofs.Sha

theorem pblk_below {g : Nat} {o : Obj} {w w' : World} (hb : Below w.heap.size w w') (h : w.heap[g]? = some o) : w'.heap[g]? = some o := (hb.block g (Array.getElem?_eq_some_iff.1 h).1).trans h
set_option maxRecDepth 100000 in
theorem retP {fn : Func} {R : Ending → World → Prop} {A : Act} {p : Tmp} {gb : Nat} {n : Int} {a : Option Addr} {m c : Nat} {W : World} (hres : fn.results = #[.cell p 35]) (hp : A.tmps.getD p undef = .pointer (some ⟨gb, 0, none⟩)) (hd : A.defers = []) (hn : W.heap[gb]? = some (.cells #[.int .i64 n, .slice a m c] 35))
    (h : R (.returned (.agg #[.int .i64 n, .slice a m c])) W) : bodyPost Tryd.prog fn R Exit.ret A W := by
  have c0 := Lib.cell_of_heap hn 0
  have c1 := Lib.cell_of_heap hn 1
  have hp' : A.tmps[p]?.getD undef = .pointer (some ⟨gb, 0, none⟩) := by simpa using hp
  refine bodyPost_ret (v := .agg #[.int .i64 n, .slice a m c]) ?_ hd h
  simp [results, hres, go_sem, asAddr, hp', c0, c1]
set_option maxRecDepth 100000 in
set_option maxHeartbeats 1000000 in
theorem szPool_any (n : Int) (a : Option Addr) (ss : List ByteArray) (c : Nat) (w : World) (h : RArg a ss w) (hN : ss.length ≤ maxLen) (hM : ∀ j, (ss.getD j ⟨#[]⟩).size ≤ maxLen) :
    Calls Tryd.prog 11 #[.agg #[.int .i64 n, .slice a ss.length c], .int .i64 1048576] w fun e w' => ∃ r : Int, e = .returned (.int .i64 r) ∧ Hid (0 ≤ r → SmallS ss) ∧ Below w.heap.size w w' := by
  have hb0 : Below w.heap.size w (w.alloc (.cells #[.int .i64 n, .slice a ss.length c] 31)) := (Below.refl _ _).alloc (Nat.le_refl _) _
  have HS : Hid (∀ w', RArg a ss w' → Calls Tryd.prog 29 #[.slice a ss.length c, .int .i64 1048576] w' fun e w'' => ∃ r : Int, e = .returned (.int .i64 r) ∧ Hid (0 ≤ r → SmallS ss) ∧ w' = w'') := fun w' h' => szStringS_any a ss c w' h' hN hM
  have h1 := h.below hb0
  go_enter Tryd.func11, Tryd.ntmps11
  go_wp2_with fail
  refine (HS.out _ h1).mono ?_
  rintro e w1 ⟨r, rfl, HR, rfl⟩
  by_cases hr : r < 0
  · have z1 : decide (r < 0) = true := decide_eq_true hr
    go_wp2_with fail
    go_ret
    exact ⟨_, rfl, fun hh => absurd hh (by decide), hb0⟩
  · have z1 : decide (r < 0) = false := decide_eq_false hr
    go_wp2_with fail
    go_ret
    exact ⟨_, rfl, HR, hb0⟩

set_option maxRecDepth 100000 in
set_option maxHeartbeats 1000000 in
theorem toPool_any (n : Int) (a : Option Addr) (ss : List ByteArray) (c : Nat) (w : World) (h : SArg a ss w) (hs : Hid (SmallS ss)) :
    Calls Tryd.prog 13 #[.agg #[.int .i64 n, .slice a ss.length c]] w fun e w' => ∃ g, e = .returned (.agg #[.int .i64 n, .slice (some ⟨g, 0, none⟩) ss.length ss.length]) ∧ SArg (some ⟨g, 0, none⟩) ss w' ∧ Below w.heap.size w w' := by
  have HT : Hid (∀ w', SArg a ss w' → Calls Tryd.prog 33 #[.slice a ss.length c] w' fun e w'' => ∃ g, e = .returned (.slice (some ⟨g, 0, none⟩) ss.length ss.length) ∧ Row w'' w'.heap.size g ss.length ss.length (ss.map Value.string) ∧ Below w'.heap.size w' w'') := fun w' h' => toStringS_any a ss c w' h'
  go_enter Tryd.func13, Tryd.ntmps13
  obtain ⟨o1, ho1⟩ : ∃ o : Obj, .cells #[.int .i64 n, .slice a ss.length c] 31 = o := ⟨_, rfl⟩
  have hW : Below w.heap.size w (((w.alloc o1).alloc (.cells #[.int .i64 0, .slice none 0 0] 35)).alloc (.cells #[.int .i64 n, .slice none 0 0] 35)) := ((((Below.refl _ w).alloc (Nat.le_refl _) _).alloc (by simp) _).alloc (by simp; omega) _)
  have m2 := heap_alloc_new ((w.alloc o1).alloc (.cells #[.int .i64 0, .slice none 0 0] 35)) (.cells #[.int .i64 n, .slice none 0 0] 35)
  have m1 := pblk_below ((Below.refl _ _).alloc (Nat.le_refl _) (.cells #[.int .i64 n, .slice none 0 0] 35)) (heap_alloc_new (w.alloc o1) (.cells #[.int .i64 0, .slice none 0 0] 35))
  have hsz3 : (((w.alloc o1).alloc (.cells #[.int .i64 0, .slice none 0 0] 35)).alloc (.cells #[.int .i64 n, .slice none 0 0] 35)).heap.size = w.heap.size + 3 := by simp
  rw [World.size_alloc] at m1
  rw [World.size_alloc, World.size_alloc] at m2
  subst ho1
  go_wp2_with fail
  refine (HT.out _ (h.below hW)).mono ?_
  rintro e w1 ⟨g, rfl, hrow, hb1⟩
  have n1 := pblk_below hb1 m1
  have n2 := pblk_below hb1 m2
  have hge := hrow.ge
  have hB1 := hW.trans (hb1.mono hW.size)
  rw [hsz3] at hge
  replace hrow := hrow.mono (Nat.zero_le _)
  clear hb1 m1 m2 hW hsz3
  obtain ⟨g1, hg1⟩ : ∃ g1, w.heap.size + 1 = g1 := ⟨_, rfl⟩
  obtain ⟨g2, hg2⟩ : ∃ g2, w.heap.size + 1 + 1 = g2 := ⟨_, rfl⟩
  rw [hg1] at n1
  rw [hg2] at n2
  rw [hg2, hg1]
  have hle1 : w.heap.size ≤ g1 := by omega
  have hle2 : w.heap.size ≤ g2 := by omega
  have hne1 : g1 ≠ g := by omega
  have hne2 : g2 ≠ g := by omega
  have hne : g2 ≠ g1 := by omega
  clear hge hg1 hg2
  have c0 := Lib.cell_of_heap n2 0
  have c1 := Lib.cell_of_heap n2 1
  have fr2 : ∀ j, w1.frozen? ⟨g2, j, none⟩ = false := fun j => by rw [World.frozen?, n2]; rfl
  have f1 := fr2 1
  obtain ⟨W, hWW⟩ : ∃ W, w1.setCell ⟨g2, 1, none⟩ (.slice (some ⟨g, 0, none⟩) ss.length ss.length) = W := ⟨_, rfl⟩
  have p2 : W.heap[g2]? = some (.cells #[.int .i64 n, .slice (some ⟨g, 0, none⟩) ss.length ss.length] 35) := by rw [← hWW]; exact heap_setCell_same _ g2 1 _ 35 _ n2
  have p1 : W.heap[g1]? = some (.cells #[.int .i64 0, .slice none 0 0] 35) := by
    rw [← hWW]
    exact ((grownBy_setCell _ _ _ _).block g1 (Array.getElem?_eq_some_iff.1 n1).1 (fun e => hne (Option.some.inj e).symm)).trans n1
  have hrW : Row W 0 g ss.length ss.length (ss.map Value.string) := by rw [← hWW]; exact hrow.kept (grownBy_setCell _ _ _ _) (fun e => hne2 (Option.some.inj e).symm)
  have hBW : Below w.heap.size w W := by rw [← hWW]; exact hB1.setCell hle2 _
  go_upto_region 4 with fail
  clear hWW n1 n2 c0 c1 f1 fr2 hrow hB1
  have c0 := Lib.cell_of_heap p2 0
  have c1 := Lib.cell_of_heap p2 1
  have e0 := Lib.cell_of_heap p1 0
  have e1 := Lib.cell_of_heap p1 1
  have fr1 : ∀ j, W.frozen? ⟨g1, j, none⟩ = false := fun j => by rw [World.frozen?, p1]; rfl
  have f0 := fr1 0
  have f1 := fr1 1
  go_wp2_with fail
  have q1 := heap_setCell_same _ g1 1 _ 35 (.slice (some ⟨g, 0, none⟩) ss.length ss.length) (heap_setCell_same _ g1 0 _ 35 (.int .i64 n) p1)
  refine retP Tryd.results13 rfl rfl q1 ⟨g, rfl, Row.sarg ((hrW.kept (grownBy_setCell _ _ _ _) (fun e => hne1 (Option.some.inj e).symm)).kept (grownBy_setCell _ _ _ _) (fun e => hne1 (Option.some.inj e).symm)) hs.out, (hBW.setCell hle1 _).setCell hle1 _⟩
set_option maxRecDepth 100000 in
set_option maxHeartbeats 1000000 in
theorem eqPool_same (n : Int) (a a2 : Option Addr) (ss : List ByteArray) (c c2 : Nat) (w : World) (h : SArg a ss w) (h2 : SArg a2 ss w) :
    Calls Tryd.prog 16 #[.agg #[.int .i64 n, .slice a ss.length c], .agg #[.int .i64 n, .slice a2 ss.length c2]] w fun e w' => e = .returned (.bool true) ∧ Below w.heap.size w w' := by
  have HT : Hid (∀ w', SArg a ss w' → SArg a2 ss w' → Calls Tryd.prog 37 #[.slice a ss.length c, .slice a2 ss.length c2] w' fun e w'' => e = .returned (.bool true) ∧ Below w'.heap.size w' w'') := fun w' h' h2' => eqStringS_same a a2 ss c c2 w' h' h2'
  have z : (n != n) = false := by simp
  go_enter Tryd.func16, Tryd.ntmps16
  have hb0 : Below w.heap.size w ((w.alloc (.cells #[.int .i64 n, .slice a ss.length c] 35)).alloc (.cells #[.int .i64 n, .slice a2 ss.length c2] 35)) := ((Below.refl _ w).alloc (Nat.le_refl _) _).alloc (by simp) _
  go_wp2_with fail
  refine (HT.out _ (h.below hb0) (h2.below hb0)).mono ?_
  rintro e w1 ⟨rfl, hb1⟩
  have hB1 := hb0.trans (hb1.mono hb0.size)
  go_wp2_with fail
  go_ret
  exact ⟨rfl, hB1⟩
set_option maxRecDepth 100000 in
set_option maxHeartbeats 1000000 in
theorem eqNode_same (k v l r : ByteArray) (w : World) :
    Calls Tryd.prog 15 #[.agg #[.string k, .string v, .string l, .string r], .agg #[.string k, .string v, .string l, .string r]] w fun e w' => e = .returned (.bool true) ∧ Below w.heap.size w w' := by
  have y : ∀ t : ByteArray, (t.toList != t.toList) = false := fun t => by simp
  have yk := y k
  have yv := y v
  have yl := y l
  have yr := y r
  go_enter Tryd.func15, Tryd.ntmps15
  go_wp2_with fail
  go_ret
  exact ⟨rfl, ((Below.refl _ w).alloc (Nat.le_refl _) _).alloc (by simp) _⟩
end Go.Proofs.YtliapnhckdimoacDoor
namespace Go.Proofs.YtliapnhckdimoacDoor
open Go.RowKit Go.Proofs.Sha

theorem own_cells {w : World} {base g n : Nat} {v : Value} {xs : List Value} (h : w.ownsRow base 9 1 v n xs) (hv : v.ownBlock = some g) : base ≤ g ∧ g < w.heap.size ∧ ∃ cur, w.heap[g]? = some (.cells cur 9 (0, 0)) := by
  rcases h.2 with ⟨rfl, _⟩ | ⟨g', cap, cur, rfl, hb, hg, _⟩
  · cases hv
  · obtain rfl : g' = g := Option.some.inj hv
    exact ⟨hb, (Array.getElem?_eq_some_iff.1 hg).1, cur, hg⟩
theorem own_kept {w w' : World} {base n : Nat} {v : Value} {xs : List Value} (h : w.ownsRow base 9 1 v n xs) (hk : ∀ g, v.ownBlock = some g → g < w.heap.size → w'.heap[g]? = w.heap[g]?) : w'.ownsRow base 9 1 v n xs := by
  refine ⟨h.1, ?_⟩
  rcases h.2 with ⟨h1, h2⟩ | ⟨g, cap, cur, hv, hb, hg, rest⟩
  · exact .inl ⟨h1, h2⟩
  · exact .inr ⟨g, cap, cur, hv, hb, (hk g (by rw [hv]; rfl) (Array.getElem?_eq_some_iff.1 hg).1).trans hg, rest⟩
theorem own_sarg {w : World} {base n c : Nat} {a : Option Addr} {ss : List ByteArray} (h : w.ownsRow base 9 1 (.slice a ss.length c) n (ss.map Value.string)) (hl : ss.length ≤ 1048576) (hs : ∀ j, (ss.getD j ⟨#[]⟩).size ≤ 1048576) : SArg a ss w := by
  refine ⟨hl, hs, fun hn => ?_⟩
  rcases h.2 with ⟨e, h0⟩ | ⟨g, cap, cur, e, hb, hg, q1, q2, q3, q4⟩
  · simp only [Value.slice.injEq] at e; omega
  · simp only [Value.slice.injEq] at e
    obtain ⟨rfl, e2, rfl⟩ := e
    refine ⟨g, 0, rfl, (Array.getElem?_eq_some_iff.1 hg).1, fun j hj => ?_⟩
    rw [Nat.zero_add, cell_of_row w g j cur 9 (0, 0) hg]
    have hx : (ss.map Value.string)[j]? = some (.string (ss.getD j ⟨#[]⟩)) := by
      rw [List.getElem?_map, List.getElem?_eq_getElem hj, List.getD_eq_getElem?_getD, List.getElem?_eq_getElem hj]; rfl
    rw [← q4, List.getElem?_take, if_pos (by omega)] at hx
    simpa using hx
theorem wrapI_in (x : Int) (h : -9223372036854775808 ≤ x ∧ x ≤ 9223372036854775807) : IntKind.i64.wrap x = x := by rw [IntKind.wrap_i64]; omega
theorem placesF_app (wd : Nat) (es : List ByteArray) (e : ByteArray) (k : Nat) (hk : k ≤ es.length) : placesF wd (es ++ [e]) k = placesF wd es k := by
  induction k with
  | zero => rfl
  | succ k ih =>
    rw [placesF, placesF, ih (by omega)]
    congr 2
    rw [List.getD_eq_getElem?_getD, List.getD_eq_getElem?_getD, List.getElem?_append_left (by omega)]
theorem placesF_snoc (wd : Nat) (es : List ByteArray) (e : ByteArray) : placesF wd (es ++ [e]) (es ++ [e]).length = addF (placesF wd es es.length) (cutW wd (sha (78 :: e.data.toList))) (es.length : Int) := by
  rw [List.length_append, List.length_singleton, placesF, placesF_app wd es e es.length (Nat.le_refl _)]
  congr 1
  rw [List.getD_eq_getElem?_getD, List.getElem?_append_right (Nat.le_refl _), Nat.sub_self]
  rfl
/-- A stock in its block: the encodings, and the places of their hashes. -/
structure StockAt (sb r base wd : Nat) (es : List ByteArray) (a : Option Addr) (c : Nat) (w : World) : Prop where
  blk : w.heap[sb]? = some (.cells #[.slice a es.length c, .int .i64 (wd : Int), .map (some r)] 105)
  own : w.ownsRow base 9 1 (.slice a es.length c) es.length (es.map Value.string)
  map : MapF (placesF wd es es.length) r w
  hl : sb < base
  hr : r < base
  hne : sb ≠ r
  hb : base ≤ w.heap.size
theorem StockAt.below {sb r base wd : Nat} {es : List ByteArray} {a : Option Addr} {c : Nat} {w w' : World} (h : StockAt sb r base wd es a c w) (hb : Below w.heap.size w w') : StockAt sb r base wd es a c w' := by
  have h1 := h.hl
  have h2 := h.hb
  exact ⟨(hb.block sb (by omega)).trans h.blk, own_kept h.own (fun g _ hg => hb.block g hg), h.map.below hb, h1, h.hr, h.hne, Nat.le_trans h2 hb.size⟩

set_option maxRecDepth 100000 in
theorem newStock_any (wd : Nat) (w : World) : Calls Tryd.prog 63 #[.int .i64 (wd : Int)] w fun e w' => ∃ sb r, e = .returned (.pointer (some ⟨sb, 0, none⟩)) ∧ StockAt sb r (sb + 1) wd [] none 0 w' ∧ Below w.heap.size w w' ∧ w.heap.size ≤ r ∧ r < sb := by
  go_enter Tryd.func63, Tryd.ntmps63
  go_wp2_with fail
  refine (newP_any (wd : Int) w).mono ?_
  rintro e w1 ⟨r, rfl, hr, hM, hb⟩
  have hrl : r < w1.heap.size := by
    obtain ⟨es, cl, hg, _, _⟩ := hM.is
    exact (Array.getElem?_eq_some_iff.1 hg).1
  have hbA : Below w1.heap.size w1 (w1.alloc (.cells #[.slice none 0 0, .int .i64 (wd : Int), .map (some r)] 105)) := (Below.refl _ _).alloc (Nat.le_refl _) _
  have nA := heap_alloc_new w1 (.cells #[.slice none 0 0, .int .i64 (wd : Int), .map (some r)] 105)
  go_wp2_with fail
  go_ret
  exact ⟨w1.heap.size, r, rfl, ⟨nA, World.ownsRow_nil _ _ _ _, hM.below hbA, by omega, by omega, by omega, by simp⟩, hb.trans (hbA.mono hb.size), hr, hrl⟩

set_option maxRecDepth 100000 in
set_option maxHeartbeats 1000000 in
theorem stockAdd_any {K : World → Prop} (HH : Hid (HashSaid K)) (keep : Hid (∀ w1 w2, K w1 → Below w1.heap.size w1 w2 → K w2)) (sb r base wd : Nat) (es : List ByteArray) (a : Option Addr) (c : Nat) (enc : ByteArray) (w : World) (h : StockAt sb r base wd es a c w) (hK : K w) (hs : enc.size ≤ 1048576) (h1 : wd ≤ 32) (hlen : es.length ≤ 1048576) :
    Calls Tryd.prog 64 #[.pointer (some ⟨sb, 0, none⟩), .string enc] w fun e w' => ∃ a' c', e = .returned (.tuple #[]) ∧ StockAt sb r base wd (es ++ [enc]) a' c' w' ∧ ∀ n, n ≤ sb → n ≤ r → Below n w w' := by
  obtain ⟨F, hF⟩ : ∃ F, placesF wd es es.length = F := ⟨_, rfl⟩
  have HF : Hid (placesF wd (es ++ [enc]) (es ++ [enc]).length = addF F (cutW wd (sha (78 :: enc.data.toList))) (es.length : Int)) := by
    show _ = _
    rw [placesF_snoc, hF]
  obtain ⟨i0, hi0, hz0, hz1, hz2⟩ := info_parts info9
  have hM := h.map
  rw [hF] at hM
  obtain ⟨m, hm⟩ : ∃ m, es.length = m := ⟨_, rfl⟩
  have HAdd : Hid (∀ w', Below w.heap.size w w' → Calls Tryd.prog 87 #[.agg #[.int .i64 (wd : Int), .map (some r)], .string enc, .int .i64 (m : Int)] w' fun e w'' => e = .returned (.tuple #[]) ∧ MapF (addF F (cutW wd (sha (78 :: enc.data.toList))) (m : Int)) r w'' ∧ w'.grownBy w'' (some r)) := fun w' hb => add_any HH wd r F enc _ w' (hM.below hb) (keep.out _ _ hK hb) keep hs h1
  have hblk := h.blk
  have hlb := h.hl
  have hrb := h.hr
  have hne := h.hne
  have hbs := h.hb
  have oA := h.own
  rw [hm] at hblk oA hlen
  have HX : Hid (∀ w5 g4 c4, w5.heap[sb]? = some (.cells #[.slice (some ⟨g4, 0, none⟩) (m + 1) c4, .int .i64 (wd : Int), .map (some r)] 105) →
      w5.ownsRow base 9 1 (.slice (some ⟨g4, 0, none⟩) (m + 1) c4) (m + 1) (es.map Value.string ++ [.string enc]) → MapF (addF F (cutW wd (sha (78 :: enc.data.toList))) (m : Int)) r w5 → base ≤ w5.heap.size →
      StockAt sb r base wd (es ++ [enc]) (some ⟨g4, 0, none⟩) c4 w5) := by
    intro w5 g4 c4 q1 q2 q3 q4
    have hl : (es ++ [enc]).length = m + 1 := by rw [List.length_append, hm]; rfl
    refine ⟨by rw [hl]; exact q1, by rw [hl, List.map_append]; exact q2, ?_, hlb, hrb, hne, q4⟩
    rw [HF.out, hm]; exact q3
  generalize addF F (cutW wd (sha (78 :: enc.data.toList))) (m : Int) = G at HX HAdd
  clear HF hM hF HH keep hK hs h1
  have HC : Hid (∀ W : World, W.heap[sb]? = w.heap[sb]? → W.cell? ⟨sb, 0, none⟩ = some (.slice a m c) ∧ W.cell? ⟨sb, 1, none⟩ = some (.int .i64 (wd : Int)) ∧ W.cell? ⟨sb, 2, none⟩ = some (.map (some r))) := fun W hW => by
    have hb := hW.trans hblk
    exact ⟨Lib.cell_of_heap hb 0, Lib.cell_of_heap hb 1, Lib.cell_of_heap hb 2⟩
  have hlt : sb < w.heap.size := by omega
  replace oA : Hid _ := oA
  replace hblk : Hid _ := hblk
  replace hi0 : Hid _ := hi0
  replace hz0 : Hid _ := hz0
  replace hz1 : Hid _ := hz1
  replace hz2 : Hid _ := hz2
  clear h hm
  go_enter Tryd.func64, Tryd.ntmps64
  go_wp2_with fail
  go_region_held3 (fun W => W.cell? ⟨sb, 0, none⟩ = some (.slice a m c) ∧ W.cell? ⟨sb, 1, none⟩ = some (.int .i64 (wd : Int)) ∧ W.cell? ⟨sb, 2, none⟩ = some (.map (some r))) (first | exact HC.out _ rfl | exact HC.out _ hlb1) (first | (go_at_call 87; refine (HAdd.out _ (Below.refl w.heap.size w).drew).mono ?_; rintro e w1 ⟨rfl, hM1, hg1'⟩; have hg1 : w.grownBy w1 (some r) := grownBy_trans (grownBy_of_below (Below.refl w.heap.size w).drew _) hg1'; have hlb1 : w1.heap[sb]? = w.heap[sb]? := hg1.block sb hlt (fun e => hne (Option.some.inj e)); clear hg1'))
  have hb1 := hlb1.trans hblk.out
  have oA1 : w1.ownsRow base 9 1 (.slice a m c) m (es.map Value.string) := own_kept oA.out (fun g hv hg => hg1.block g hg (fun e => by have := Option.some.inj e; have := (own_cells oA.out hv).1; omega))
  have hs1 := hg1.size
  have c3 := Lib.cell_of_heap hb1 0
  have hbA : Below w1.heap.size w1 (w1.alloc (.cells #[.string enc] 9)) := (Below.refl _ _).alloc (Nat.le_refl _) _
  clear HAdd HC
  go_wp2_with (first | (refine wpList_append_lies _ rfl (.tmp 19) (.tmp 21) 29 rfl base 9 i0 (.string ⟨#[]⟩) 1 16 Tryd.underlying29 hi0.out hz0.out hz1.out hz2.out rfl (by decide) _ m (es.map Value.string) rfl (oA1.alloc _) ⟨w1.heap.size, 0, none⟩ 1 1 [.string enc] rfl rfl (World.news_of_block (heap_alloc_new w1 _)) (by simp [Value.oneCell']) (by decide) (by unfold maxLen; omega) (by omega) (by simp; omega) (w1.heap.size + 1) (by simp) ?_; intro g4 c4 w4 hown4 hgrow4 hat4 hlt4; have hb4 := (hgrow4.block sb (by simp; omega) (fun e => by have := (own_cells oA1 e.symm).1; omega)).trans ((hbA.block sb (by omega)).trans hb1); have k3 := Lib.cell_of_heap hb4 0; have f3 : w4.frozen? ⟨sb, 0, none⟩ = false := by rw [World.frozen?, hb4]; rfl))
  go_end0
  obtain ⟨w5, hw5⟩ : ∃ w5, w5 = w4.setCell ⟨sb, 0, none⟩ (.slice (some ⟨g4, 0, none⟩) (m + 1) c4) := ⟨_, rfl⟩
  have hs4 := hgrow4.size
  simp at hs4
  have hg5 := grownBy_setCell w4 sb 0 (.slice (some ⟨g4, 0, none⟩) (m + 1) c4)
  have hs5 := hg5.size
  have hg4b : base ≤ g4 := (own_cells hown4 rfl).1
  rw [← hw5] at hg5 hs5
  refine ⟨some ⟨g4, 0, none⟩, c4, rfl, ?_, ?_⟩
  · rw [← hw5]
    refine HX.out w5 g4 c4 (by rw [hw5]; exact heap_setCell_same w4 sb 0 _ 105 _ hb4) (own_kept hown4 (fun g hv hg => by have e : g4 = g := Option.some.inj hv; exact hg5.block g hg (fun e' => by have := Option.some.inj e'; omega))) ?_ (by omega)
    have hMa := hM1.below hbA
    have hMb : MapF G r w4 := by
      obtain ⟨es', cl, hh, q1, q2⟩ := hMa.is
      exact ⟨es', cl, (hgrow4.block r (Array.getElem?_eq_some_iff.1 hh).1 (fun e => by have := (own_cells oA1 e.symm).1; omega)).trans hh, q1, q2⟩
    exact hMb.kept hg5 (fun e => hne e.symm)
  · rw [← hw5]
    intro n hn1 hn2
    have b1 : Below n w w1 := below_of_grown hg1 hn2 (by omega)
    have b2 : Below n w1 (w1.alloc (.cells #[.string enc] 9)) := hbA.mono (by omega)
    have b3 : Below n (w1.alloc (.cells #[.string enc] 9)) w4 := ⟨hgrow4.os, hgrow4.tape, hgrow4.output, hgrow4.size, fun k hk => hgrow4.block k (by simp; omega) (fun e => by have := (own_cells oA1 e.symm).1; omega)⟩
    have b4 : Below n w4 w5 := below_of_grown hg5 hn1 (by omega)
    exact ((b1.trans b2).trans b3).trans b4
end Go.Proofs.YtliapnhckdimoacDoor
namespace Go.Proofs.YtliapnhckdimoacDoor
open Go.RowKit Go.Proofs.Sha

set_option maxRecDepth 100000 in
set_option maxHeartbeats 1000000 in
theorem stockOf_any {K : World → Prop} (HH : Hid (HashSaid K)) (keep : Hid (∀ w1 w2, K w1 → Below w1.heap.size w1 w2 → K w2)) (wd : Nat) (a : Option Addr) (ss : List ByteArray) (c : Nat) (w : World) (h : SArg a ss w) (hK : K w) (h1 : wd ≤ 32) :
    Calls Tryd.prog 35 #[.agg #[.int .i64 (wd : Int), .slice a ss.length c]] w fun e w' => ∃ sb r a' c', e = .returned (.pointer (some ⟨sb, 0, none⟩)) ∧ StockAt sb r (sb + 1) wd ss a' c' w' ∧ Below w.heap.size w w' := by
  have hn := h.le
  have hbA : Below w.heap.size w (w.alloc (.cells #[.int .i64 (wd : Int), .slice a ss.length c] 35)) := (Below.refl _ _).alloc (Nat.le_refl _) _
  have nA := heap_alloc_new w (.cells #[.int .i64 (wd : Int), .slice a ss.length c] 35)
  obtain ⟨ga, hga⟩ : ∃ ga, w.heap.size = ga := ⟨_, rfl⟩
  rw [hga] at nA
  have hsA : (w.alloc (.cells #[.int .i64 (wd : Int), .slice a ss.length c] 35)).heap.size = ga + 1 := by simp; omega
  go_enter Tryd.func35, Tryd.ntmps35
  go_upto_region 1 with fail
  try rw [hga]
  generalize w.alloc (.cells #[.int .i64 (wd : Int), .slice a ss.length c] 35) = wa at hbA nA hsA ⊢
  have c0 := Lib.cell_of_heap nA 0
  go_upto_region 2 with (first | (go_at_call 63; refine (newStock_any wd _).mono ?_; rintro e w1 ⟨sb, r, rfl, hS, hb1, hr1, hr2⟩))
  have nA1 := (hb1.block ga (by omega)).trans nA
  have hbw := hbA.trans (hb1.mono hbA.size)
  have c1 := Lib.cell_of_heap nA1 1
  clear c0 hb1 nA
  go_wp2_with fail
  go_loopw [12] (fun t12 wr => ∃ (k : Nat) (a' : Option Addr) (c' : Nat), k ≤ ss.length ∧ t12 = .int .i64 (k : Int) ∧ StockAt sb r (sb + 1) wd (ss.take k) a' c' wr ∧ Below w.heap.size w wr) (fun t12 _ => ss.length - (intOf t12).toNat)
  case atStart => exact ⟨0, none, 0, Nat.zero_le _, rfl, hS, hbw⟩
  case round =>
    clear c1 nA1 hS hbw
    obtain ⟨k, a', c', hk, rfl, hSk, hbk⟩ := hrel
    by_cases hlt : k < ss.length
    · have z1 : decide ((k : Int) < (ss.length : Int)) = true := by simp; omega
      obtain ⟨b, off, rfl, hbl, hc⟩ := (h.below hbk).at_ (by omega)
      have hcx := hc k hlt
      have htk : ss.take (k + 1) = ss.take k ++ [ss.getD k ⟨#[]⟩] := by
        rw [List.take_add_one, List.getD_eq_getElem?_getD, List.getElem?_eq_getElem hlt]; rfl
      obtain ⟨s, hs⟩ : ∃ s, ss.getD k ⟨#[]⟩ = s := ⟨_, rfl⟩
      have hsz : s.size ≤ 1048576 := by rw [← hs]; exact h.sz k
      rw [hs] at hcx htk
      have HAdd : Hid (Calls Tryd.prog 64 #[.pointer (some ⟨sb, 0, none⟩), .string s] wr fun e w' => ∃ a'' c'', e = .returned (.tuple #[]) ∧ StockAt sb r (sb + 1) wd (ss.take k ++ [s]) a'' c'' w' ∧ ∀ n, n ≤ sb → n ≤ r → Below n wr w') := stockAdd_any HH keep sb r (sb + 1) wd (ss.take k) a' c' s wr hSk (keep.out _ _ hK hbk) hsz h1 (by rw [List.length_take]; omega)
      rw [← htk] at HAdd
      clear hc hs htk hSk
      have hx0 : (0 : Int) ≤ (k : Int) := Int.natCast_nonneg _
      have hx1 : (k : Int) < (ss.length : Int) := by omega
      go_wp2_with (first | (go_at_call 64; refine HAdd.out.mono ?_; rintro e w5 ⟨a5, c5, rfl, hS5, hb5⟩))
      have hb6 := hbk.trans (hb5 w.heap.size (by omega) (by omega))
      go_roundw
      case rel => exact ⟨k + 1, a5, c5, hlt, by go_num, hS5, hb6⟩
      case measure => simp [intOf]; omega
    · obtain rfl : k = ss.length := by omega
      have z1 : decide ((ss.length : Int) < (ss.length : Int)) = false := by simp
      rw [List.take_length] at hSk
      go_wp2_with fail
      go_ret
      exact ⟨sb, r, a', c', rfl, hSk, hbk⟩

/-- The encoding at a place that is found. -/
def encAt (es : List ByteArray) : Option Nat → ByteArray
  | none => ⟨#[]⟩
  | some i => es.getD i ⟨#[]⟩
set_option maxRecDepth 100000 in
set_option maxHeartbeats 1000000 in
theorem stockFirst_any (sb r base wd : Nat) (es : List ByteArray) (a : Option Addr) (c : Nat) (hash : ByteArray) (w : World) (h : StockAt sb r base wd es a c w) (hs : ∀ j, (es.getD j ⟨#[]⟩).size ≤ 1048576) (hl : es.length ≤ 1048576) (h1 : wd ≤ 32) (h2 : hash.size = wd) (fx : Option Nat) (hfx : firstI (hitB wd es hash) es.length = fx) :
    Calls Tryd.prog 65 #[.pointer (some ⟨sb, 0, none⟩), .string hash] w fun e w' => e = .returned (.tuple #[.string (encAt es fx), .bool fx.isSome]) ∧ Below w.heap.size w w' := by
  have hpl : placesF wd es es.length (cutW wd hash.data.toList) = fx.map fun i => (i : Int) := by
    rw [placesF_first, ← hfx, show (fun i => decide (keyW wd (es.getD i ⟨#[]⟩) = cutW wd hash.data.toList)) = hitB wd es hash from funext fun i => key_hit wd es hash h1 h2 i]
  have hlt : ∀ i, fx = some i → i < es.length := fun i hi => firstI_lt (hfx.trans hi)
  have hblk := h.blk
  have hM := h.map
  have hsa := own_sarg h.own hl hs
  have hbl := (Array.getElem?_eq_some_iff.1 hblk).1
  have HF := find_any wd r _ hash w hM h1 h2
  rw [hpl] at HF
  have c1 := Lib.cell_of_heap hblk 1
  have c2 := Lib.cell_of_heap hblk 2
  cases fx with
  | none =>
    have HF' : Hid (Calls Tryd.prog 88 #[.agg #[.int .i64 (wd : Int), .map (some r)], .string hash] w fun e w' => e = .returned (.tuple #[.int .i64 0, .bool false]) ∧ Below w.heap.size w w') := HF
    clear HF hpl hfx h hM hsa
    go_enter Tryd.func65, Tryd.ntmps65
    go_wp2_with (first | (go_at_call 88; refine HF'.out.mono ?_; rintro e w1 ⟨rfl, hb1⟩))
    go_ret2
    exact ⟨rfl, hb1⟩
  | some i =>
    have HF' : Hid (Calls Tryd.prog 88 #[.agg #[.int .i64 (wd : Int), .map (some r)], .string hash] w fun e w' => e = .returned (.tuple #[.int .i64 (i : Int), .bool true]) ∧ Below w.heap.size w w') := HF
    have hil := hlt i rfl
    obtain ⟨b, off, rfl, hbb, hcs⟩ := hsa.at_ (by omega)
    have hcx := hcs i hil
    have HE : Hid (encAt es (some i) = es.getD i ⟨#[]⟩) := rfl
    obtain ⟨x, hx⟩ : ∃ x, es.getD i ⟨#[]⟩ = x := ⟨_, rfl⟩
    rw [hx] at hcx HE
    obtain ⟨m, hm⟩ : ∃ m, es.length = m := ⟨_, rfl⟩
    rw [hm] at hblk
    have hx0 : (0 : Int) ≤ (i : Int) := Int.natCast_nonneg _
    have hx1 : (i : Int) < (m : Int) := by omega
    obtain ⟨y, hy⟩ : ∃ y, encAt es (some i) = y := ⟨_, rfl⟩
    have hyx : Hid (y = x) := by show y = x; rw [← hy]; exact HE.out
    rw [hy]
    clear HF hpl hfx h hM hcs hx hy HE
    go_enter Tryd.func65, Tryd.ntmps65
    go_wp2_with (first | (go_at_call 88; refine HF'.out.mono ?_; rintro e w1 ⟨rfl, hb1⟩; have hbk1 := (hb1.block sb hbl).trans hblk; have d0 := Lib.cell_of_heap hbk1 0; have d1 := (hb1.cell (p := ⟨b, off + i, none⟩) hbb).trans hcx))
    go_ret2
    exact ⟨by rw [hyx.out]; rfl, hb1⟩
set_option maxRecDepth 100000 in
set_option maxHeartbeats 1000000 in
theorem stockFind_any (D : Dec) (sb r base wd : Nat) (HD : Hid (DecSaid 66 wd D)) (es : List ByteArray) (a : Option Addr) (c : Nat) (hash : ByteArray) (w : World) (h : StockAt sb r base wd es a c w) (hs : ∀ j, (es.getD j ⟨#[]⟩).size ≤ 1048576) (hl : es.length ≤ 1048576) (h1 : wd ≤ 32) (h2 : hash.size = wd) :
    Calls Tryd.prog 36 #[.pointer (some ⟨sb, 0, none⟩), .string hash] w fun e w' => e = .returned (nodeT (foundR D es (firstI (hitB wd es hash) es.length))) ∧ Below w.heap.size w w' := by
  obtain ⟨fx, hfx⟩ : ∃ fx, firstI (hitB wd es hash) es.length = fx := ⟨_, rfl⟩
  rw [hfx]
  have HF : Hid (∀ w', Below w.heap.size w w' → Calls Tryd.prog 65 #[.pointer (some ⟨sb, 0, none⟩), .string hash] w' fun e w'' => e = .returned (.tuple #[.string (encAt es fx), .bool fx.isSome]) ∧ Below w'.heap.size w' w'') := fun w' hb => stockFirst_any sb r base wd es a c hash w' (h.below hb) hs hl h1 h2 fx hfx
  have hblk := h.blk
  have hbl := (Array.getElem?_eq_some_iff.1 hblk).1
  have hbA : Below w.heap.size w (w.alloc (.cells #[.string ⟨#[]⟩, .string ⟨#[]⟩, .string ⟨#[]⟩, .string ⟨#[]⟩] 26)) := (Below.refl _ _).alloc (Nat.le_refl _) _
  have nB : NBk w.heap.size ⟨#[]⟩ ⟨#[]⟩ ⟨#[]⟩ ⟨#[]⟩ (w.alloc (.cells #[.string ⟨#[]⟩, .string ⟨#[]⟩, .string ⟨#[]⟩, .string ⟨#[]⟩] 26)) := heap_alloc_new w _
  obtain ⟨gb, hgb⟩ : ∃ gb, w.heap.size = gb := ⟨_, rfl⟩
  rw [hgb] at nB
  have hfin : ∀ (W : World) (x y z u : ByteArray), Below w.heap.size w W → Below w.heap.size w ((((W.setCell ⟨gb, 0, none⟩ (.string x)).setCell ⟨gb, 1, none⟩ (.string y)).setCell ⟨gb, 2, none⟩ (.string z)).setCell ⟨gb, 3, none⟩ (.string u)) := fun W x y z u hW => by
    have hge : w.heap.size ≤ gb := by omega
    exact (((hW.setCell (p := ⟨gb, 0, none⟩) hge _).setCell (p := ⟨gb, 1, none⟩) hge _).setCell (p := ⟨gb, 2, none⟩) hge _).setCell (p := ⟨gb, 3, none⟩) hge _
  replace hfin : Hid _ := hfin
  cases fx with
  | none =>
    unfold foundR
    clear h hfx
    go_enter Tryd.func36, Tryd.ntmps36
    go_upto_region 1 with fail
    try rw [hgb]
    generalize w.alloc (.cells #[.string ⟨#[]⟩, .string ⟨#[]⟩, .string ⟨#[]⟩, .string ⟨#[]⟩] 26) = wa at hbA nB ⊢
    go_upto_region 3 with (first | (go_at_call 65; refine (HF.out _ hbA).mono ?_; rintro e w1 ⟨rfl, hb1⟩))
    have nB1 := nB.below hb1
    have hb2 := hbA.trans (hb1.mono hbA.size)
    obtain ⟨c0, c1, c2, c3, f0, f1, f2, f3⟩ := nB1.at
    go_wp2_with fail
    exact retN Tryd.results36 rfl rfl rfl (nB1.all _ _ _ _) ⟨rfl, hfin.out _ _ _ _ _ hb2⟩
  | some i =>
    have hsz : (es.getD i ⟨#[]⟩).size ≤ 1048576 := hs i
    have hfr : foundR D es (some i) = if D.ok (es.getD i ⟨#[]⟩) then ((D.k (es.getD i ⟨#[]⟩), D.v (es.getD i ⟨#[]⟩), D.l (es.getD i ⟨#[]⟩), D.r (es.getD i ⟨#[]⟩)), 0) else ((⟨#[]⟩, ⟨#[]⟩, ⟨#[]⟩, ⟨#[]⟩), 3) := rfl
    rw [hfr]
    have HF2 : Hid (∀ w', Below w.heap.size w w' → Calls Tryd.prog 65 #[.pointer (some ⟨sb, 0, none⟩), .string hash] w' fun e w'' => e = .returned (.tuple #[.string (es.getD i ⟨#[]⟩), .bool true]) ∧ Below w'.heap.size w' w'') := HF
    generalize es.getD i ⟨#[]⟩ = s at hsz HF2 ⊢
    have HDx : Hid (∀ w', Calls Tryd.prog 66 #[.string s, .int .i64 (wd : Int)] w' fun e w'' => e = .returned (.tuple #[.agg #[.string (D.k s), .string (D.v s), .string (D.l s), .string (D.r s)], .bool (D.ok s)]) ∧ Below w'.heap.size w' w'') := fun w' => HD.out s w' hsz
    clear hfr HF h hfx HD
    generalize D.k s = xk at HDx ⊢
    generalize D.v s = xv at HDx ⊢
    generalize D.l s = xl at HDx ⊢
    generalize D.r s = xr at HDx ⊢
    cases hok : D.ok s with
    | false =>
      rw [hok] at HDx
      rw [if_neg (by decide)]
      clear hok
      go_enter Tryd.func36, Tryd.ntmps36
      go_upto_region 1 with fail
      try rw [hgb]
      generalize w.alloc (.cells #[.string ⟨#[]⟩, .string ⟨#[]⟩, .string ⟨#[]⟩, .string ⟨#[]⟩] 26) = wa at hbA nB ⊢
      go_upto_region 4 with (first | (go_at_call 65; refine (HF2.out _ hbA).mono ?_; rintro e w1 ⟨rfl, hb1⟩))
      have nB1 := nB.below hb1
      have hb2 := hbA.trans (hb1.mono hbA.size)
      have d1 := Lib.cell_of_heap ((hb2.block sb hbl).trans hblk) 1
      go_upto_region 6 with (first | (go_at_call 66; refine (HDx.out _).mono ?_; rintro e w2 ⟨rfl, hb3⟩))
      have hb4 := hb2.trans (hb3.mono hb2.size)
      have al : Below w2.heap.size w2 (w2.alloc (.cells #[.string xk, .string xv, .string xl, .string xr] 26)) := (Below.refl _ _).alloc (Nat.le_refl _) _
      have nB2 := (nB1.below hb3).below al
      have hb5 := hb4.trans (al.mono hb4.size)
      generalize w2.alloc (.cells #[.string xk, .string xv, .string xl, .string xr] 26) = w3 at nB2 hb5 ⊢
      clear d1 al
      obtain ⟨c0, c1, c2, c3, f0, f1, f2, f3⟩ := nB2.at
      go_wp2_with fail
      exact retN Tryd.results36 rfl rfl rfl (nB2.all _ _ _ _) ⟨rfl, hfin.out _ _ _ _ _ hb5⟩
    | true =>
      rw [hok] at HDx
      rw [if_pos rfl]
      clear hok
      go_enter Tryd.func36, Tryd.ntmps36
      go_upto_region 1 with fail
      try rw [hgb]
      generalize w.alloc (.cells #[.string ⟨#[]⟩, .string ⟨#[]⟩, .string ⟨#[]⟩, .string ⟨#[]⟩] 26) = wa at hbA nB ⊢
      go_upto_region 4 with (first | (go_at_call 65; refine (HF2.out _ hbA).mono ?_; rintro e w1 ⟨rfl, hb1⟩))
      have nB1 := nB.below hb1
      have hb2 := hbA.trans (hb1.mono hbA.size)
      have d1 := Lib.cell_of_heap ((hb2.block sb hbl).trans hblk) 1
      go_upto_region 7 with (first | (go_at_call 66; refine (HDx.out _).mono ?_; rintro e w2 ⟨rfl, hb3⟩))
      have hb4 := hb2.trans (hb3.mono hb2.size)
      have al : Below w2.heap.size w2 (w2.alloc (.cells #[.string xk, .string xv, .string xl, .string xr] 26)) := (Below.refl _ _).alloc (Nat.le_refl _) _
      have nX : NBk w2.heap.size xk xv xl xr (w2.alloc (.cells #[.string xk, .string xv, .string xl, .string xr] 26)) := heap_alloc_new w2 _
      have nB2 := (nB1.below hb3).below al
      have hb5 := hb4.trans (al.mono hb4.size)
      obtain ⟨gx, hgx⟩ : ∃ gx, w2.heap.size = gx := ⟨_, rfl⟩
      rw [hgx] at nX
      try rw [hgx]
      generalize w2.alloc (.cells #[.string xk, .string xv, .string xl, .string xr] 26) = w3 at nB2 hb5 nX ⊢
      clear d1 al
      obtain ⟨e0, e1, e2, e3, _, _, _, _⟩ := nX.at
      obtain ⟨c0, c1, c2, c3, f0, f1, f2, f3⟩ := nB2.at
      go_wp2_with fail
      exact retN Tryd.results36 rfl rfl rfl (nB2.all _ _ _ _) ⟨rfl, hfin.out _ _ _ _ _ hb5⟩

set_option maxRecDepth 100000 in
set_option maxHeartbeats 1000000 in
theorem pf_impl {K : World → Prop} (HH : Hid (HashSaid K)) (keep : Hid (∀ w1 w2, K w1 → Below w1.heap.size w1 w2 → K w2)) (D : Dec) (n : Int) (HDc : Hid (∀ wd : Nat, (wd : Int) = n → 1 ≤ wd → wd ≤ 32 → DecSaid 66 wd D)) (a : Option Addr) (ss : List ByteArray) (c : Nat) (hash : ByteArray) (w : World) (h : SArg a ss w) (hK : K w) :
    Calls Tryd.prog 14 #[.agg #[.int .i64 n, .slice a ss.length c], .string hash] w fun e w' => e = .returned (nodeT (pfR D n ss hash)) ∧ Below w.heap.size w w' := by
  have hle := h.le
  obtain ⟨b, hb⟩ : ∃ b, poolOk n ss.length = b := ⟨_, rfl⟩
  have HO : Hid (∀ w', Calls Tryd.prog 34 #[.agg #[.int .i64 n, .slice a ss.length c]] w' fun e w'' => e = .returned (.bool b) ∧ Below w'.heap.size w' w'') := fun w' => by rw [← hb]; exact validPool_any n a ss.length c w' hle
  cases b with
  | false =>
    have hr : pfR D n ss hash = ((⟨#[]⟩, ⟨#[]⟩, ⟨#[]⟩, ⟨#[]⟩), 1) := by unfold pfR; rw [if_neg (fun hh => by rw [hb] at hh; cases hh.1)]
    rw [hr]
    clear hr hb
    go_enter Tryd.func14, Tryd.ntmps14
    go_wp2_with fail
    refine (HO.out _).mono ?_
    rintro e w1 ⟨rfl, hb1⟩
    have hS := (P2.mk0 w n a ss.length c).below hb1
    clear hb1
    obtain ⟨ga, hga⟩ : ∃ ga, w.heap.size = ga := ⟨_, rfl⟩
    obtain ⟨gb, hgb⟩ : ∃ gb, w.heap.size + 1 = gb := ⟨_, rfl⟩
    rw [hgb, hga]
    rw [hgb, hga] at hS
    clear hga hgb
    obtain ⟨c0, c1, c2, c3, f0, f1, f2, f3⟩ := hS.nb.at
    go_wp2_with fail
    exact retN Tryd.results14 rfl rfl rfl (hS.nb.all _ _ _ _) ⟨rfl, hS.fin _ _ _ _⟩
  | true =>
    by_cases hz : (hash.size : Int) = n
    · obtain ⟨wd, hwd⟩ : ∃ wd, hash.size = wd := ⟨_, rfl⟩
      rw [hwd] at hz
      subst hz
      have hpo : 1 ≤ wd ∧ wd ≤ 32 := by
        unfold poolOk at hb
        rw [decide_eq_true_eq] at hb
        omega
      have hr : pfR D (wd : Int) ss hash = foundR D ss (firstI (hitB wd ss hash) ss.length) := by unfold pfR; rw [if_pos ⟨hb, by rw [hwd]⟩, Int.toNat_natCast]
      rw [hr]
      have HP : Hid (∀ w', SArg a ss w' → K w' → Calls Tryd.prog 35 #[.agg #[.int .i64 (wd : Int), .slice a ss.length c]] w' fun e w'' => ∃ sb r a' c', e = .returned (.pointer (some ⟨sb, 0, none⟩)) ∧ StockAt sb r (sb + 1) wd ss a' c' w'' ∧ Below w'.heap.size w' w'') := fun w' q1 q2 => stockOf_any HH keep wd a ss c w' q1 q2 hpo.2
      have HFn : Hid (∀ sb r a' c' w', StockAt sb r (sb + 1) wd ss a' c' w' → Calls Tryd.prog 36 #[.pointer (some ⟨sb, 0, none⟩), .string hash] w' fun e w'' => e = .returned (nodeT (foundR D ss (firstI (hitB wd ss hash) ss.length))) ∧ Below w'.heap.size w' w'') := fun sb r a' c' w' hs' => stockFind_any D sb r (sb + 1) wd (HDc.out wd rfl hpo.1 hpo.2) ss a' c' hash w' hs' h.sz hle hpo.2 hwd
      have z1 : ((hash.size : Int) != (wd : Int)) = false := by rw [hwd]; simp
      obtain ⟨⟨⟨xk, xv, xl, xr⟩, xc⟩, hx⟩ : ∃ q, foundR D ss (firstI (hitB wd ss hash) ss.length) = q := ⟨_, rfl⟩
      rw [hx] at HFn
      rw [hx]
      clear hr hb HDc hx hwd
      go_enter Tryd.func14, Tryd.ntmps14
      go_wp2_with fail
      refine (HO.out _).mono ?_
      rintro e w1 ⟨rfl, hb1⟩
      have hS := (P2.mk0 w (wd : Int) a ss.length c).below hb1
      clear hb1
      obtain ⟨ga, hga⟩ : ∃ ga, w.heap.size = ga := ⟨_, rfl⟩
      obtain ⟨gb, hgb⟩ : ∃ gb, w.heap.size + 1 = gb := ⟨_, rfl⟩
      rw [hgb, hga]
      rw [hgb, hga] at hS
      clear hga hgb
      have d0 := Lib.cell_of_heap hS.na 0
      have d1 := Lib.cell_of_heap hS.na 1
      go_wp2_with fail
      refine (HP.out _ (h.below hS.bw) (keep.out _ _ hK hS.bw)).mono ?_
      rintro e w2 ⟨sb, r, a', c', rfl, hSt, hb2⟩
      have hS2 := hS.below hb2
      clear hS hb2 d0 d1
      go_wp2_with fail
      refine (HFn.out _ _ _ _ _ hSt).mono ?_
      rintro e w3 ⟨rfl, hb3⟩
      have hS3 := hS2.below hb3
      clear hS2 hb3 hSt
      obtain ⟨c0, c1, c2, c3, f0, f1, f2, f3⟩ := hS3.nb.at
      unfold nodeT
      go_wp2_with fail
      exact retN Tryd.results14 rfl rfl rfl (hS3.nb.all _ _ _ _) ⟨rfl, hS3.fin _ _ _ _⟩
    · have hr : pfR D n ss hash = ((⟨#[]⟩, ⟨#[]⟩, ⟨#[]⟩, ⟨#[]⟩), 1) := by unfold pfR; rw [if_neg (fun hh => hz hh.2)]
      rw [hr]
      have z1 : ((hash.size : Int) != n) = true := by rw [bne_iff_ne]; exact hz
      clear hr hb
      go_enter Tryd.func14, Tryd.ntmps14
      go_wp2_with fail
      refine (HO.out _).mono ?_
      rintro e w1 ⟨rfl, hb1⟩
      have hS := (P2.mk0 w n a ss.length c).below hb1
      clear hb1
      obtain ⟨ga, hga⟩ : ∃ ga, w.heap.size = ga := ⟨_, rfl⟩
      obtain ⟨gb, hgb⟩ : ∃ gb, w.heap.size + 1 = gb := ⟨_, rfl⟩
      rw [hgb, hga]
      rw [hgb, hga] at hS
      clear hga hgb
      have d0 := Lib.cell_of_heap hS.na 0
      obtain ⟨c0, c1, c2, c3, f0, f1, f2, f3⟩ := hS.nb.at
      go_wp2_with fail
      exact retN Tryd.results14 rfl rfl rfl (hS.nb.all _ _ _ _) ⟨rfl, hS.fin _ _ _ _⟩
end Go.Proofs.YtliapnhckdimoacDoor
namespace Go.Proofs.YtliapnhckdimoacDoor
open Go.RowKit Go.Proofs.Sha

set_option maxRecDepth 100000 in
set_option maxHeartbeats 2000000 in
theorem law_pf {K : World → Prop} (HH : Hid (HashSaid K)) (keep : Hid (∀ w1 w2, K w1 → Below w1.heap.size w1 w2 → K w2)) (HG : Hid DigSaid) (D : Dec) (n : Int) (HD1 : Hid (∀ wd : Nat, (wd : Int) = n → 1 ≤ wd → wd ≤ 32 → DecSaid 66 wd D)) (HD2 : Hid (∀ wd : Nat, (wd : Int) = n → 1 ≤ wd → wd ≤ 32 → DecSaid 62 wd D))
    (a : Option Addr) (ss : List ByteArray) (c : Nat) (hash : ByteArray) (w : World) (h : RArg a ss w) (hN : ss.length ≤ maxLen) (hM : ∀ j, (ss.getD j ⟨#[]⟩).size ≤ maxLen) (hh : hash.size ≤ maxLen) (hK : K w) :
    Calls Tryd.prog 4 #[.agg #[.int .i64 n, .slice a ss.length c], .string hash] w fun e w' => e = .returned (.bool true) ∧ Below w.heap.size w w' := by
  unfold maxLen at hh
  have hb0 : Below w.heap.size w (w.alloc (.cells #[.int .i64 n, .slice a ss.length c] 31)) := (Below.refl _ _).alloc (Nat.le_refl _) _
  by_cases hx0 : 1048576 < hash.size
  · have z0 : decide ((hash.size : Int) > 1048576) = true := by rw [decide_eq_true_eq]; omega
    have z1 : decide ((1048576 : Int) < (hash.size : Int)) = true := by rw [decide_eq_true_eq]; omega
    go_enter Tryd.func4, Tryd.ntmps4
    go_wp2_with fail
    go_ret
    exact ⟨rfl, hb0⟩
  have z1 : decide ((1048576 : Int) < (hash.size : Int)) = false := by rw [decide_eq_false_iff_not]; omega
  have HS : Hid (∀ w', RArg a ss w' → Calls Tryd.prog 11 #[.agg #[.int .i64 n, .slice a ss.length c], .int .i64 1048576] w' fun e w'' => ∃ r : Int, e = .returned (.int .i64 r) ∧ Hid (0 ≤ r → SmallS ss) ∧ Below w'.heap.size w' w'') := fun w' h' => szPool_any n a ss c w' h' hN hM
  have HT : Hid (SmallS ss → ∀ w', RArg a ss w' → Calls Tryd.prog 13 #[.agg #[.int .i64 n, .slice a ss.length c]] w' fun e w'' => ∃ g, e = .returned (.agg #[.int .i64 n, .slice (some ⟨g, 0, none⟩) ss.length ss.length]) ∧ SArg (some ⟨g, 0, none⟩) ss w'' ∧ Below w'.heap.size w' w'') := fun hs w' h' => toPool_any n a ss c w' (h'.sarg hs) hs
  obtain ⟨⟨⟨xk, xv, xl, xr⟩, xc⟩, hr⟩ : ∃ r, pfR D n ss hash = r := ⟨_, rfl⟩
  have HA : Hid (SmallS ss → ∀ g w', SArg (some ⟨g, 0, none⟩) ss w' → Calls Tryd.prog 12 #[.agg #[.int .i64 n, .slice (some ⟨g, 0, none⟩) ss.length ss.length], .string hash] w' fun e w'' => e = .returned (.tuple #[.agg #[.string xk, .string xv, .string xl, .string xr], .int .i64 xc]) ∧ Below w'.heap.size w' w'') := fun hs g w' hw => by
    have := pf_spec HG D n HD2 _ ss ss.length hash w' hw hs.2
    rw [hr] at this
    exact this
  have HB : Hid (∀ g w', SArg (some ⟨g, 0, none⟩) ss w' → K w' → Calls Tryd.prog 14 #[.agg #[.int .i64 n, .slice (some ⟨g, 0, none⟩) ss.length ss.length], .string hash] w' fun e w'' => e = .returned (.tuple #[.agg #[.string xk, .string xv, .string xl, .string xr], .int .i64 xc]) ∧ Below w'.heap.size w' w'') := fun g w' hw hk => by
    have := pf_impl HH keep D n HD1 _ ss ss.length hash w' hw hk
    rw [hr] at this
    exact this
  have HE : Hid (∀ w', Calls Tryd.prog 15 #[.agg #[.string xk, .string xv, .string xl, .string xr], .agg #[.string xk, .string xv, .string xl, .string xr]] w' fun e w'' => e = .returned (.bool true) ∧ Below w'.heap.size w' w'') := fun w' => eqNode_same xk xv xl xr w'
  have HQ : Hid (∀ g g2 w', SArg (some ⟨g, 0, none⟩) ss w' → SArg (some ⟨g2, 0, none⟩) ss w' → Calls Tryd.prog 16 #[.agg #[.int .i64 n, .slice (some ⟨g, 0, none⟩) ss.length ss.length], .agg #[.int .i64 n, .slice (some ⟨g2, 0, none⟩) ss.length ss.length]] w' fun e w'' => e = .returned (.bool true) ∧ Below w'.heap.size w' w'') := fun g g2 w' hw hw2 => eqPool_same n _ _ ss _ _ w' hw hw2
  clear hr hM hN hx0 hh HH HG HD1 HD2
  go_enter Tryd.func4, Tryd.ntmps4
  go_wp2_with fail
  refine (HS.out _ (h.below hb0)).mono ?_
  rintro e w1 ⟨x1, rfl, HX, hb1⟩
  have hn1 := pblk_below hb1 (heap_alloc_new w (.cells #[.int .i64 n, .slice a ss.length c] 31))
  have hw1 : Below w.heap.size w w1 := hb0.trans (hb1.mono (by simp))
  clear hb1 hb0
  by_cases hx : x1 < 0
  · have z2 : decide (x1 < 0) = true := decide_eq_true hx
    clear hx
    go_wp2_with fail
    go_ret
    exact ⟨rfl, hw1⟩
  · have hs := HX.out (by omega)
    have z2 : decide (x1 < 0) = false := decide_eq_false hx
    have HA' := HA.out hs
    have HT' := HT.out hs
    replace HA' : Hid _ := HA'
    replace HT' : Hid _ := HT'
    clear HA HT HX hx hs HS
    obtain ⟨ga, hga⟩ : ∃ ga, w.heap.size = ga := ⟨_, rfl⟩
    rw [hga] at hn1
    rw [hga]
    have c0 := Lib.cell_of_heap hn1 0
    have c1 := Lib.cell_of_heap hn1 1
    go_wp2_with fail
    refine (HT'.out _ (h.below hw1)).mono ?_
    rintro e w2 ⟨g2, rfl, hi2, hb2⟩
    have hn2 := pblk_below hb2 hn1
    have hw2 := hw1.trans (hb2.mono hw1.size)
    clear hb2 hn1 hw1 c0 c1
    go_wp2_with fail
    refine (HA'.out _ _ hi2).mono ?_
    rintro e w3 ⟨rfl, hb3⟩
    have hn3 := pblk_below hb3 hn2
    have hw3 := hw2.trans (hb3.mono hw2.size)
    clear hb3 hn2 hw2 hi2
    have al3 : Below w3.heap.size w3 (w3.alloc (.cells #[.string xk, .string xv, .string xl, .string xr] 26)) := (Below.refl _ _).alloc (Nat.le_refl _) _
    have hw4 := hw3.trans (al3.mono hw3.size)
    have hn4 := pblk_below al3 hn3
    have nW := heap_alloc_new w3 (.cells #[.string xk, .string xv, .string xl, .string xr] 26)
    obtain ⟨gw, hgw⟩ : ∃ gw, w3.heap.size = gw := ⟨_, rfl⟩
    rw [hgw] at nW
    have c0 := Lib.cell_of_heap hn4 0
    have c1 := Lib.cell_of_heap hn4 1
    clear al3 hn3 hw3
    go_upto_region 8 with fail
    generalize w3.alloc (.cells #[.string xk, .string xv, .string xl, .string xr] 26) = W4 at hw4 hn4 nW c0 c1 ⊢
    clear hgw
    go_wp2_with fail
    refine (HT'.out _ (h.below hw4)).mono ?_
    rintro e w5 ⟨g5, rfl, hi5, hb5⟩
    have hn5 := pblk_below hb5 hn4
    have nW5 := pblk_below hb5 nW
    have hw5 := hw4.trans (hb5.mono hw4.size)
    clear hb5 hn4 hw4 nW c0 c1
    have al5 : Below w5.heap.size w5 (w5.alloc (.cells #[.int .i64 n, .slice (some ⟨g5, 0, none⟩) ss.length ss.length] 35)) := (Below.refl _ _).alloc (Nat.le_refl _) _
    have hw6 := hw5.trans (al5.mono hw5.size)
    have hn6 := pblk_below al5 hn5
    have nW6 := pblk_below al5 nW5
    have hi6 := hi5.below al5
    have nX := heap_alloc_new w5 (.cells #[.int .i64 n, .slice (some ⟨g5, 0, none⟩) ss.length ss.length] 35)
    obtain ⟨gx, hgx⟩ : ∃ gx, w5.heap.size = gx := ⟨_, rfl⟩
    rw [hgx] at nX
    clear al5 hn5 nW5 hw5 hi5
    go_upto_region 9 with fail
    generalize w5.alloc (.cells #[.int .i64 n, .slice (some ⟨g5, 0, none⟩) ss.length ss.length] 35) = W6 at hw6 hn6 nW6 hi6 nX ⊢
    clear hgx
    have d0 := Lib.cell_of_heap nX 0
    have d1 := Lib.cell_of_heap nX 1
    go_wp2_with fail
    refine (HB.out _ _ hi6 (keep.out _ _ hK hw6)).mono ?_
    rintro e w7 ⟨rfl, hb7⟩
    have hn7 := pblk_below hb7 hn6
    have nW7 := pblk_below hb7 nW6
    have nX7 := pblk_below hb7 nX
    have hi7 := hi6.below hb7
    have hw7 := hw6.trans (hb7.mono hw6.size)
    clear hb7 hn6 nW6 nX hi6 hw6 d0 d1
    have al7 : Below w7.heap.size w7 (w7.alloc (.cells #[.string xk, .string xv, .string xl, .string xr] 26)) := (Below.refl _ _).alloc (Nat.le_refl _) _
    have nG := heap_alloc_new w7 (.cells #[.string xk, .string xv, .string xl, .string xr] 26)
    have hn8 := pblk_below al7 hn7
    have nW8 := pblk_below al7 nW7
    have nX8 := pblk_below al7 nX7
    have hi8 := hi7.below al7
    have hw8 := hw7.trans (al7.mono hw7.size)
    clear hn7 nW7 nX7 hi7 hw7 al7
    go_upto_region 10 with fail
    obtain ⟨gg, hgg⟩ : ∃ gg, w7.heap.size = gg := ⟨_, rfl⟩
    rw [hgg] at nG
    generalize w7.alloc (.cells #[.string xk, .string xv, .string xl, .string xr] 26) = W8 at hn8 nW8 nX8 hi8 hw8 nG ⊢
    try rw [hgg]
    clear hgg
    have k0 := Lib.cell_of_heap nG 0
    have k1 := Lib.cell_of_heap nG 1
    have k2 := Lib.cell_of_heap nG 2
    have k3 := Lib.cell_of_heap nG 3
    have j0 := Lib.cell_of_heap nW8 0
    have j1 := Lib.cell_of_heap nW8 1
    have j2 := Lib.cell_of_heap nW8 2
    have j3 := Lib.cell_of_heap nW8 3
    have y : (xc != xc) = false := by simp
    go_wp2_with fail
    refine (HE.out _).mono ?_
    rintro e w9 ⟨rfl, hb9⟩
    have hn9 := pblk_below hb9 hn8
    have nX9 := pblk_below hb9 nX8
    have hi9 := hi8.below hb9
    have hw9 := hw8.trans (hb9.mono hw8.size)
    clear hb9 hn8 nX8 nW8 hi8 hw8 nG k0 k1 k2 k3 j0 j1 j2 j3
    have c0 := Lib.cell_of_heap hn9 0
    have c1 := Lib.cell_of_heap hn9 1
    have d0 := Lib.cell_of_heap nX9 0
    have d1 := Lib.cell_of_heap nX9 1
    have hC : Hid (∀ W : World, Below w9.heap.size w9 W → W.cell? ⟨ga, 0, none⟩ = some (.int .i64 n) ∧ W.cell? ⟨ga, 1, none⟩ = some (.slice a ss.length c) ∧ W.cell? ⟨gx, 0, none⟩ = some (.int .i64 n) ∧ W.cell? ⟨gx, 1, none⟩ = some (.slice (some ⟨g5, 0, none⟩) ss.length ss.length)) := fun W hW => ⟨Lib.cell_of_heap (pblk_below hW hn9) 0, Lib.cell_of_heap (pblk_below hW hn9) 1, Lib.cell_of_heap (pblk_below hW nX9) 0, Lib.cell_of_heap (pblk_below hW nX9) 1⟩
    clear hn9 nX9
    go_upto_region 12 with fail
    go_region_held3 (fun W => W.cell? ⟨ga, 0, none⟩ = some (.int .i64 n) ∧ W.cell? ⟨ga, 1, none⟩ = some (.slice a ss.length c) ∧ W.cell? ⟨gx, 0, none⟩ = some (.int .i64 n) ∧ W.cell? ⟨gx, 1, none⟩ = some (.slice (some ⟨g5, 0, none⟩) ss.length ss.length)) (first | exact ⟨c0, c1, d0, d1⟩ | exact hC.out _ hx10 | exact hC.out _ hx11) (first | (go_at_call 13; refine (HT'.out _ ((h.below hw9).below (Below.refl w9.heap.size w9).drew)).mono ?_; rintro e w10 ⟨g10, rfl, hi10, hb10⟩; have hx10 : Below w9.heap.size w9 w10 := (Below.refl w9.heap.size w9).drew.trans hb10; have hi10' := hi9.below hx10; clear hb10) | (go_at_call 16; refine (HQ.out _ _ _ hi10' hi10).mono ?_; rintro e w11 ⟨rfl, hb11⟩; have hx11 : Below w9.heap.size w9 w11 := hx10.trans (hb11.mono hx10.size)))
    have hw11 := hw9.trans (hx11.mono hw9.size)
    go_wp2_with fail
    go_ret
    exact ⟨rfl, hw11⟩
end Go.Proofs.YtliapnhckdimoacDoor
