import Derived.Test.YthopecgcpfhceacDoorZd
namespace Go.Proofs.YthopecgcpfhceacDoor
open Go.RowKit Go.Proofs.Sha

theorem P2.na4 {w : World} {ga gb : Nat} {n : Int} {a : Option Addr} {m c : Nat} {W : World} (h : P2 w ga gb n a m c W) (x y z u : Value) : ((((W.setCell ⟨gb, 0, none⟩ x).setCell ⟨gb, 1, none⟩ y).setCell ⟨gb, 2, none⟩ z).setCell ⟨gb, 3, none⟩ u).heap[ga]? = some (.cells #[.int .i64 n, .slice a m c] 35) := by
  have hge : ga + 1 ≤ gb := by have := h.nx; omega
  have hb : Below (ga + 1) W ((((W.setCell ⟨gb, 0, none⟩ x).setCell ⟨gb, 1, none⟩ y).setCell ⟨gb, 2, none⟩ z).setCell ⟨gb, 3, none⟩ u) := ((((Below.refl _ W).setCell hge _).setCell hge _).setCell hge _).setCell hge _
  exact (hb.block ga (by omega)).trans h.na
theorem hashT_hit (wd : Nat) (s hash : ByteArray) : decide (hashT wd s = hash) = decide ((sha (78 :: s.data.toList)).take wd = hash.data.toList) := by
  unfold hashT
  by_cases h : (sha (78 :: s.data.toList)).take wd = hash.data.toList
  · rw [decide_eq_true h, decide_eq_true]
    rw [h]
  · rw [decide_eq_false h, decide_eq_false]
    intro he
    apply h
    rw [← he]
theorem first_hash (wd : Nat) (ss : List ByteArray) (hash : ByteArray) : firstI (fun i => decide ((ss.map (hashT wd)).getD i ⟨#[]⟩ = hash)) ss.length = firstI (hitB wd ss hash) ss.length := by
  refine firstI_congr fun j hj => ?_
  have h1 : (ss.map (hashT wd)).getD j ⟨#[]⟩ = hashT wd (ss.getD j ⟨#[]⟩) := by
    rw [List.getD_eq_getElem?_getD, List.getElem?_map, List.getD_eq_getElem?_getD, List.getElem?_eq_getElem hj]
    rfl
  rw [h1, hitB, hashT_hit]

set_option maxRecDepth 100000 in
set_option maxHeartbeats 2000000 in
theorem pf_spec (HG : Hid DigSaid) (D : Dec) (n : Int) (HDc : Hid (∀ wd : Nat, (wd : Int) = n → 1 ≤ wd → wd ≤ 32 → DecSaid 40 wd D)) (a : Option Addr) (ss : List ByteArray) (c : Nat) (hash : ByteArray) (w : World) (h : SArg a ss w) (hq : Hid (∀ j, (ss.getD j ⟨#[]⟩).size ≤ 1048575)) :
    Calls Tryd.prog 10 #[.agg #[.int .i64 n, .slice a ss.length c], .string hash] w fun e w' => e = .returned (nodeT (pfR D n ss hash)) ∧ Below w.heap.size w w' := by
  have hle := h.le
  obtain ⟨b, hb⟩ : ∃ b, poolOk n ss.length = b := ⟨_, rfl⟩
  have HO : Hid (∀ w', Calls Tryd.prog 21 #[.agg #[.int .i64 n, .slice a ss.length c]] w' fun e w'' => e = .returned (.bool b) ∧ Below w'.heap.size w' w'') := fun w' => by rw [← hb]; exact poolOk_any n a ss.length c w' hle
  cases b with
  | false =>
    have hr : pfR D n ss hash = ((⟨#[]⟩, ⟨#[]⟩, ⟨#[]⟩, ⟨#[]⟩), 1) := by unfold pfR; rw [if_neg (fun hh => by rw [hb] at hh; cases hh.1)]
    rw [hr]
    clear hr hb
    go_enter Tryd.func10, Tryd.ntmps10
    go_wp2_with fail
    refine (HO.out _).mono ?_
    rintro e w1 ⟨rfl, hb1⟩
    have hS := (P2.mk0 w n a ss.length c).below hb1
    clear hb1
    obtain ⟨ga, hga⟩ : ∃ ga, w.heap.size = ga := ⟨_, rfl⟩
    obtain ⟨gb, hgb⟩ : ∃ gb, w.heap.size + 1 = gb := ⟨_, rfl⟩
    rw [hgb, hga]
    rw [hgb, hga] at hS
    clear hga hgb
    obtain ⟨c0, c1, c2, c3, f0, f1, f2, f3⟩ := hS.nb.at
    go_wp2_with fail
    exact retN Tryd.results10 rfl rfl rfl (hS.nb.all _ _ _ _) ⟨rfl, hS.fin _ _ _ _⟩
  | true =>
    by_cases hz : (hash.size : Int) = n
    · obtain ⟨wd, hwd⟩ : ∃ wd, hash.size = wd := ⟨_, rfl⟩
      rw [hwd] at hz
      subst hz
      have hpo : 1 ≤ wd ∧ wd ≤ 32 := by
        unfold poolOk at hb
        rw [decide_eq_true_eq] at hb
        omega
      obtain ⟨R, hR⟩ : ∃ R, pfR D (wd : Int) ss hash = R := ⟨_, rfl⟩
      have hr : foundR D ss (firstI (fun i => decide ((ss.map (hashT wd)).getD i ⟨#[]⟩ = hash)) ss.length) = R := by rw [first_hash, ← hR]; unfold pfR; rw [if_pos ⟨hb, by rw [hwd]⟩, Int.toNat_natCast]
      rw [hR]
      have HA : Hid (∀ w', SArg a ss w' → Calls Tryd.prog 23 #[.agg #[.int .i64 (wd : Int), .slice a ss.length c]] w' fun e w'' => ∃ g c', e = .returned (.slice (some ⟨g, 0, none⟩) ss.length c') ∧ Row w'' (w'.heap.size + 1) g ss.length c' ((ss.map (hashT wd)).map Value.string) ∧ Below w'.heap.size w' w'') := fun w' h' => hashes_any HG wd a ss c w' h' hq hpo.1 hpo.2
      have HF : Hid (∀ w' base g c', SArg a ss w' → Row w' base g ss.length c' ((ss.map (hashT wd)).map Value.string) → Calls Tryd.prog 22 #[.agg #[.int .i64 (wd : Int), .slice a ss.length c], .slice (some ⟨g, 0, none⟩) ss.length c', .string hash] w' fun e w'' => e = .returned (nodeT R) ∧ Below w'.heap.size w' w'') := fun w' base g c' h' hrow => by
        rw [← hr]
        refine lfind_any D wd (HDc.out wd rfl hpo.1 hpo.2) a ss c g c' (ss.map (hashT wd)) hash w' h' (by rw [List.length_map]) hrow.lt fun j hj => ?_
        rw [hrow.cell j hj, List.getElem?_map, List.getElem?_map, List.getD_eq_getElem?_getD, List.getElem?_map, List.getElem?_eq_getElem hj]
        rfl
      have z1 : ((hash.size : Int) != (wd : Int)) = false := by rw [hwd]; simp
      obtain ⟨⟨rk, rv, rl, rr⟩, rc⟩ := R
      unfold nodeT at HF
      clear hr hb hR HDc hwd HG
      go_enter Tryd.func10, Tryd.ntmps10
      go_wp2_with fail
      refine (HO.out _).mono ?_
      rintro e w1 ⟨rfl, hb1⟩
      have hS := (P2.mk0 w (wd : Int) a ss.length c).below hb1
      clear hb1
      obtain ⟨ga, hga⟩ : ∃ ga, w.heap.size = ga := ⟨_, rfl⟩
      obtain ⟨gb, hgb⟩ : ∃ gb, w.heap.size + 1 = gb := ⟨_, rfl⟩
      rw [hgb, hga]
      rw [hgb, hga] at hS
      clear hga hgb
      have d0 := Lib.cell_of_heap hS.na 0
      have d1 := Lib.cell_of_heap hS.na 1
      have hC : Hid (∀ W : World, W.heap[ga]? = some (.cells #[.int .i64 (wd : Int), .slice a ss.length c] 35) → W.cell? ⟨ga, 0, none⟩ = some (.int .i64 (wd : Int)) ∧ W.cell? ⟨ga, 1, none⟩ = some (.slice a ss.length c)) := fun W hW => ⟨Lib.cell_of_heap hW 0, Lib.cell_of_heap hW 1⟩
      go_upto_region 3 with fail
      go_region_held3 (fun w' => w'.cell? ⟨ga, 0, none⟩ = some (.int .i64 (wd : Int)) ∧ w'.cell? ⟨ga, 1, none⟩ = some (.slice a ss.length c)) (first | exact ⟨d0, d1⟩ | exact hC.out _ hS2.na | exact hC.out _ hS3.na | exact hC.out _ (hS3.na4 _ _ _ _)) (first | (go_at_call 23; refine (HA.out _ ((h.below hS.bw).below ((Below.refl w1.heap.size w1).drew))).mono ?_; rintro e w2 ⟨g, c', rfl, hrow, hb2⟩; have hS2 := hS.below ((Below.refl w1.heap.size w1).drew.trans hb2); clear hb2) | (go_at_call 22; refine (HF.out _ _ g c' (h.below hS2.bw) hrow).mono ?_; rintro e w3 ⟨rfl, hb3⟩; have hS3 := hS2.below hb3; clear hb3 hrow; obtain ⟨c0, c1, c2, c3, f0, f1, f2, f3⟩ := hS3.nb.at))
      go_wp2_with fail
      exact retN Tryd.results10 rfl rfl rfl (hS3.nb.all _ _ _ _) ⟨rfl, hS3.fin _ _ _ _⟩
    · have hr : pfR D n ss hash = ((⟨#[]⟩, ⟨#[]⟩, ⟨#[]⟩, ⟨#[]⟩), 1) := by unfold pfR; rw [if_neg (fun hh => hz hh.2)]
      rw [hr]
      clear hr hb
      have z1 : ((hash.size : Int) != n) = true := by rw [bne_iff_ne]; exact hz
      go_enter Tryd.func10, Tryd.ntmps10
      go_wp2_with fail
      refine (HO.out _).mono ?_
      rintro e w1 ⟨rfl, hb1⟩
      have hS := (P2.mk0 w n a ss.length c).below hb1
      clear hb1
      obtain ⟨ga, hga⟩ : ∃ ga, w.heap.size = ga := ⟨_, rfl⟩
      obtain ⟨gb, hgb⟩ : ∃ gb, w.heap.size + 1 = gb := ⟨_, rfl⟩
      rw [hgb, hga]
      rw [hgb, hga] at hS
      clear hga hgb
      obtain ⟨c0, c1, c2, c3, f0, f1, f2, f3⟩ := hS.nb.at
      have d0 := Lib.cell_of_heap hS.na 0
      have d1 := Lib.cell_of_heap hS.na 1
      go_wp2_with fail
      exact retN Tryd.results10 rfl rfl rfl (hS.nb.all _ _ _ _) ⟨rfl, hS.fin _ _ _ _⟩
end Go.Proofs.YthopecgcpfhceacDoor
