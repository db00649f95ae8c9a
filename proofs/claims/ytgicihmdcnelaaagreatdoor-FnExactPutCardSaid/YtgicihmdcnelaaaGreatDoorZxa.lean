import Derived.Test.YtgicihmdcnelaaaGreatDoorZal
import Derived.Test.YtgicihmdcnelaaaGreatDoorZat
import Derived.Test.YtgicihmdcnelaaaGreatDoorZaw
import Derived.Test.YtgicihmdcnelaaaGreatDoorZau
import Derived.Deep.AppendLies
import Derived.Test.YtgicihmdcnelaaaGreatDoorZar
namespace Go.Proofs.YtgicihmdcnelaaaGreatDoor
open Go.RowKit Go.Proofs.Sha

theorem ku_append : ∀ {a b : List ByteArray}, KeysUp a → KeysUp b → (∀ x ∈ a, ∀ y ∈ b, lessB x y = true) → KeysUp (a ++ b)
  | [], _, _, hb, _ => hb
  | x :: xs, b, ha, hb, h => by
    refine ⟨fun y hy => ?_, ku_append ha.2 hb (fun z hz => h z (List.mem_cons_of_mem _ hz))⟩
    rcases List.mem_append.1 hy with hy | hy
    · exact ha.1 y hy
    · exact h x List.mem_cons_self y hy
theorem ins_parts {over under k : ByteArray} (h : insW over under k = true) : lessB over k = true ∧ (emp under = true ∨ lessB k under = true) := by
  unfold insW at h
  obtain ⟨h1, h2⟩ := (Bool.and_eq_true _ _).mp h
  exact ⟨h1, (Bool.or_eq_true _ _).mp h2⟩
theorem goF_up {fnd : ByteArray → FN} {hg : ByteArray → ByteArray → Bool} {lo hi : ByteArray} {wd : Nat} (hfo : FndOk wd fnd) : ∀ (f : Nat) (hash over under par : ByteArray) (cnt : Nat), KeysUp (keys (goF fnd hg lo hi f hash over under par cnt).2.2) ∧ ∀ x ∈ keys (goF fnd hg lo hi f hash over under par cnt).2.2, lessB over x = true ∧ (emp under = true ∨ lessB x under = true)
  | 0, _, _, _, _, _ => by rw [goF]; exact ⟨trivial, fun x hx => by simp at hx⟩
  | f + 1, hash, over, under, par, cnt => by
    have hnil : KeysUp (keys ([] : List PairT)) ∧ ∀ x ∈ keys ([] : List PairT), lessB over x = true ∧ (emp under = true ∨ lessB x under = true) := ⟨trivial, fun x hx => by simp at hx⟩
    cases h1 : (emp hash || !canW over under lo hi) with
    | true => rw [goF_skip h1]; exact hnil
    | false =>
      by_cases h2 : (fnd hash).2 = 2
      · rw [goF_missing h1 h2]; exact hnil
      · by_cases h20 : (fnd hash).2 = 0
        · cases h3 : (insW over under (fnd hash).1.1 && parW hg par (fnd hash).1.1) with
          | false => rw [goF_place h1 h20 h3]; exact hnil
          | true =>
            by_cases h4 : 500 < cnt + 1
            · rw [goF_many h1 h20 h3 h4]; exact hnil
            · have e : fnd hash = (((fnd hash).1.1, (fnd hash).1.2.1, (fnd hash).1.2.2.1, (fnd hash).1.2.2.2), 0) := by rw [← h20]
              rw [goF_node h1 e h3 (by omega) rfl rfl]
              obtain ⟨hk1, hk2⟩ := ins_parts ((Bool.and_eq_true _ _).mp h3).1
              have hke : emp (fnd hash).1.1 = false := by
                have okk := (hfo.node hash h20).1
                have h9 : 1 ≤ (fnd hash).1.1.size := by
                  unfold okKey at okk
                  simp at okk
                  omega
                unfold emp
                exact decide_eq_false (by omega)
              obtain ⟨l1, l2⟩ := goF_up hfo f (fnd hash).1.2.2.1 over (fnd hash).1.1 (fnd hash).1.1 (cnt + 1)
              obtain ⟨r1, r2⟩ := goF_up hfo f (fnd hash).1.2.2.2 (fnd hash).1.1 under (fnd hash).1.1 (goF fnd hg lo hi f (fnd hash).1.2.2.1 over (fnd hash).1.1 (fnd hash).1.1 (cnt + 1)).2.1
              generalize goF fnd hg lo hi f (fnd hash).1.2.2.2 (fnd hash).1.1 under (fnd hash).1.1 (goF fnd hg lo hi f (fnd hash).1.2.2.1 over (fnd hash).1.1 (fnd hash).1.1 (cnt + 1)).2.1 = R at r1 r2 ⊢
              generalize goF fnd hg lo hi f (fnd hash).1.2.2.1 over (fnd hash).1.1 (fnd hash).1.1 (cnt + 1) = L at l1 l2 ⊢
              generalize (fnd hash).1.1 = k at *
              split
              · exact hnil
              · split
                · exact hnil
                · have hl : ∀ x ∈ keys L.2.2, lessB over x = true ∧ lessB x k = true := fun x hx => ⟨(l2 x hx).1, by
                    rcases (l2 x hx).2 with h | h
                    · rw [hke] at h; cases h
                    · exact h⟩
                  have hin : ∀ x, x ∈ keys (if hasW lo hi k = true then [(k, (fnd hash).1.2.1)] else []) → x = k := fun x hx => by
                    split at hx
                    · simpa using hx
                    · simp at hx
                  have hiu : KeysUp (keys (if hasW lo hi k = true then [(k, (fnd hash).1.2.1)] else [])) := by
                    split
                    · exact ⟨fun x hx => by simp at hx, trivial⟩
                    · trivial
                  have hun : ∀ x, lessB x k = true → (emp under = true ∨ lessB x under = true) := fun x hx => by
                    rcases hk2 with h | h
                    · exact .inl h
                    · exact .inr (lessB_tr hx h)
                  generalize (if hasW lo hi k = true then [(k, (fnd hash).1.2.1)] else []) = I at hin hiu ⊢
                  have ha : KeysUp (keys L.2.2 ++ keys I) := ku_append l1 hiu (fun x hx y hy => by rw [hin y hy]; exact (hl x hx).2)
                  have hb : KeysUp ((keys L.2.2 ++ keys I) ++ keys R.2.2) := ku_append ha r1 (fun x hx y hy => by
                    rcases List.mem_append.1 hx with hx | hx
                    · exact lessB_tr (hl x hx).2 (r2 y hy).1
                    · rw [hin x hx]; exact (r2 y hy).1)
                  have e3 : keys (L.2.2 ++ I ++ R.2.2) = (keys L.2.2 ++ keys I) ++ keys R.2.2 := by simp [keys]
                  simp only [e3]
                  refine ⟨hb, fun x hx => ?_⟩
                  rcases List.mem_append.1 hx with hx | hx
                  · rcases List.mem_append.1 hx with hx | hx
                    · exact ⟨(hl x hx).1, hun x (hl x hx).2⟩
                    · rw [hin x hx]; exact ⟨hk1, hk2⟩
                  · exact ⟨lessB_tr hk1 (r2 x hx).1, (r2 x hx).2⟩
        · rw [goF, if_neg (by rw [h1]; decide), if_neg h2, if_pos h20]; exact hnil
/-- What a range gives grows. -/
theorem rangeM_up {fnd : ByteArray → FN} {wd : Nat} (hfo : FndOk wd fnd) (n : Int) (m : Nat) (root lo hi : ByteArray) : KeysUp (keys (rangeM fnd n m root lo hi).1) := by
  unfold rangeM
  split
  · split
    · exact (goF_up hfo 501 root ⟨#[]⟩ ⟨#[]⟩ ⟨#[]⟩ 0).1
    · trivial
  · trivial
end Go.Proofs.YtgicihmdcnelaaaGreatDoor
namespace Go.Proofs.YtgicihmdcnelaaaGreatDoor
open Go.RowKit Go.Proofs.Sha

set_option maxRecDepth 100000 in
set_option maxHeartbeats 1000000 in
theorem take_any (fnd : ByteArray → FN) (wg : World) (B0 lb sb b : Nat) (hash over under pk : ByteArray) (par : Option Addr) (cnt : Nat) (w : World) (hc : (fnd hash).2 = 0 ∨ (fnd hash).2 = 2 ∨ (fnd hash).2 = 3) (hL : LD lb sb cnt 0 w) (hB : BR b hash over under par w) (hP : ParAt par pk w) (hcn : cnt ≤ 500) (hbw : Below B0 wg w) (hlb : B0 ≤ lb) (hBs : B0 ≤ w.heap.size)
    (HF : Hid (∀ w', Below B0 wg w' → Calls Tryz.prog 143 #[.pointer (some ⟨sb, 0, none⟩), .string hash] w' fun e w'' => e = .returned (nodeT (fnd hash)) ∧ Below w'.heap.size w' w''))
    (HR : Hid (∀ w', Below B0 wg w' → (fnd hash).2 = 0 → Calls Tryz.prog 92 #[Value.string (fnd hash).1.1] w' fun e w'' => e = .returned (.agg (rkL (fnd hash).1.1).toArray) ∧ Below w'.heap.size w' w'')) :
    Calls Tryz.prog 129 #[.pointer (some ⟨lb, 0, none⟩), .pointer (some ⟨b, 0, none⟩)] w fun e w' => e = .returned (.bool (decide (codeF fnd hash over under pk (cnt + 1) = 0))) ∧ Fr w.heap.size (fun q => q = b ∨ q = lb) w w' ∧ LD lb sb (cnt + 1) (codeF fnd hash over under pk (cnt + 1)) w' ∧ (codeF fnd hash over under pk (cnt + 1) = 0 → Kids b hash over under par (fnd hash).1.1 (fnd hash).1.2.1 (fnd hash).1.2.2.1 (fnd hash).1.2.2.2 w w') := by
  have hlw : lb < w.heap.size := (Array.getElem?_eq_some_iff.1 hL).1
  have l1 := Lib.cell_of_heap hL 1
  have fl : ∀ j, w.frozen? ⟨lb, j, none⟩ = false := fun j => by rw [World.frozen?, show w.heap[lb]? = _ from hL]; rfl
  have hwr : wrap64 ((cnt : Int) + 1) = ((cnt : Int) + 1) := by exact wr_in64 _ (by omega)
  have hL1 := heap_setCell_same w lb 1 _ 171 (.int .i64 ((cnt : Int) + 1)) hL
  have hne : lb ≠ b := ne_of_type hL hB (by decide)
  have f1 : Fr w.heap.size (fun q => q = lb) w (w.setCell ⟨lb, 1, none⟩ (.int .i64 ((cnt : Int) + 1))) := Fr.set1 _ _ _
  have hb1 : Below B0 wg (w.setCell ⟨lb, 1, none⟩ (.int .i64 ((cnt : Int) + 1))) := hbw.setCell hlb _
  have hL1 : LD lb sb (cnt + 1) 0 (w.setCell ⟨lb, 1, none⟩ (.int .i64 ((cnt : Int) + 1))) := by
    have e : ((cnt + 1 : Nat) : Int) = (cnt : Int) + 1 := by omega
    unfold LD
    rw [e]
    exact hL1
  go_enter Tryz.func129, Tryz.ntmps129
  go_upto_region 2 with fail
  have hB1 : BR b hash over under par (w.setCell ⟨lb, 1, none⟩ (.int .i64 ((cnt : Int) + 1))) := f1.keep hB (fun e => hne e.symm) (.inl (by decide))
  have hP1 : ParAt par pk (w.setCell ⟨lb, 1, none⟩ (.int .i64 ((cnt : Int) + 1))) := hP.fr f1 (fun g hg e => ne_of_type hg hL (by decide) e)
  generalize w.setCell ⟨lb, 1, none⟩ (.int .i64 ((cnt : Int) + 1)) = W1 at hL1 f1 hb1 hB1 hP1 ⊢
  have hs1 := f1.size
  have HC := filled_any fnd lb sb b hash over under pk par (cnt + 1) 0 W1 hc hL1 hB1 hP1 (by omega) (fun w' hb' => HF.out w' (hb1.trans (hb'.mono (Nat.le_trans hBs hs1)))) (fun w' hb' => HR.out w' (hb1.trans (hb'.mono (Nat.le_trans hBs hs1))))
  obtain ⟨C, hC⟩ : ∃ C, codeF fnd hash over under pk (cnt + 1) = C := ⟨_, rfl⟩
  rw [hC] at HC
  have hCf : Hid (codeF fnd hash over under pk (cnt + 1) = C) := hC
  clear hC hwr l1 fl hL HF HR hB hP hB1 hP1
  go_upto_region 3 with (first | (go_at_call 138; refine HC.mono ?_; rintro e w2 ⟨rfl, hf2, hk2⟩; have hL2 : LD lb sb (cnt + 1) 0 w2 := hf2.keep hL1 hne (.inl (by decide)); have c2 := Lib.cell_of_heap hL2 2; have fz2 : w2.frozen? ⟨lb, 2, none⟩ = false := (by rw [World.frozen?, show w2.heap[lb]? = _ from hL2]; rfl)))
  have hL3 : LD lb sb (cnt + 1) C (w2.setCell ⟨lb, 2, none⟩ (.int .i64 C)) := heap_setCell_same w2 lb 2 _ 171 (.int .i64 C) hL2
  have f3 : Fr w2.heap.size (fun q => q = lb) w2 (w2.setCell ⟨lb, 2, none⟩ (.int .i64 C)) := Fr.set1 _ _ _
  generalize w2.setCell ⟨lb, 2, none⟩ (.int .i64 C) = W3 at hL3 f3 ⊢
  have d2 := Lib.cell_of_heap hL3 2
  have hfr : Fr w.heap.size (fun q => q = b ∨ q = lb) w W3 := ((f1.mono (fun q _ e => Or.inr e)).trans ((hf2.base hs1).mono (fun q _ e => Or.inl e)) (fun q _ e => e)).trans ((f3.base (Nat.le_trans hs1 hf2.size)).mono (fun q _ e => Or.inr e)) (fun q _ e => e)
  have hkid : Hid (C = 0 → Kids b hash over under par (fnd hash).1.1 (fnd hash).1.2.1 (fnd hash).1.2.2.1 (fnd hash).1.2.2.2 w W3) := fun hz => by
    obtain ⟨pl, pr, gl, gr, h1, h2, h3, h4, h5, h6, h7, h8⟩ := Kids.from (hk2 hz) hs1
    have hlt : lb < w.heap.size := hlw
    exact ⟨pl, pr, gl, gr, f3.keep h1 (fun e => hne e.symm) (.inl (by decide)), h2.fr f3 (fun q hq e => by have := h6 q hq; omega), f3.keep h3 (ne_of_type h3 hL2 (by decide)) (.inl (by decide)), h4.fr f3 (fun q hq e => by have := h7 q hq; omega), f3.keep h5 (ne_of_type h5 hL2 (by decide)) (.inl (by decide)), h6, h7, h8⟩
  clear hk2 hc hL2 hL1 c2 fz2 f1 f3 hf2 hb1 HC
  cases hz : decide (C = 0) with
  | true =>
    have hz0 : C = 0 := of_decide_eq_true hz
    subst hz0
    go_wp2_with fail
    go_ret
    rw [hCf.out]
    exact ⟨rfl, hfr, hL3, fun _ => hkid.out trivial⟩
  | false =>
    have hz0 : ¬ C = 0 := of_decide_eq_false hz
    have hz1 : (C == 0) = false := by simpa using hz0
    go_wp2_with fail
    go_ret
    rw [hCf.out]
    exact ⟨by simp [hz0], hfr, hL3, fun h => absurd h hz0⟩
end Go.Proofs.YtgicihmdcnelaaaGreatDoor
namespace Go.Proofs.YtgicihmdcnelaaaGreatDoor
open Go.RowKit Go.Proofs.Sha

theorem c37_no (p : Option Addr) (i : Int) (hi' : i = 0 ∨ i = 2) (gb c : Nat) (lo hi : ByteArray) (w : World) (h : w.heap[gb]? = some (.cells #[.string lo, .string hi] 138)) : Calls Tryz.prog 115 #[.pointer p, .int .i64 i, .pointer (some ⟨gb, 0, none⟩), .pointer (some ⟨c, 0, none⟩)] w fun e w' => e = .returned (.tuple #[]) ∧ Below w.heap.size w w' := by
  have hz : (i == 1) = false := by rcases hi' with rfl | rfl <;> rfl
  have c0 : w.cell? ⟨gb, 0, none⟩ = some (.string lo) := Lib.cell_of_heap h 0
  have c1 : w.cell? ⟨gb, 1, none⟩ = some (.string hi) := Lib.cell_of_heap h 1
  go_enter Tryz.func115, Tryz.ntmps115
  go_wp2_with fail
  go_quiet (first | fail)
  go_wp2_with fail
  go_end0
  exact ⟨rfl, draws_below _ (Below.refl _ _)⟩
theorem c37_out (b : Nat) (hash over under : ByteArray) (par : Option Addr) (k v l r : ByteArray) (pl pr : Option Addr) (gb c : Nat) (lo hi : ByteArray) (w : World) (hB : BF b hash over under par k v l r pl pr w) (h : w.heap[gb]? = some (.cells #[.string lo, .string hi] 138)) (hn : hasW lo hi k = false) : Calls Tryz.prog 115 #[.pointer (some ⟨b, 0, none⟩), .int .i64 1, .pointer (some ⟨gb, 0, none⟩), .pointer (some ⟨c, 0, none⟩)] w fun e w' => e = .returned (.tuple #[]) ∧ Below w.heap.size w w' := by
  have c0 : w.cell? ⟨gb, 0, none⟩ = some (.string lo) := Lib.cell_of_heap h 0
  have c1 : w.cell? ⟨gb, 1, none⟩ = some (.string hi) := Lib.cell_of_heap h 1
  have c4 : w.cell? ⟨b, 4, none⟩ = some (.string k) := Lib.cell_of_heap hB 4
  have HC := fun w' => has_any lo hi k w'
  rw [hn] at HC
  go_enter Tryz.func115, Tryz.ntmps115
  go_wp2_with fail
  go_region_held3 (fun W => W.cell? ⟨b, 4, none⟩ = some (.string k) ∧ W.cell? ⟨gb, 0, none⟩ = some (.string lo) ∧ W.cell? ⟨gb, 1, none⟩ = some (.string hi)) (first | exact ⟨c4, c0, c1⟩ | exact ⟨Lib.cell_of_heap hB2 4, Lib.cell_of_heap h2 0, Lib.cell_of_heap h2 1⟩) (first | (go_at_call 116; refine (HC _).mono ?_; rintro e w2 ⟨rfl, hb2⟩; have hB2 := (hb2.block b (Array.getElem?_eq_some_iff.1 hB).1).trans hB; have h2 := (hb2.block gb (Array.getElem?_eq_some_iff.1 h).1).trans h))
  go_wp2_with fail
  go_end0
  exact ⟨rfl, (Below.refl w.heap.size w).drew.trans hb2⟩
end Go.Proofs.YtgicihmdcnelaaaGreatDoor
namespace Go.Proofs.YtgicihmdcnelaaaGreatDoor
open Go.RowKit Go.Proofs.Sha

set_option maxRecDepth 100000 in
set_option maxHeartbeats 1000000 in
theorem c37_in (b : Nat) (hash over under : ByteArray) (par : Option Addr) (k v l r : ByteArray) (pl pr : Option Addr) (gb c base : Nat) (lo hi : ByteArray) (ps : List PairT) (a : Option Addr) (cap : Nat) (w : World) (hB : BF b hash over under par k v l r pl pr w) (h : w.heap[gb]? = some (.cells #[.string lo, .string hi] 138)) (hn : hasW lo hi k = true) (hL : LS c base ps a cap w) (hlen : ps.length ≤ 100000) : Calls Tryz.prog 115 #[.pointer (some ⟨b, 0, none⟩), .int .i64 1, .pointer (some ⟨gb, 0, none⟩), .pointer (some ⟨c, 0, none⟩)] w fun e w' => e = .returned (.tuple #[]) ∧ (∃ a' cap', LS c base (ps ++ [(k, v)]) a' cap' w') ∧ Fr base (fun q => q = c) w w' := by
  have c0 : w.cell? ⟨gb, 0, none⟩ = some (.string lo) := Lib.cell_of_heap h 0
  have c1 : w.cell? ⟨gb, 1, none⟩ = some (.string hi) := Lib.cell_of_heap h 1
  have c4 : w.cell? ⟨b, 4, none⟩ = some (.string k) := Lib.cell_of_heap hB 4
  have HC := fun w' => has_any lo hi k w'
  rw [hn] at HC
  go_enter Tryz.func115, Tryz.ntmps115
  go_wp2_with fail
  go_region_held3 (fun W => W.cell? ⟨b, 4, none⟩ = some (.string k) ∧ W.cell? ⟨gb, 0, none⟩ = some (.string lo) ∧ W.cell? ⟨gb, 1, none⟩ = some (.string hi)) (first | exact ⟨c4, c0, c1⟩ | exact ⟨Lib.cell_of_heap hB2 4, Lib.cell_of_heap h2 0, Lib.cell_of_heap h2 1⟩) (first | (go_at_call 116; refine (HC _).mono ?_; rintro e w2 ⟨rfl, hb2⟩; have hB2 := (hb2.block b (Array.getElem?_eq_some_iff.1 hB).1).trans hB; have h2 := (hb2.block gb (Array.getElem?_eq_some_iff.1 h).1).trans h))
  have hb2' : Below w.heap.size w w2 := (Below.refl w.heap.size w).drew.trans hb2
  have hL2 := hL.below hb2'
  obtain ⟨i0, hi0, hz0, hz1, hz2⟩ := info_parts2 info37
  clear hL h c0 c1 c4 HC hn h2
  have hbd : Below w.heap.size w w2.drew := hb2'.drew
  have hBd : BF b hash over under par k v l r pl pr w2.drew := hB2
  have HP := pairB_any b hash over under par k v l r pl pr w2.drew hBd
  have hLd : LS c base ps a cap w2.drew := ⟨hL2.blk, hL2.own, hL2.hb⟩
  have cd := Lib.cell_of_heap hLd.blk 0
  obtain ⟨n, hnl⟩ : ∃ n, ps.length = n := ⟨_, rfl⟩
  have hfl : Hid (flatP (ps ++ [(k, v)]) = flatP ps ++ [.string k, .string v]) := flatP_app _ _
  have hln : Hid ((ps ++ [(k, v)]).length = n + 1) := by show _ = _; rw [List.length_append, hnl]; rfl
  rw [hnl] at hlen cd
  clear hL2 hB hB2 hb2 hb2'
  rename_i hHeld0; clear hHeld0
  go_upto_region 1 with fail
  go_region_law (first
    | (refine step_append_lies _ (by rfl) (.tmp 17) (.tmp 20) 33 (by rfl) base 60 i0 (.agg #[.string ⟨#[]⟩, .string ⟨#[]⟩]) 2 32 Tryz.underlying33 hi0 hz0 hz1 hz2 (by rfl) (by decide) (.slice a n cap) n (flatP ps) (by rfl) (own3.alloc _) ⟨w3.heap.size, 0, none⟩ 1 1 [.string k, .string v] (by rfl) (by rfl) (World.news_of_block (heap_alloc_new w3 _)) (by simp [Value.oneCell']) (by decide) (by unfold maxLen; omega) (by omega) (by simp; omega) (w3.heap.size + 1) (by simp) ?_; intro g4 c4 w4 hown4 hgrow4 hat4 hlt4; have hlb4 := (hgrow4.block c (by simp; omega) (fun e => by obtain ⟨_, _, cur, h9⟩ := own2_cells own3 e.symm; rw [hblk3] at h9; simp at h9)).trans ((Below.heap_alloc w3 _ c hclt).trans hblk3); have k1 := Lib.cell_of_heap hlb4 0; have f1 : w4.frozen? ⟨c, 0, none⟩ = false := by rw [World.frozen?, hlb4]; rfl)
    | (go_simp; go_at_call 117; refine HP.mono ?_; rintro e w3 ⟨rfl, hb3⟩; have hL3 := hLd.below hb3; have hbs3 := hL3.hb; have own3 := hL3.own; rw [hnl] at own3; have hblk3 := hL3.blk; rw [hnl] at hblk3; have hclt := (Array.getElem?_eq_some_iff.1 hL3.blk).1; have cd3 := Lib.cell_of_heap hblk3 0; have cd4 : ∀ o, (w3.alloc o).cell? ⟨c, 0, none⟩ = some (.slice a n cap) := fun o => (World.cell?_alloc_lt _ _ _ (by show c < _; exact (Array.getElem?_eq_some_iff.1 hL3.blk).1)).trans cd3))
  all_goals
    have hs4 := hgrow4.size
    have hb4 : base ≤ w4.heap.size := by rw [World.size_alloc] at hs4; omega
    have hu : Fr base (fun q => q = c) w (w4.setCell ⟨c, 0, none⟩ (.slice (some ⟨g4, 0, none⟩) (n + 1) c4)) := ((Fr.of_below (hbd.trans (hb3.mono hbd.size))).trans (((Fr.of_below ((Below.refl _ _).alloc (Nat.le_refl _) _)).trans (Fr.of_grown hgrow4 (own3.alloc _)) (fun _ _ q => q))) (fun _ _ q => q)).setCell c 0 _ (.inl rfl)
    go_wp2_with fail
    go_end0
    refine ⟨rfl, ⟨some ⟨g4, 0, none⟩, c4, by rw [hln.out]; exact heap_setCell_same w4 c 0 _ 33 _ hlb4, by rw [hln.out, hfl.out]; exact own2_kept hown4 (fun g hv hg => Below.heap_setCell _ _ _ _ (by show g ≠ c; intro e; subst e; obtain ⟨_, _, cur, h9⟩ := own2_cells hown4 hv; rw [hlb4] at h9; simp at h9)), Nat.le_trans hb4 (Below.setCell (p := ⟨c, 0, none⟩) (Below.refl c w4) (Nat.le_refl c) _).size⟩, hu⟩
end Go.Proofs.YtgicihmdcnelaaaGreatDoor
namespace Go.Proofs.YtgicihmdcnelaaaGreatDoor
open Go.RowKit Go.Proofs.Sha

theorem Fr.below {B0 base : Nat} {N : Nat → Prop} {w w' : World} (h : Fr base N w w') (hb : B0 ≤ base) (hN : ∀ q, N q → B0 ≤ q) (hs : B0 ≤ w.heap.size) : Below B0 w w' :=
  ⟨h.os, h.tape, h.output, h.size, fun q hq => h.block q (by omega) (fun x => by have := hN q x; omega) (fun x => by omega)⟩
/-- The places of a walk. -/
structure Stc (B0 base lb c gb xl xa : Nat) : Prop where
  hl : B0 ≤ lb
  hc : B0 ≤ c
  h0 : B0 ≤ base
  l1 : xl < base
  l2 : xa < base
  l3 : gb < base
  l4 : c < base
  l5 : lb < base
  n1 : xl ≠ lb
  n2 : xl ≠ c
  n3 : xa ≠ lb
  n4 : xa ≠ c
  n5 : gb ≠ lb
  n6 : gb ≠ c
  n7 : lb ≠ c
/-- What stands around a walk. -/
structure Env (wg : World) (B0 base lb c gb xl xa : Nat) (lo hi : ByteArray) (w : World) : Prop where
  bx : w.heap[xl]? = some (.cells #[.pointer (some ⟨lb, 0, none⟩)] 169)
  ax : w.heap[xa]? = some (.cells #[.func (.func 115) #[] #[.pointer (some ⟨gb, 0, none⟩), .pointer (some ⟨c, 0, none⟩)]] 162)
  gx : w.heap[gb]? = some (.cells #[.string lo, .string hi] 138)
  bel : Below B0 wg w
  hs : base ≤ w.heap.size
section
variable {wg : World} {B0 base lb c gb xl xa : Nat} {lo hi : ByteArray} {w w' : World} {N : Nat → Prop}
theorem Env.fr (h : Env wg B0 base lb c gb xl xa lo hi w) (s : Stc B0 base lb c gb xl xa) (f : Fr base N w w') (hN : ∀ q, N q → q = lb ∨ q = c ∨ base ≤ q) : Env wg B0 base lb c gb xl xa lo hi w' := by
  have hh := s.h0
  refine ⟨f.keep h.bx (fun x => ?_) (.inr s.l1), f.keep h.ax (fun x => ?_) (.inr s.l2), f.keep h.gx (fun x => ?_) (.inr s.l3), h.bel.trans (f.below s.h0 (fun q hq => ?_) (Nat.le_trans hh h.hs)), Nat.le_trans h.hs f.size⟩
  · rcases hN _ x with e | e | e
    · exact s.n1 e
    · exact s.n2 e
    · have := s.l1; omega
  · rcases hN _ x with e | e | e
    · exact s.n3 e
    · exact s.n4 e
    · have := s.l2; omega
  · rcases hN _ x with e | e | e
    · exact s.n5 e
    · exact s.n6 e
    · have := s.l3; omega
  · rcases hN _ hq with e | e | e
    · rw [e]; exact s.hl
    · rw [e]; exact s.hc
    · omega
theorem Env.below (h : Env wg B0 base lb c gb xl xa lo hi w) (s : Stc B0 base lb c gb xl xa) (hb : Below w.heap.size w w') : Env wg B0 base lb c gb xl xa lo hi w' := h.fr s (Fr.of_below (N := fun _ => False) hb) (fun _ x => x.elim)
end
set_option maxRecDepth 100000 in
set_option maxHeartbeats 1000000 in
theorem c47_behind (b _lb c gb xl xa : Nat) (lo hi : ByteArray) (w : World) (ha : w.heap[xa]? = some (.cells #[.func (.func 115) #[] #[.pointer (some ⟨gb, 0, none⟩), .pointer (some ⟨c, 0, none⟩)]] 162)) (hg : w.heap[gb]? = some (.cells #[.string lo, .string hi] 138)) :
    Calls Tryz.prog 128 #[.pointer (some ⟨b, 0, none⟩), .int .i64 2, .pointer (some ⟨xl, 0, none⟩), .pointer (some ⟨xa, 0, none⟩)] w fun e w' => e = .returned (.bool true) ∧ Below w.heap.size w w' := by
  have a0 := Lib.cell_of_heap ha 0
  have HC := c37_no (some ⟨b, 0, none⟩) 2 (.inr rfl) gb c lo hi w hg
  go_enter Tryz.func128, Tryz.ntmps128
  go_wp2_with (first | (go_at_call 115; refine HC.mono ?_; rintro e w2 ⟨rfl, hb2⟩))
  go_ret
  exact ⟨rfl, hb2⟩
/-- What a walk does with a node between its subtrees. -/
theorem c37_any (b : Nat) (hash over under : ByteArray) (par : Option Addr) (k v l r : ByteArray) (pl pr : Option Addr) (gb c base : Nat) (lo hi : ByteArray) (ps : List PairT) (a : Option Addr) (cap : Nat) (w : World) (hB : BF b hash over under par k v l r pl pr w) (h : w.heap[gb]? = some (.cells #[.string lo, .string hi] 138)) (hL : LS c base ps a cap w) (hlen : ps.length ≤ 100000) : Calls Tryz.prog 115 #[.pointer (some ⟨b, 0, none⟩), .int .i64 1, .pointer (some ⟨gb, 0, none⟩), .pointer (some ⟨c, 0, none⟩)] w fun e w' => e = .returned (.tuple #[]) ∧ (∃ a' cap', LS c base (ps ++ (if hasW lo hi k = true then [(k, v)] else [])) a' cap' w') ∧ Fr base (fun q => q = c) w w' := by
  cases hh : hasW lo hi k with
  | true => rw [if_pos rfl]; exact c37_in b hash over under par k v l r pl pr gb c base lo hi ps a cap w hB h hh hL hlen
  | false =>
    rw [if_neg (by decide), List.append_nil]
    refine (c37_out b hash over under par k v l r pl pr gb c lo hi w hB h hh).mono ?_
    rintro e w' ⟨rfl, hb⟩
    exact ⟨rfl, ⟨a, cap, hL.below hb⟩, Fr.of_below hb⟩
set_option maxRecDepth 100000 in
set_option maxHeartbeats 1000000 in
theorem c47_between (b _lb c gb xl xa base : Nat) (hash over under : ByteArray) (par : Option Addr) (k v l r : ByteArray) (pl pr : Option Addr) (lo hi : ByteArray) (ps : List PairT) (a : Option Addr) (cap : Nat) (w : World) (ha : w.heap[xa]? = some (.cells #[.func (.func 115) #[] #[.pointer (some ⟨gb, 0, none⟩), .pointer (some ⟨c, 0, none⟩)]] 162)) (hg : w.heap[gb]? = some (.cells #[.string lo, .string hi] 138)) (hB : BF b hash over under par k v l r pl pr w) (hL : LS c base ps a cap w) (hlen : ps.length ≤ 100000) :
    Calls Tryz.prog 128 #[.pointer (some ⟨b, 0, none⟩), .int .i64 1, .pointer (some ⟨xl, 0, none⟩), .pointer (some ⟨xa, 0, none⟩)] w fun e w' => e = .returned (.bool true) ∧ (∃ a' cap', LS c base (ps ++ (if hasW lo hi k = true then [(k, v)] else [])) a' cap' w') ∧ Fr base (fun q => q = c) w w' := by
  have a0 := Lib.cell_of_heap ha 0
  have HC := c37_any b hash over under par k v l r pl pr gb c base lo hi ps a cap w hB hg hL hlen
  obtain ⟨X, hX⟩ : ∃ X, ps ++ (if hasW lo hi k = true then [(k, v)] else []) = X := ⟨_, rfl⟩
  rw [hX] at HC ⊢
  clear hX hL hB hg
  go_enter Tryz.func128, Tryz.ntmps128
  go_wp2_with (first | (go_at_call 115; refine HC.mono ?_; rintro e w2 ⟨rfl, hb2⟩))
  go_ret
  exact ⟨rfl, hb2⟩
set_option maxRecDepth 100000 in
set_option maxHeartbeats 1000000 in
theorem c47_before (fnd : ByteArray → FN) (wg : World) (B0 base lb sb c gb xl xa b : Nat) (hash over under pk : ByteArray) (par : Option Addr) (lo hi : ByteArray) (cnt : Nat) (w : World) (s : Stc B0 base lb c gb xl xa) (hE : Env wg B0 base lb c gb xl xa lo hi w) (hc : (fnd hash).2 = 0 ∨ (fnd hash).2 = 2 ∨ (fnd hash).2 = 3) (hL : LD lb sb cnt 0 w) (hB : BR b hash over under par w) (hP : ParAt par pk w) (hcn : cnt ≤ 500) (hbb : base ≤ b)
    (HF : Hid (∀ w', Below B0 wg w' → Calls Tryz.prog 143 #[.pointer (some ⟨sb, 0, none⟩), .string hash] w' fun e w'' => e = .returned (nodeT (fnd hash)) ∧ Below w'.heap.size w' w''))
    (HR : Hid (∀ w', Below B0 wg w' → (fnd hash).2 = 0 → Calls Tryz.prog 92 #[Value.string (fnd hash).1.1] w' fun e w'' => e = .returned (.agg (rkL (fnd hash).1.1).toArray) ∧ Below w'.heap.size w' w'')) :
    Calls Tryz.prog 128 #[.pointer (some ⟨b, 0, none⟩), .int .i64 0, .pointer (some ⟨xl, 0, none⟩), .pointer (some ⟨xa, 0, none⟩)] w fun e w' => e = .returned (.bool (decide (codeF fnd hash over under pk (cnt + 1) = 0))) ∧ Fr w.heap.size (fun q => q = b ∨ q = lb) w w' ∧ LD lb sb (cnt + 1) (codeF fnd hash over under pk (cnt + 1)) w' ∧ (codeF fnd hash over under pk (cnt + 1) = 0 → Kids b hash over under par (fnd hash).1.1 (fnd hash).1.2.1 (fnd hash).1.2.2.1 (fnd hash).1.2.2.2 w w') := by
  have x0 := Lib.cell_of_heap hE.bx 0
  have HT := take_any fnd wg B0 lb sb b hash over under pk par cnt w hc hL hB hP hcn hE.bel s.hl (Nat.le_trans s.h0 hE.hs) HF HR
  have HN : Hid (∀ w', Fr w.heap.size (fun q => q = b ∨ q = lb) w w' → w'.cell? ⟨xa, 0, none⟩ = some (.func (.func 115) #[] #[.pointer (some ⟨gb, 0, none⟩), .pointer (some ⟨c, 0, none⟩)]) ∧ Calls Tryz.prog 115 #[.pointer (some ⟨b, 0, none⟩), .int .i64 0, .pointer (some ⟨gb, 0, none⟩), .pointer (some ⟨c, 0, none⟩)] w' fun e w'' => e = .returned (.tuple #[]) ∧ Below w'.heap.size w' w'') := fun w' f => by
    have hE' := hE.fr s (f.base hE.hs) (fun q hq => by rcases hq with e | e; exact .inr (.inr (by omega)); exact .inl e)
    exact ⟨Lib.cell_of_heap hE'.ax 0, c37_no _ 0 (.inl rfl) gb c lo hi w' hE'.gx⟩
  obtain ⟨C, hC⟩ : ∃ C, codeF fnd hash over under pk (cnt + 1) = C := ⟨_, rfl⟩
  rw [hC] at HT ⊢
  clear hC hE s hL hB hP HF HR hc
  have HK : Hid (∀ w1 w2 : World, Below w1.heap.size w1 w2 → Kids b hash over under par (fnd hash).1.1 (fnd hash).1.2.1 (fnd hash).1.2.2.1 (fnd hash).1.2.2.2 w w1 → Kids b hash over under par (fnd hash).1.1 (fnd hash).1.2.1 (fnd hash).1.2.2.1 (fnd hash).1.2.2.2 w w2) := fun w1 w2 hb2 h => by
    obtain ⟨pl, pr, gl, gr, h1, h2, h3, h4, h5, h6, h7, h8⟩ := h
    exact ⟨pl, pr, gl, gr, (hb2.block b (Array.getElem?_eq_some_iff.1 h1).1).trans h1, h2.below hb2, h3.below hb2, h4.below hb2, h5.below hb2, h6, h7, h8⟩
  generalize Kids b hash over under par (fnd hash).1.1 (fnd hash).1.2.1 (fnd hash).1.2.2.1 (fnd hash).1.2.2.2 w = KK at HT HK ⊢
  cases hz : decide (C = 0) with
  | true =>
    rw [hz] at HT
    go_enter Tryz.func128, Tryz.ntmps128
    go_wp2_with (first | (go_at_call 129; refine HT.mono ?_; rintro e w2 ⟨rfl, f2, hL2, hk2⟩; obtain ⟨a2, HN2⟩ := HN.out w2 f2) | (go_at_call 115; refine HN2.mono ?_; rintro e w3 ⟨rfl, hb3⟩))
    go_ret
    exact ⟨rfl, f2.trans (Fr.of_below hb3) (fun q _ e => e), hL2.below hb3, fun h => HK.out _ _ hb3 (hk2 h)⟩
  | false =>
    rw [hz] at HT
    go_enter Tryz.func128, Tryz.ntmps128
    go_wp2_with (first | (go_at_call 129; refine HT.mono ?_; rintro e w2 ⟨rfl, f2, hL2, hk2⟩))
    go_ret
    exact ⟨rfl, f2, hL2, hk2⟩
end Go.Proofs.YtgicihmdcnelaaaGreatDoor
namespace Go.Proofs.YtgicihmdcnelaaaGreatDoor
open Go.RowKit Go.Proofs.Sha

theorem codeF_zero {fnd : ByteArray → FN} {hash over under pk : ByteArray} {cnt : Nat} (h : codeF fnd hash over under pk cnt = 0) : (fnd hash).2 = 0 ∧ (insW over under (fnd hash).1.1 && parW hgW pk (fnd hash).1.1) = true ∧ cnt ≤ 500 := by
  unfold codeF at h
  split at h
  · exact absurd h (by decide)
  · split at h
    · exact absurd h (by decide)
    · rename_i h2
      split at h
      · exact absurd h (by decide)
      · rename_i h3
        split at h
        · exact absurd h (by decide)
        · rename_i h4
          exact ⟨by simpa using h2, by simpa using h3, by omega⟩
theorem goF_code {fnd : ByteArray → FN} {lo hi : ByteArray} {f : Nat} {hash over under pk : ByteArray} {cnt : Nat} (h : (emp hash || !canW over under lo hi) = false) (hc : codeF fnd hash over under pk (cnt + 1) ≠ 0) : goF fnd hgW lo hi (f + 1) hash over under pk cnt = (codeF fnd hash over under pk (cnt + 1), 0, []) := by
  rw [goF, if_neg (by rw [h]; decide)]
  unfold codeF at hc ⊢
  split
  · rfl
  · rename_i h1
    rw [if_neg h1] at hc
    split
    · rfl
    · rename_i h2
      rw [if_neg h2] at hc
      split
      · rfl
      · rename_i h3
        rw [if_neg h3] at hc
        split
        · rfl
        · rename_i h4
          rw [if_neg h4] at hc
          exact absurd rfl hc
/-- What a walk leaves. -/
def WPost (base lb sb c : Nat) (ps : List PairT) (N : Nat → Prop) (w : World) (R : Int × Nat × List PairT) (e : Ending) (w' : World) : Prop :=
  e = .returned (.bool (decide (R.1 = 0))) ∧ Fr base N w w' ∧ (R.1 = 0 → LD lb sb R.2.1 0 w' ∧ ∃ a' cap', LS c base (ps ++ R.2.2) a' cap' w') ∧ (R.1 ≠ 0 → ∃ m, LD lb sb m R.1 w')
/-- The two function values of a walk. -/
abbrev intoV (lo hi : ByteArray) : Value := .func (.func 114) #[.agg #[.string lo, .string hi]] #[]
abbrev atV (xl xa : Nat) : Value := .func (.func 128) #[] #[.pointer (some ⟨xl, 0, none⟩), .pointer (some ⟨xa, 0, none⟩)]
def NWk (p : Option Addr) (lb c q : Nat) : Prop := (∃ a, p = some a ∧ q = a.block) ∨ q = lb ∨ q = c
set_option maxRecDepth 100000 in
set_option maxHeartbeats 1000000 in
theorem walk_none (base lb sb c xl xa : Nat) (lo hi over under pk : ByteArray) (f : Nat) (fnd : ByteArray → FN) (cnt : Nat) (ps : List PairT) (a : Option Addr) (cap : Nat) (hash : ByteArray) (he : emp hash = true) (w : World) (hL : LD lb sb cnt 0 w) (hS : LS c base ps a cap w) :
    Calls Tryz.prog 126 #[.pointer none, intoV lo hi, atV xl xa] w (WPost base lb sb c ps (NWk none lb c) w (goF fnd hgW lo hi (f + 1) hash over under pk cnt)) := by
  rw [goF_skip (by rw [he]; rfl)]
  have HI := goInto_none lo hi w
  have HP : Hid (∀ w', Below w.heap.size w w' → WPost base lb sb c ps (NWk none lb c) w (0, cnt, []) (.returned (.bool true)) w') := fun w' hb => ⟨rfl, Fr.of_below hb, fun _ => ⟨hL.below hb, a, cap, by rw [List.append_nil]; exact hS.below hb⟩, fun h => absurd rfl h⟩
  clear hL hS
  go_enter Tryz.func126, Tryz.ntmps126
  go_wp2_with (first | (go_at_call 114; refine HI.mono ?_; rintro e w2 ⟨rfl, hb2⟩))
  go_ret
  exact HP.out _ hb2
set_option maxRecDepth 100000 in
set_option maxHeartbeats 1000000 in
theorem walk_cut (base lb sb c xl xa b : Nat) (lo hi over under pk : ByteArray) (par : Option Addr) (f : Nat) (fnd : ByteArray → FN) (cnt : Nat) (ps : List PairT) (a : Option Addr) (cap : Nat) (hash : ByteArray) (hc : canW over under lo hi = false) (w : World) (hB : BR b hash over under par w) (hL : LD lb sb cnt 0 w) (hS : LS c base ps a cap w) :
    Calls Tryz.prog 126 #[.pointer (some ⟨b, 0, none⟩), intoV lo hi, atV xl xa] w (WPost base lb sb c ps (NWk (some ⟨b, 0, none⟩) lb c) w (goF fnd hgW lo hi (f + 1) hash over under pk cnt)) := by
  rw [goF_skip (by rw [hc]; simp)]
  have HI := goInto_some lo hi b hash over under par w hB
  rw [hc] at HI
  have HP : Hid (∀ w', Below w.heap.size w w' → WPost base lb sb c ps (NWk (some ⟨b, 0, none⟩) lb c) w (0, cnt, []) (.returned (.bool true)) w') := fun w' hb => ⟨rfl, Fr.of_below hb, fun _ => ⟨hL.below hb, a, cap, by rw [List.append_nil]; exact hS.below hb⟩, fun h => absurd rfl h⟩
  clear hL hS hB hc
  go_enter Tryz.func126, Tryz.ntmps126
  go_wp2_with (first | (go_at_call 114; refine HI.mono ?_; rintro e w2 ⟨rfl, hb2⟩))
  go_ret
  exact HP.out _ hb2
/-- All that stands around a node's walk, but its subtrees. -/
structure Around (wg : World) (B0 base lb sb c gb xl xa : Nat) (lo hi : ByteArray) (b : Nat) (w0 : World) (cnt : Nat) (ps : List PairT) (w : World) : Prop where
  env : Env wg B0 base lb c gb xl xa lo hi w
  ld : LD lb sb cnt 0 w
  ls : ∃ a cap, LS c base ps a cap w
  fr : Fr base (NWk (some ⟨b, 0, none⟩) lb c) w0 w
/-- The node with its right subtree. -/
structure RightAt (base b : Nat) (w0 : World) (hash over under : ByteArray) (par : Option Addr) (k v l r : ByteArray) (pl pr : Option Addr) (gr : Nat) (w : World) : Prop where
  bf : BF b hash over under par k v l r pl pr w
  lk : LinkAt r k under (some ⟨gr, 0, none⟩) pr w
  rk : RKb gr k w
  hp : ∀ q, pr = some q → base ≤ q.block ∧ w0.heap.size ≤ q.block
/-- Its left subtree. -/
structure LeftAt (base : Nat) (w0 : World) (over k l : ByteArray) (pl pr : Option Addr) (gl : Nat) (w : World) : Prop where
  lk : LinkAt l over k (some ⟨gl, 0, none⟩) pl w
  rk : RKb gl k w
  hp : ∀ q, pl = some q → base ≤ q.block ∧ w0.heap.size ≤ q.block
  ne : ∀ q q', pl = some q → pr = some q' → q.block ≠ q'.block
section
variable {wg : World} {B0 base lb sb c gb xl xa : Nat} {lo hi : ByteArray} {b : Nat} {w0 w w' : World} {cnt : Nat} {ps : List PairT} {hash over under : ByteArray} {par : Option Addr} {k v l r : ByteArray} {pl pr : Option Addr} {gl gr : Nat}
theorem Around.below (h : Around wg B0 base lb sb c gb xl xa lo hi b w0 cnt ps w) (s : Stc B0 base lb c gb xl xa) (hb : Below w.heap.size w w') : Around wg B0 base lb sb c gb xl xa lo hi b w0 cnt ps w' := by
  obtain ⟨a, cap, h1⟩ := h.ls
  exact ⟨h.env.below s hb, h.ld.below hb, ⟨a, cap, h1.below hb⟩, h.fr.trans (Fr.of_below (N := fun _ => False) hb) (fun _ _ x => x.elim)⟩
theorem RightAt.below (h : RightAt base b w0 hash over under par k v l r pl pr gr w) (hb : Below w.heap.size w w') : RightAt base b w0 hash over under par k v l r pl pr gr w' :=
  ⟨(hb.block b (Array.getElem?_eq_some_iff.1 h.bf).1).trans h.bf, h.lk.below hb, h.rk.below hb, h.hp⟩
theorem LeftAt.below (h : LeftAt base w0 over k l pl pr gl w) (hb : Below w.heap.size w w') : LeftAt base w0 over k l pl pr gl w' := ⟨h.lk.below hb, h.rk.below hb, h.hp, h.ne⟩
end
theorem LS.fr {c base : Nat} {ps : List PairT} {a : Option Addr} {cap : Nat} {N : Nat → Prop} {w w' : World} (h : LS c base ps a cap w) (f : Fr w.heap.size N w w') (hN : ∀ q, N q → ∃ cs t, w.heap[q]? = some (.cells cs t) ∧ t ≠ 33 ∧ t ≠ 60) : LS c base ps a cap w' := by
  refine ⟨f.keep h.blk (fun x => ?_) (.inl (by decide)), own2_kept h.own (fun g hv hg => f.block g hg (fun x => ?_) (fun x => by omega)), Nat.le_trans h.hb f.size⟩
  · obtain ⟨cs, t, h1, h2, h3⟩ := hN _ x
    exact ne_of_type h.blk h1 (fun e => h2 e.symm) rfl
  · obtain ⟨cs, t, h1, h2, h3⟩ := hN _ x
    obtain ⟨_, _, cur, h4⟩ := own2_cells h.own hv
    exact ne_of_type h4 h1 (fun e => h3 e.symm) rfl
set_option maxRecDepth 100000 in
set_option maxHeartbeats 2000000 in
theorem walk_any (fnd : ByteArray → FN) (wd : Nat) (hfo : FndOk wd fnd) (wg : World) (B0 base lb sb c gb xl xa : Nat) (lo hi : ByteArray) (s : Stc B0 base lb c gb xl xa)
    (HF : Hid (∀ (hash : ByteArray) w', hash.size = wd → Below B0 wg w' → Calls Tryz.prog 143 #[.pointer (some ⟨sb, 0, none⟩), .string hash] w' fun e w'' => e = .returned (nodeT (fnd hash)) ∧ Below w'.heap.size w' w''))
    (HR : Hid (∀ (k : ByteArray) w', okKey k = true → Below B0 wg w' → Calls Tryz.prog 92 #[Value.string k] w' fun e w'' => e = .returned (.agg (rkL k).toArray) ∧ Below w'.heap.size w' w'')) :
    ∀ (f : Nat) (hash over under pk : ByteArray) (par p : Option Addr) (cnt : Nat) (ps : List PairT) (a : Option Addr) (cap : Nat) (w : World), Env wg B0 base lb c gb xl xa lo hi w → LinkAt hash over under par p w → ParAt par pk w → LD lb sb cnt 0 w → LS c base ps a cap w → (∀ q, p = some q → base ≤ q.block) → (hash.size = 0 ∨ hash.size = wd) → 500 < cnt + f → cnt ≤ 500 → ps.length ≤ cnt →
    Calls Tryz.prog 126 #[.pointer p, intoV lo hi, atV xl xa] w (WPost base lb sb c ps (NWk p lb c) w (goF fnd hgW lo hi f hash over under pk cnt))
  | 0, _, _, _, _, _, _, _, _, _, _, _, _, _, _, _, _, _, _, h1, h2, _ => by omega
  | f + 1, hash, over, under, pk, par, p, cnt, ps, a, cap, w, hE, hK, hP, hL, hS, hpb, hsz, h500, hcn, hln => by
    rcases hK with ⟨he, rfl⟩ | ⟨he, b, rfl, hB⟩
    · exact walk_none base lb sb c xl xa lo hi over under pk f fnd cnt ps a cap hash he w hL hS
    cases hcan : canW over under lo hi with
    | false => exact walk_cut base lb sb c xl xa b lo hi over under pk par f fnd cnt ps a cap hash hcan w hB hL hS
    | true =>
    have hskip : (emp hash || !canW over under lo hi) = false := by rw [he, hcan]; rfl
    have hwd : hash.size = wd := by
      rcases hsz with h | h
      · have h9 : emp hash = true := by unfold emp; simp [h]
        rw [he] at h9; cases h9
      · exact h
    have hbb : base ≤ b := hpb _ rfl
    have HI := goInto_some lo hi b hash over under par w hB
    rw [hcan] at HI
    have HB : Hid (∀ w0, Below w.heap.size w w0 → Calls Tryz.prog 128 #[.pointer (some ⟨b, 0, none⟩), .int .i64 0, .pointer (some ⟨xl, 0, none⟩), .pointer (some ⟨xa, 0, none⟩)] w0 fun e w' => e = .returned (.bool (decide (codeF fnd hash over under pk (cnt + 1) = 0))) ∧ Fr w0.heap.size (fun q => q = b ∨ q = lb) w0 w' ∧ LD lb sb (cnt + 1) (codeF fnd hash over under pk (cnt + 1)) w' ∧ (codeF fnd hash over under pk (cnt + 1) = 0 → Kids b hash over under par (fnd hash).1.1 (fnd hash).1.2.1 (fnd hash).1.2.2.1 (fnd hash).1.2.2.2 w0 w')) := fun w0 hb0 =>
      c47_before fnd wg B0 base lb sb c gb xl xa b hash over under pk par lo hi cnt w0 s (hE.below s hb0) (hfo.code hash) (hL.below hb0) ((hb0.block b (Array.getElem?_eq_some_iff.1 hB).1).trans hB) (hP.fr (Fr.of_below (base := 0) (N := fun _ => False) hb0) (fun _ _ h => h)) hcn hbb (fun w' h' => HF.out hash w' hwd h') (fun w' h' hz => HR.out _ w' (hfo.node hash hz).1 h')
    by_cases hC : codeF fnd hash over under pk (cnt + 1) = 0
    · obtain ⟨hz, hfit, hc5⟩ := codeF_zero hC
      obtain ⟨okk, okv, okl, okr⟩ := hfo.node hash hz
      have hke : emp (fnd hash).1.1 = false := by
        have h9 : 1 ≤ (fnd hash).1.1.size := by
          unfold okKey at okk
          simp at okk
          omega
        unfold emp
        exact decide_eq_false (by omega)
      have hfe : fnd hash = (((fnd hash).1.1, (fnd hash).1.2.1, (fnd hash).1.2.2.1, (fnd hash).1.2.2.2), 0) := by rw [← hz]
      obtain ⟨LR, hLR⟩ : ∃ LR, goF fnd hgW lo hi f (fnd hash).1.2.2.1 over (fnd hash).1.1 (fnd hash).1.1 (cnt + 1) = LR := ⟨_, rfl⟩
      obtain ⟨RR, hRR⟩ : ∃ RR, goF fnd hgW lo hi f (fnd hash).1.2.2.2 (fnd hash).1.1 under (fnd hash).1.1 LR.2.1 = RR := ⟨_, rfl⟩
      rw [goF_node hskip hfe hfit hc5 hLR hRR]
      have IL := fun par' p' ps' a' cap' w' => walk_any fnd wd hfo wg B0 base lb sb c gb xl xa lo hi s HF HR f (fnd hash).1.2.2.1 over (fnd hash).1.1 (fnd hash).1.1 par' p' (cnt + 1) ps' a' cap' w'
      have IR := fun par' p' ps' a' cap' w' => walk_any fnd wd hfo wg B0 base lb sb c gb xl xa lo hi s HF HR f (fnd hash).1.2.2.2 (fnd hash).1.1 under (fnd hash).1.1 par' p' LR.2.1 ps' a' cap' w'
      have hcl : LR.1 = 0 → cnt + 1 ≤ LR.2.1 ∧ LR.2.1 ≤ 500 := fun h => by rw [← hLR] at h ⊢; exact goF_cnt f _ _ _ _ _ hc5 h
      have hll : LR.1 = 0 → cnt + 1 + LR.2.2.length ≤ LR.2.1 := fun h => by rw [← hLR] at h ⊢; exact goF_len f _ _ _ _ _ h
      rw [hLR] at IL
      rw [hRR] at IR
      rw [hC] at HB
      rw [decide_eq_true rfl] at HB
      generalize (fnd hash).1.1 = k at *
      generalize (fnd hash).1.2.1 = v at *
      generalize (fnd hash).1.2.2.1 = l at *
      generalize (fnd hash).1.2.2.2 = r at *
      have K1 : Hid (∀ w2, Below w.heap.size w w2 → Calls Tryz.prog 128 #[.pointer (some ⟨b, 0, none⟩), .int .i64 0, .pointer (some ⟨xl, 0, none⟩), .pointer (some ⟨xa, 0, none⟩)] w2 fun e w3 => e = .returned (.bool true) ∧ ∃ pl pr gl gr, Around wg B0 base lb sb c gb xl xa lo hi b w (cnt + 1) ps w3 ∧ RightAt base b w hash over under par k v l r pl pr gr w3 ∧ LeftAt base w over k l pl pr gl w3) := fun w2 hb2 => by
        refine (HB.out w2 hb2).mono ?_
        rintro e w3 ⟨rfl, f3, hL3, hk3⟩
        obtain ⟨pl, pr, gl, gr, h1, h2, h3, h4, h5, h6, h7, h8⟩ := hk3 rfl
        have hs2 := hb2.size
        have hB2 : BR b hash over under par w2 := (hb2.block b (Array.getElem?_eq_some_iff.1 hB).1).trans hB
        have hL2 := hL.below hb2
        have hw2 : base ≤ w2.heap.size := Nat.le_trans hE.hs hs2
        have e3 := (hE.below s hb2).fr s (f3.base hw2) (fun q hq => by rcases hq with e | e; exact .inr (.inr (by omega)); exact .inl e)
        have s3 := (hS.below hb2).fr f3 (fun q hq => by rcases hq with e | e; exact ⟨_, _, by rw [e]; exact hB2, by decide, by decide⟩; exact ⟨_, _, by rw [e]; exact hL2, by decide, by decide⟩)
        refine ⟨rfl, pl, pr, gl, gr, ⟨e3, hL3, ⟨a, cap, s3⟩, (Fr.of_below hb2).trans (f3.base hw2) (fun q _ e => by rcases e with e | e; exact .inl ⟨_, rfl, e⟩; exact .inr (.inl e))⟩, ⟨h1, h4, h5, fun q hq => ?_⟩, ⟨h2, h3, fun q hq => ?_, fun q q' hq hq' => Nat.ne_of_lt (h8 q q' hq hq')⟩⟩
        · have := h7 q hq; omega
        · have := h6 q hq; omega
      have K3 : Hid (∀ pl pr gl gr w4, Around wg B0 base lb sb c gb xl xa lo hi b w (cnt + 1) ps w4 → RightAt base b w hash over under par k v l r pl pr gr w4 → LeftAt base w over k l pl pr gl w4 → Calls Tryz.prog 126 #[.pointer pl, intoV lo hi, atV xl xa] w4 fun e w5 => e = .returned (.bool (decide (LR.1 = 0))) ∧ (LR.1 = 0 → Around wg B0 base lb sb c gb xl xa lo hi b w LR.2.1 (ps ++ LR.2.2) w5 ∧ RightAt base b w hash over under par k v l r pl pr gr w5) ∧ (LR.1 ≠ 0 → (∃ m, LD lb sb m LR.1 w5) ∧ Fr base (NWk (some ⟨b, 0, none⟩) lb c) w w5)) := fun pl pr gl gr w4 hA hR hF => by
        obtain ⟨a4, cap4, hS4⟩ := hA.ls
        refine (IL (some ⟨gl, 0, none⟩) pl ps a4 cap4 w4 hA.env hF.lk (.inr ⟨hke, gl, rfl, hF.rk⟩) hA.ld hS4 (fun q hq => (hF.hp q hq).1) okl (by omega) hc5 (by omega)).mono ?_
        rintro e w5 ⟨rfl, f5, g5, n5⟩
        have hN : ∀ q, NWk pl lb c q → q = lb ∨ q = c ∨ base ≤ q := fun q hq => by
          rcases hq with ⟨x, hx, e⟩ | e | e
          · have := (hF.hp x hx).1; exact .inr (.inr (by omega))
          · exact .inl e
          · exact .inr (.inl e)
        have hfr : Fr base (NWk (some ⟨b, 0, none⟩) lb c) w w5 := hA.fr.trans f5 (fun q hq e => by
          rcases e with ⟨x, hx, e⟩ | e | e
          · have := (hF.hp x hx).2; omega
          · exact .inr (.inl e)
          · exact .inr (.inr e))
        have l4 := s.l4
        have l5 := s.l5
        have hnb : ¬ NWk pl lb c b := fun hq => by
          rcases hq with ⟨x, hx, e⟩ | e | e
          · have := (hF.hp x hx).2; have := (Array.getElem?_eq_some_iff.1 hB).1; omega
          · omega
          · omega
        have hnr : ∀ q, pr = some q → ¬ NWk pl lb c q.block := fun q hq hx => by
          have h1 := (hR.hp q hq).1
          rcases hx with ⟨x, hx, e⟩ | e | e
          · exact hF.ne x q hx hq e.symm
          · omega
          · omega
        have hng : ¬ NWk pl lb c gr := fun hx => by
          rcases hx with ⟨x, hx, e⟩ | e | e
          · rcases hF.lk with ⟨_, h⟩ | ⟨_, q, h, hq⟩
            · rw [h] at hx; cases hx
            · rw [h] at hx; cases hx; exact ne_of_type hR.rk hq (by decide) e
          · exact ne_of_type hR.rk hA.ld (by decide) e
          · exact ne_of_type hR.rk hS4.blk (by decide) e
        refine ⟨rfl, fun h0 => ⟨⟨hA.env.fr s f5 hN, (g5 h0).1, (g5 h0).2, hfr⟩, ⟨f5.keep hR.bf hnb (.inl (by decide)), hR.lk.fr f5 hnr, f5.keep hR.rk hng (.inl (by decide)), hR.hp⟩⟩, fun h0 => ⟨n5 h0, hfr⟩⟩
      have K4 : Hid (∀ pl pr gr w5, LR.1 = 0 → Around wg B0 base lb sb c gb xl xa lo hi b w LR.2.1 (ps ++ LR.2.2) w5 → RightAt base b w hash over under par k v l r pl pr gr w5 → Calls Tryz.prog 128 #[.pointer (some ⟨b, 0, none⟩), .int .i64 1, .pointer (some ⟨xl, 0, none⟩), .pointer (some ⟨xa, 0, none⟩)] w5 fun e w6 => e = .returned (.bool true) ∧ Around wg B0 base lb sb c gb xl xa lo hi b w LR.2.1 (ps ++ LR.2.2 ++ (if hasW lo hi k = true then [(k, v)] else [])) w6 ∧ RightAt base b w hash over under par k v l r pl pr gr w6) := fun pl pr gr w5 h0 hA hR => by
        obtain ⟨a5, cap5, hS5⟩ := hA.ls
        have q1 := hcl h0
        have q2 := hll h0
        refine (c47_between b lb c gb xl xa base hash over under par k v l r pl pr lo hi (ps ++ LR.2.2) a5 cap5 w5 hA.env.ax hA.env.gx hR.bf hS5 (by rw [List.length_append]; omega)).mono ?_
        rintro e w6 ⟨rfl, hS6, f6⟩
        have l4 := s.l4
        refine ⟨rfl, ⟨hA.env.fr s f6 (fun q hq => .inr (.inl hq)), f6.keep hA.ld s.n7 (.inl (by decide)), hS6, hA.fr.trans f6 (fun q _ e => .inr (.inr e))⟩, ⟨f6.keep hR.bf (by omega) (.inl (by decide)), hR.lk.fr f6 (fun q hq e => by have := (hR.hp q hq).1; omega), f6.keep hR.rk (ne_of_type hR.rk hS5.blk (by decide)) (.inl (by decide)), hR.hp⟩⟩
      obtain ⟨X, hX⟩ : ∃ X, (if hasW lo hi k = true then [(k, v)] else []) = X := ⟨_, rfl⟩
      have hXl : X.length ≤ 1 := by rw [← hX]; split <;> simp
      rw [hX] at K4 ⊢
      have K5 : Hid (∀ pl pr gr w6, LR.1 = 0 → Around wg B0 base lb sb c gb xl xa lo hi b w LR.2.1 (ps ++ LR.2.2 ++ X) w6 → RightAt base b w hash over under par k v l r pl pr gr w6 → Calls Tryz.prog 126 #[.pointer pr, intoV lo hi, atV xl xa] w6 fun e w7 => e = .returned (.bool (decide (RR.1 = 0))) ∧ (RR.1 = 0 → Around wg B0 base lb sb c gb xl xa lo hi b w RR.2.1 (ps ++ (LR.2.2 ++ X ++ RR.2.2)) w7) ∧ (RR.1 ≠ 0 → (∃ m, LD lb sb m RR.1 w7) ∧ Fr base (NWk (some ⟨b, 0, none⟩) lb c) w w7)) := fun pl pr gr w6 h0 hA hR => by
        obtain ⟨a6, cap6, hS6⟩ := hA.ls
        have q1 := hcl h0
        have q2 := hll h0
        refine (IR (some ⟨gr, 0, none⟩) pr _ a6 cap6 w6 hA.env hR.lk (.inr ⟨hke, gr, rfl, hR.rk⟩) hA.ld hS6 (fun q hq => (hR.hp q hq).1) okr (by omega) q1.2 (by rw [List.length_append, List.length_append]; omega)).mono ?_
        rintro e w7 ⟨rfl, f7, g7, n7⟩
        have hN : ∀ q, NWk pr lb c q → q = lb ∨ q = c ∨ base ≤ q := fun q hq => by
          rcases hq with ⟨x, hx, e⟩ | e | e
          · have := (hR.hp x hx).1; exact .inr (.inr (by omega))
          · exact .inl e
          · exact .inr (.inl e)
        have hfr : Fr base (NWk (some ⟨b, 0, none⟩) lb c) w w7 := hA.fr.trans f7 (fun q hq e => by
          rcases e with ⟨x, hx, e⟩ | e | e
          · have := (hR.hp x hx).2; omega
          · exact .inr (.inl e)
          · exact .inr (.inr e))
        have e1 : ps ++ (LR.2.2 ++ X ++ RR.2.2) = ps ++ LR.2.2 ++ X ++ RR.2.2 := by simp
        refine ⟨rfl, fun hz => ⟨hA.env.fr s f7 hN, (g7 hz).1, by rw [e1]; exact (g7 hz).2, hfr⟩, fun hz => ⟨n7 hz, hfr⟩⟩
      have K6 : Hid (∀ ps' m w7, Around wg B0 base lb sb c gb xl xa lo hi b w m ps' w7 → Calls Tryz.prog 128 #[.pointer (some ⟨b, 0, none⟩), .int .i64 2, .pointer (some ⟨xl, 0, none⟩), .pointer (some ⟨xa, 0, none⟩)] w7 fun e w8 => e = .returned (.bool true) ∧ Around wg B0 base lb sb c gb xl xa lo hi b w m ps' w8) := fun ps' m w7 hA => by
        refine (c47_behind b lb c gb xl xa lo hi w7 hA.env.ax hA.env.gx).mono ?_
        rintro e w8 ⟨rfl, hb8⟩
        exact ⟨rfl, hA.below s hb8⟩
      have K2 : Hid (∀ pl pr gl gr w3, Around wg B0 base lb sb c gb xl xa lo hi b w (cnt + 1) ps w3 → RightAt base b w hash over under par k v l r pl pr gr w3 → LeftAt base w over k l pl pr gl w3 → Calls Tryz.prog 167 #[.pointer (some ⟨b, 0, none⟩)] w3 fun e w4 => e = .returned (.tuple #[.pointer pl, .pointer pr]) ∧ Around wg B0 base lb sb c gb xl xa lo hi b w (cnt + 1) ps w4 ∧ RightAt base b w hash over under par k v l r pl pr gr w4 ∧ LeftAt base w over k l pl pr gl w4) := fun pl pr gl gr w3 hA hR hF => by
        refine (subsB_any b hash over under par k v l r pl pr w3 hR.bf).mono ?_
        rintro e w4 ⟨rfl, hb4⟩
        exact ⟨rfl, hA.below s hb4, hR.below hb4, hF.below hb4⟩
      have hm : ∀ w' : World, (method 350 155 (.pointer (some ⟨b, 0, none⟩)) "loop.example/s03048/impl.subtrees").run Tryz.prog w' = .ok (167, .pointer (some ⟨b, 0, none⟩)) w' := fun _ => by kernel_rfl
      clear IL IR HB hLR hRR hfe hE hP hL hS hB hX hcl hll hXl okk okv okl okr hC hfit HF HR hfo
      by_cases hl0 : LR.1 = 0
      · rw [if_neg (fun h => h hl0)]
        rw [decide_eq_true hl0] at K3
        by_cases hr0 : RR.1 = 0
        · rw [if_neg (fun h => h hr0)]
          rw [decide_eq_true hr0] at K5
          have HP : Hid (∀ w8, Around wg B0 base lb sb c gb xl xa lo hi b w RR.2.1 (ps ++ (LR.2.2 ++ X ++ RR.2.2)) w8 → WPost base lb sb c ps (NWk (some ⟨b, 0, none⟩) lb c) w (0, RR.2.1, LR.2.2 ++ X ++ RR.2.2) (.returned (.bool true)) w8) := fun w8 hA => ⟨rfl, hA.fr, fun _ => ⟨hA.ld, hA.ls⟩, fun h => absurd rfl h⟩
          have K3' : Hid (∀ pl pr gl gr w4, Around wg B0 base lb sb c gb xl xa lo hi b w (cnt + 1) ps w4 → RightAt base b w hash over under par k v l r pl pr gr w4 → LeftAt base w over k l pl pr gl w4 → Calls Tryz.prog 126 #[.pointer pl, intoV lo hi, atV xl xa] w4 fun e w5 => e = .returned (.bool true) ∧ Around wg B0 base lb sb c gb xl xa lo hi b w LR.2.1 (ps ++ LR.2.2) w5 ∧ RightAt base b w hash over under par k v l r pl pr gr w5) := fun pl pr gl gr w4 h1 h2 h3 => by
            refine (K3.out pl pr gl gr w4 h1 h2 h3).mono ?_
            rintro e w5 ⟨he5, h5, _⟩
            exact ⟨he5, h5 hl0⟩
          have K5' : Hid (∀ pl pr gr w6, Around wg B0 base lb sb c gb xl xa lo hi b w LR.2.1 (ps ++ LR.2.2 ++ X) w6 → RightAt base b w hash over under par k v l r pl pr gr w6 → Calls Tryz.prog 126 #[.pointer pr, intoV lo hi, atV xl xa] w6 fun e w7 => e = .returned (.bool true) ∧ Around wg B0 base lb sb c gb xl xa lo hi b w RR.2.1 (ps ++ (LR.2.2 ++ X ++ RR.2.2)) w7) := fun pl pr gr w6 h1 h2 => by
            refine (K5.out pl pr gr w6 hl0 h1 h2).mono ?_
            rintro e w7 ⟨he7, h7, _⟩
            exact ⟨he7, h7 hr0⟩
          have K4' : Hid (∀ pl pr gr w5, Around wg B0 base lb sb c gb xl xa lo hi b w LR.2.1 (ps ++ LR.2.2) w5 → RightAt base b w hash over under par k v l r pl pr gr w5 → Calls Tryz.prog 128 #[.pointer (some ⟨b, 0, none⟩), .int .i64 1, .pointer (some ⟨xl, 0, none⟩), .pointer (some ⟨xa, 0, none⟩)] w5 fun e w6 => e = .returned (.bool true) ∧ Around wg B0 base lb sb c gb xl xa lo hi b w LR.2.1 (ps ++ LR.2.2 ++ X) w6 ∧ RightAt base b w hash over under par k v l r pl pr gr w6) := fun pl pr gr w5 => K4.out pl pr gr w5 hl0
          clear K3 K5 K4 hl0 hr0
          go_enter Tryz.func126, Tryz.ntmps126
          go_wp2_with (first | (go_at_call 114; refine HI.mono ?_; rintro e w2 ⟨rfl, hb2⟩) | (go_at_call_of 128 (Value.int .i64 0); refine (K1.out _ hb2).mono ?_; rintro e w3 ⟨rfl, pl, pr, gl, gr, hA3, hR3, hF3⟩) | (go_at_call 167; refine (K2.out _ _ _ _ _ hA3 hR3 hF3).mono ?_; rintro e w4 ⟨rfl, hA4, hR4, hF4⟩) | (go_at_call_of 126 (Value.pointer pl); refine (K3'.out _ _ _ _ _ hA4 hR4 hF4).mono ?_; rintro e w5 ⟨rfl, hA5, hR5⟩) | (go_at_call_of 128 (Value.int .i64 1); refine (K4'.out _ _ _ _ hA5 hR5).mono ?_; rintro e w6 ⟨rfl, hA6, hR6⟩) | (go_at_call_of 126 (Value.pointer pr); refine (K5'.out _ _ _ _ hA6 hR6).mono ?_; rintro e w7 ⟨rfl, hA7⟩) | (go_at_call_of 128 (Value.int .i64 2); refine (K6.out _ _ _ hA7).mono ?_; rintro e w8 ⟨rfl, hA8⟩))
          go_ret
          exact HP.out _ hA8
        · rw [if_pos hr0]
          rw [decide_eq_false hr0] at K5
          have HP : Hid (∀ w7, ((∃ m, LD lb sb m RR.1 w7) ∧ Fr base (NWk (some ⟨b, 0, none⟩) lb c) w w7) → WPost base lb sb c ps (NWk (some ⟨b, 0, none⟩) lb c) w (RR.1, 0, []) (.returned (.bool false)) w7) := fun w7 hA => ⟨by rw [decide_eq_false hr0], hA.2, fun h => absurd h hr0, fun _ => hA.1⟩
          have K3' : Hid (∀ pl pr gl gr w4, Around wg B0 base lb sb c gb xl xa lo hi b w (cnt + 1) ps w4 → RightAt base b w hash over under par k v l r pl pr gr w4 → LeftAt base w over k l pl pr gl w4 → Calls Tryz.prog 126 #[.pointer pl, intoV lo hi, atV xl xa] w4 fun e w5 => e = .returned (.bool true) ∧ Around wg B0 base lb sb c gb xl xa lo hi b w LR.2.1 (ps ++ LR.2.2) w5 ∧ RightAt base b w hash over under par k v l r pl pr gr w5) := fun pl pr gl gr w4 h1 h2 h3 => by
            refine (K3.out pl pr gl gr w4 h1 h2 h3).mono ?_
            rintro e w5 ⟨he5, h5, _⟩
            exact ⟨he5, h5 hl0⟩
          have K5' : Hid (∀ pl pr gr w6, Around wg B0 base lb sb c gb xl xa lo hi b w LR.2.1 (ps ++ LR.2.2 ++ X) w6 → RightAt base b w hash over under par k v l r pl pr gr w6 → Calls Tryz.prog 126 #[.pointer pr, intoV lo hi, atV xl xa] w6 fun e w7 => e = .returned (.bool false) ∧ WPost base lb sb c ps (NWk (some ⟨b, 0, none⟩) lb c) w (RR.1, 0, []) (.returned (.bool false)) w7) := fun pl pr gr w6 h1 h2 => by
            refine (K5.out pl pr gr w6 hl0 h1 h2).mono ?_
            rintro e w7 ⟨he7, _, h7⟩
            exact ⟨he7, HP.out _ (h7 hr0)⟩
          have K4' : Hid (∀ pl pr gr w5, Around wg B0 base lb sb c gb xl xa lo hi b w LR.2.1 (ps ++ LR.2.2) w5 → RightAt base b w hash over under par k v l r pl pr gr w5 → Calls Tryz.prog 128 #[.pointer (some ⟨b, 0, none⟩), .int .i64 1, .pointer (some ⟨xl, 0, none⟩), .pointer (some ⟨xa, 0, none⟩)] w5 fun e w6 => e = .returned (.bool true) ∧ Around wg B0 base lb sb c gb xl xa lo hi b w LR.2.1 (ps ++ LR.2.2 ++ X) w6 ∧ RightAt base b w hash over under par k v l r pl pr gr w6) := fun pl pr gr w5 => K4.out pl pr gr w5 hl0
          clear K3 K5 K4 hl0 hr0 K6 HP
          go_enter Tryz.func126, Tryz.ntmps126
          go_wp2_with (first | (go_at_call 114; refine HI.mono ?_; rintro e w2 ⟨rfl, hb2⟩) | (go_at_call_of 128 (Value.int .i64 0); refine (K1.out _ hb2).mono ?_; rintro e w3 ⟨rfl, pl, pr, gl, gr, hA3, hR3, hF3⟩) | (go_at_call 167; refine (K2.out _ _ _ _ _ hA3 hR3 hF3).mono ?_; rintro e w4 ⟨rfl, hA4, hR4, hF4⟩) | (go_at_call_of 126 (Value.pointer pl); refine (K3'.out _ _ _ _ _ hA4 hR4 hF4).mono ?_; rintro e w5 ⟨rfl, hA5, hR5⟩) | (go_at_call_of 128 (Value.int .i64 1); refine (K4'.out _ _ _ _ hA5 hR5).mono ?_; rintro e w6 ⟨rfl, hA6, hR6⟩) | (go_at_call_of 126 (Value.pointer pr); refine (K5'.out _ _ _ _ hA6 hR6).mono ?_; rintro e w7 ⟨rfl, hA7⟩))
          go_ret
          exact hA7
      · rw [if_pos hl0]
        rw [decide_eq_false hl0] at K3
        have K3' : Hid (∀ pl pr gl gr w4, Around wg B0 base lb sb c gb xl xa lo hi b w (cnt + 1) ps w4 → RightAt base b w hash over under par k v l r pl pr gr w4 → LeftAt base w over k l pl pr gl w4 → Calls Tryz.prog 126 #[.pointer pl, intoV lo hi, atV xl xa] w4 fun e w5 => e = .returned (.bool false) ∧ WPost base lb sb c ps (NWk (some ⟨b, 0, none⟩) lb c) w (LR.1, 0, []) (.returned (.bool false)) w5) := fun pl pr gl gr w4 h1 h2 h3 => by
          refine (K3.out pl pr gl gr w4 h1 h2 h3).mono ?_
          rintro e w5 ⟨he5, _, h5⟩
          exact ⟨he5, by rw [decide_eq_false hl0], (h5 hl0).2, fun h => absurd h hl0, fun _ => (h5 hl0).1⟩
        clear K3 K5 K4 hl0 K6
        go_enter Tryz.func126, Tryz.ntmps126
        go_wp2_with (first | (go_at_call 114; refine HI.mono ?_; rintro e w2 ⟨rfl, hb2⟩) | (go_at_call_of 128 (Value.int .i64 0); refine (K1.out _ hb2).mono ?_; rintro e w3 ⟨rfl, pl, pr, gl, gr, hA3, hR3, hF3⟩) | (go_at_call 167; refine (K2.out _ _ _ _ _ hA3 hR3 hF3).mono ?_; rintro e w4 ⟨rfl, hA4, hR4, hF4⟩) | (go_at_call_of 126 (Value.pointer pl); refine (K3'.out _ _ _ _ _ hA4 hR4 hF4).mono ?_; rintro e w5 ⟨rfl, hA5⟩))
        go_ret
        exact hA5
    · rw [goF_code hskip hC]
      obtain ⟨C, hCC⟩ : ∃ C, codeF fnd hash over under pk (cnt + 1) = C := ⟨_, rfl⟩
      rw [hCC] at HB hC ⊢
      have HP : Hid (∀ w0 w', Below w.heap.size w w0 → Fr w0.heap.size (fun q => q = b ∨ q = lb) w0 w' → LD lb sb (cnt + 1) C w' → WPost base lb sb c ps (NWk (some ⟨b, 0, none⟩) lb c) w (C, 0, []) (.returned (.bool false)) w') := fun w0 w' hb0 f2 hL2 => ⟨by rw [decide_eq_false hC], (Fr.of_below hb0).trans (f2.base (Nat.le_trans hE.hs hb0.size)) (fun q _ e => by rcases e with e | e; exact .inl ⟨_, rfl, e⟩; exact .inr (.inl e)), fun h => absurd h hC, fun _ => ⟨_, hL2⟩⟩
      rw [decide_eq_false hC] at HB
      clear hCC hE hP hL hS hB HF HR
      go_enter Tryz.func126, Tryz.ntmps126
      go_wp2_with (first | (go_at_call 114; refine HI.mono ?_; rintro e w2 ⟨rfl, hb2⟩) | (go_at_call 128; refine (HB.out _ hb2).mono ?_; rintro e w3 ⟨rfl, f3, hL3, _⟩))
      go_ret
      exact HP.out _ _ hb2 f3 hL3
end Go.Proofs.YtgicihmdcnelaaaGreatDoor
