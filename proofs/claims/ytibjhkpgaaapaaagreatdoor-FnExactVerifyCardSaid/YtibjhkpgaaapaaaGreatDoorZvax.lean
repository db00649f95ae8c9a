import Derived.Test.YtibjhkpgaaapaaaGreatDoorZvaj
import Derived.Test.YtibjhkpgaaapaaaGreatDoorZvaw
import Derived.Test.YtibjhkpgaaapaaaGreatDoorZvab
import Derived.Test.YtibjhkpgaaapaaaGreatDoorZvan
import Derived.Test.YtibjhkpgaaapaaaGreatDoorZvaq
import Derived.Test.YtibjhkpgaaapaaaGreatDoorZvah
import Derived.Test.YtibjhkpgaaapaaaGreatDoorZvar
namespace Go.Proofs.YtibjhkpgaaapaaaGreatDoor
open Go.RowKit Go.Proofs.Sha

theorem sha_len32 (l : List UInt8) : (sha l).length = 32 := by unfold sha; rw [outTo_length]
/-- A node of a tree in its block. -/
def TB (b : Nat) (x : ByteArray × ByteArray) (l r : Option Addr) (e : ByteArray × ByteArray) (w : World) : Prop := w.heap[b]? = some (.cells (treeL (sha x.1.data.toList) x.1 x.2 l r e.1 e.2).toArray 251)
/-- A tree in memory; what its nodes have of encodings and hashes is told by 'f'. -/
def TA (n0 : Nat) (f : Tr (ByteArray × ByteArray) → ByteArray × ByteArray) : Tr (ByteArray × ByteArray) → Option Addr → World → Prop
  | .nil, p, _ => p = none
  | .node l x r, p, w => ∃ (b : Nat) (pl pr : Option Addr), p = some ⟨b, 0, none⟩ ∧ n0 ≤ b ∧ TB b x pl pr (f (.node l x r)) w ∧ TA n0 f l pl w ∧ TA n0 f r pr w
/-- With no hashes yet. -/
def bare : Tr (ByteArray × ByteArray) → ByteArray × ByteArray := fun _ => (⟨#[]⟩, ⟨#[]⟩)
section
variable {n0 : Nat} {f : Tr (ByteArray × ByteArray) → ByteArray × ByteArray}
theorem TB.lt {b : Nat} {x : ByteArray × ByteArray} {l r : Option Addr} {e : ByteArray × ByteArray} {w : World} (h : TB b x l r e w) : b < w.heap.size := (Array.getElem?_eq_some_iff.1 h).1
theorem TB.below {b n : Nat} {x : ByteArray × ByteArray} {l r : Option Addr} {e : ByteArray × ByteArray} {w w' : World} (h : TB b x l r e w) (hb : Below n w w') (hn : w.heap.size ≤ n) : TB b x l r e w' :=
  (hb.block b (Nat.lt_of_lt_of_le h.lt hn)).trans h
theorem TA.below {n : Nat} {w w' : World} (hb : Below n w w') (hn : w.heap.size ≤ n) : ∀ {t : Tr (ByteArray × ByteArray)} {p : Option Addr}, TA n0 f t p w → TA n0 f t p w'
  | .nil, _, h => h
  | .node _ _ _, _, ⟨b, pl, pr, h1, h0, h2, h3, h4⟩ => ⟨b, pl, pr, h1, h0, h2.below hb hn, h3.below hb hn, h4.below hb hn⟩
theorem TA.ptr {t : Tr (ByteArray × ByteArray)} {p : Option Addr} {w : World} (h : TA n0 f t p w) : PtrT p w := by
  cases t with
  | nil => exact .inl h
  | node l x r =>
    obtain ⟨b, pl, pr, h1, _, h2, _, _⟩ := h
    exact .inr ⟨b, _, _, h1, h2⟩
end
/-- What 'above' says, by itself. -/
def AboveSaid (ab : ByteArray × ByteArray → ByteArray × ByteArray → Bool) : Prop := ∀ (p q : ByteArray × ByteArray) (w : World), Calls Tryz.prog 164 #[.agg (rankL (sha p.1.data.toList) p.1).toArray, .agg (rankL (sha q.1.data.toList) q.1).toArray] w fun e w' => e = .returned (.bool (ab p q)) ∧ Below w.heap.size w w'
theorem with_bare (b : Nat) (x : ByteArray × ByteArray) (pl pr l r : Option Addr) (w : World) (hb : TB b x pl pr (⟨#[]⟩, ⟨#[]⟩) w) (p1 : PtrT pl w) (p2 : PtrT pr w) (p3 : PtrT l w) (p4 : PtrT r w) :
    Calls Tryz.prog 165 #[.pointer (some ⟨b, 0, none⟩), .pointer l, .pointer r] w fun e w' => ∃ g, e = .returned (.pointer (some ⟨g, 0, none⟩)) ∧ (g = b ∨ w.heap.size ≤ g) ∧ TB g x l r (⟨#[]⟩, ⟨#[]⟩) w' ∧ Below w.heap.size w w' := by
  by_cases hne : l = pl ∧ r = pr
  · obtain ⟨rfl, rfl⟩ := hne
    refine (with_same b _ (sha_len32 _) x.1 x.2 l r _ _ w hb p1 p2).mono ?_
    rintro e w' ⟨he, rfl⟩
    exact ⟨b, he, .inl rfl, hb, Below.refl _ _⟩
  · refine (withT_any b _ (sha_len32 _) x.1 x.2 pl pr l r _ _ w hb p1 p2 p3 p4 hne).mono ?_
    rintro e w' ⟨g, he, hge, hg, hbl⟩
    exact ⟨g, he, .inr hge, hg, hbl⟩
theorem PtrT.below {p : Option Addr} {w w' : World} {n : Nat} (h : PtrT p w) (hb : Below n w w') (hn : w.heap.size ≤ n) : PtrT p w' := by
  rcases h with h | ⟨x, cs, u, h1, h2⟩
  · exact .inl h
  · exact .inr ⟨x, cs, u, h1, (hb.block x (Nat.lt_of_lt_of_le (Array.getElem?_eq_some_iff.1 h2).1 hn)).trans h2⟩
theorem TB.c35 {b : Nat} {x : ByteArray × ByteArray} {l r : Option Addr} {e : ByteArray × ByteArray} {w : World} (h : TB b x l r e w) : w.cell? ⟨b, 35, none⟩ = some (.pointer l) := (Lib.cell_of_heap h 35).trans (by simpa using (tree_get _ (sha_len32 _) x.1 x.2 l r e.1 e.2).1)
theorem TB.c36 {b : Nat} {x : ByteArray × ByteArray} {l r : Option Addr} {e : ByteArray × ByteArray} {w : World} (h : TB b x l r e w) : w.cell? ⟨b, 36, none⟩ = some (.pointer r) := (Lib.cell_of_heap h 36).trans (by simpa using (tree_get _ (sha_len32 _) x.1 x.2 l r e.1 e.2).2.1)
theorem TB.c37 {b : Nat} {x : ByteArray × ByteArray} {l r : Option Addr} {e : ByteArray × ByteArray} {w : World} (h : TB b x l r e w) : w.cell? ⟨b, 37, none⟩ = some (.string e.1) := (Lib.cell_of_heap h 37).trans (by simpa using (tree_get _ (sha_len32 _) x.1 x.2 l r e.1 e.2).2.2.1)
theorem TB.c38 {b : Nat} {x : ByteArray × ByteArray} {l r : Option Addr} {e : ByteArray × ByteArray} {w : World} (h : TB b x l r e w) : w.cell? ⟨b, 38, none⟩ = some (.string e.2) := (Lib.cell_of_heap h 38).trans (by simpa using (tree_get _ (sha_len32 _) x.1 x.2 l r e.1 e.2).2.2.2.1)
theorem TB.c0 {b : Nat} {x : ByteArray × ByteArray} {l r : Option Addr} {e : ByteArray × ByteArray} {w : World} (h : TB b x l r e w) : w.cell? ⟨b, 0, none⟩ = some (.string x.1) := (Lib.cell_of_heap h 0).trans (by simpa using (tree_get _ (sha_len32 _) x.1 x.2 l r e.1 e.2).2.2.2.2.1)
theorem TB.c1 {b : Nat} {x : ByteArray × ByteArray} {l r : Option Addr} {e : ByteArray × ByteArray} {w : World} (h : TB b x l r e w) : w.cell? ⟨b, 1, none⟩ = some (.string x.2) := (Lib.cell_of_heap h 1).trans (by simpa using (tree_get _ (sha_len32 _) x.1 x.2 l r e.1 e.2).2.2.2.2.2)
theorem TB.rank {b : Nat} {x : ByteArray × ByteArray} {l r : Option Addr} {e : ByteArray × ByteArray} {w : World} (h : TB b x l r e w) : w.rangeAt b 2 (rankL (sha x.1.data.toList) x.1) := fun j u hj => (Lib.cell_of_heap h (2 + j)).trans (by simpa using tree_rank _ (sha_len32 _) x.1 x.2 l r e.1 e.2 j u hj)
theorem ptr_nil (w : World) : (binOp .eql 115 (.pointer none) (.pointer none)).run Tryz.prog w = .ok (.bool true) w := by
  rw [ptr_eql none none w (.inl rfl) (.inl rfl)]; rfl
theorem ptr_some (b : Addr) (w : World) (h : PtrT (some b) w) : (binOp .eql 115 (.pointer (some b)) (.pointer none)).run Tryz.prog w = .ok (.bool false) w := by
  rw [ptr_eql (some b) none w h (.inl rfl)]; rfl

set_option maxRecDepth 100000 in
set_option maxHeartbeats 2000000 in
theorem merge_any {ab : ByteArray × ByteArray → ByteArray × ByteArray → Bool} (HA : Hid (AboveSaid ab)) (n0 n : Nat) : ∀ (s t : Tr (ByteArray × ByteArray)) (ps pt : Option Addr) (w : World), s.size + t.size ≤ n → n0 ≤ w.heap.size → TA n0 bare s ps w → TA n0 bare t pt w →
    Calls Tryz.prog 132 #[.pointer ps, .pointer pt] w fun e w' => ∃ p, e = .returned (.pointer p) ∧ TA n0 bare (Tr.merge ab s t) p w' ∧ Below w.heap.size w w' := by
  induction n with
  | zero =>
    intro s t ps pt w hn h0 hs ht
    cases s with
    | node l x r => simp [Tr.size] at hn
    | nil =>
      obtain rfl : ps = none := hs
      have q := ptr_nil w
      rw [Tr.merge]
      have HT : Hid (TA n0 bare t pt w) := ht
      clear ht hn
      go_enter Tryz.func132, Tryz.ntmps132
      go_wp2_with fail
      go_ret
      exact ⟨pt, rfl, HT.out, Below.refl _ _⟩
  | succ n ih =>
    intro s t ps pt w hn h0 hs ht
    cases s with
    | nil =>
      obtain rfl : ps = none := hs
      have q := ptr_nil w
      rw [Tr.merge]
      have HT : Hid (TA n0 bare t pt w) := ht
      clear ht hn ih
      go_enter Tryz.func132, Tryz.ntmps132
      go_wp2_with fail
      go_ret
      exact ⟨pt, rfl, HT.out, Below.refl _ _⟩
    | node l x r =>
      have hps := hs.ptr
      obtain ⟨b, pl, pr, rfl, hge, hb, hl, hr⟩ := id hs
      have q1 := ptr_some _ w hps
      cases t with
      | nil =>
        obtain rfl : pt = none := ht
        have q := ptr_nil w
        rw [Tr.merge]
        have HT : Hid (TA n0 bare (.node l x r) (some ⟨b, 0, none⟩) w) := hs
        clear hs hn ih hb hl hr hps
        go_enter Tryz.func132, Tryz.ntmps132
        go_wp2_with fail
        go_ret
        exact ⟨_, rfl, HT.out, Below.refl _ _⟩
      | node l2 y r2 =>
        have hpt := ht.ptr
        obtain ⟨b2, pl2, pr2, rfl, hge2, hb2, hl2, hr2⟩ := id ht
        have q2 := ptr_some _ w hpt
        have hk1 := hb.rank
        have hk2 := hb2.rank
        have HAB : Hid (∀ w', Calls Tryz.prog 164 #[.agg (rankL (sha x.1.data.toList) x.1).toArray, .agg (rankL (sha y.1.data.toList) y.1).toArray] w' fun e w'' => e = .returned (.bool (ab x y)) ∧ Below w'.heap.size w' w'') := fun w' => HA.out x y w'
        obtain ⟨T, hT⟩ : ∃ T, Tr.merge ab (.node l x r) (.node l2 y r2) = T := ⟨_, rfl⟩
        rw [hT]
        rw [Tr.merge] at hT
        have HT : Hid ((if ab x y = true then Tr.node l x (Tr.merge ab r (.node l2 y r2)) else Tr.node (Tr.merge ab (.node l x r) l2) y r2) = T) := hT
        clear hT
        have hn' : r.size + (Tr.node l2 y r2).size ≤ n := by simp only [Tr.size] at hn ⊢; omega
        have hn2 : (Tr.node l x r).size + l2.size ≤ n := by simp only [Tr.size] at hn ⊢; omega
        clear hn
        go_enter Tryz.func132, Tryz.ntmps132
        go_upto_region 5 with fail
        refine wp_region_held_drew (S := fun W => W.rangeAt b 2 (rankL (sha x.1.data.toList) x.1) ∧ W.rangeAt b2 2 (rankL (sha y.1.data.toList) y.1)) (by kernel_rfl) ⟨hk1, hk2⟩ (fun hHeld => ?_)
        refine tkI 0 ?_
        simp only [Act.put, zq]
        refine tkI 1 ?_
        simp only [Act.put, zq]
        refine tkI 2 ?_
        simp only [Act.put, zq]
        refine tkH (i := 3) (v := _) rfl (yieldsIf_load_mid (by rfl) _ _ rfl _ _ rfl _ _ (fun w h => h.1) Tryz.underlying249 rfl (rank_size _ (sha_len32 _) _)) ?_
        simp only [Act.put, zq]
        refine tkI 4 ?_
        simp only [Act.put, zq]
        refine tkI 5 ?_
        simp only [Act.put, zq]
        refine tkI 6 ?_
        simp only [Act.put, zq]
        refine tkH (i := 7) (v := _) rfl (yieldsIf_load_mid (by rfl) _ _ rfl _ _ rfl _ _ (fun w h => h.2) Tryz.underlying249 rfl (rank_size _ (sha_len32 _) _)) ?_
        simp only [Act.put, zq]
        refine rdH 8 (fun K hK => ?_)
        go_simp
        refine (HAB.out _).mono ?_
        rintro e w1 ⟨rfl, hb1'⟩
        have hbw1 : Below w.heap.size w w1 := ((Below.refl w.heap.size w).drew).trans hb1'
        clear hb1'
        refine hK.out _ _ ⟨(hb.below hbw1 (Nat.le_refl _)).rank, (hb2.below hbw1 (Nat.le_refl _)).rank⟩ (fun hHeld => ?_)
        clear hK K
        refine wpAnyH_done (by kernel_rfl) ?_ _
        have hs1 := hbw1.size
        cases hv : ab x y with
        | true =>
          have hif : Hid (T = Tr.node l x (Tr.merge ab r (.node l2 y r2))) := by show _ = _; rw [← HT.out, if_pos hv]
          clear HT
          have HI : Hid (∀ w', Below w.heap.size w w' → Calls Tryz.prog 132 #[.pointer pr, .pointer (some ⟨b2, 0, none⟩)] w' fun e w'' => ∃ p, e = .returned (.pointer p) ∧ TA n0 bare (Tr.merge ab r (.node l2 y r2)) p w'' ∧ Below w'.heap.size w' w'') := fun w' h => ih r (.node l2 y r2) pr (some ⟨b2, 0, none⟩) w' hn' (Nat.le_trans h0 h.size) (hr.below h (Nat.le_refl _)) (ht.below h (Nat.le_refl _))
          have HW : Hid (∀ w' r', Below w.heap.size w w' → PtrT r' w' → Calls Tryz.prog 165 #[.pointer (some ⟨b, 0, none⟩), .pointer pl, .pointer r'] w' fun e w'' => ∃ g, e = .returned (.pointer (some ⟨g, 0, none⟩)) ∧ (g = b ∨ w'.heap.size ≤ g) ∧ TB g x pl r' (⟨#[]⟩, ⟨#[]⟩) w'' ∧ Below w'.heap.size w' w'') := fun w' r' h hp => with_bare b x pl pr pl r' w' (hb.below h (Nat.le_refl _)) (hl.below h (Nat.le_refl _)).ptr (hr.below h (Nat.le_refl _)).ptr (hl.below h (Nat.le_refl _)).ptr hp
          have HC : Hid (∀ w', Below w.heap.size w w' → w'.cell? ⟨b, 35, none⟩ = some (.pointer pl) ∧ w'.cell? ⟨b, 36, none⟩ = some (.pointer pr)) := fun w' h => ⟨(hb.below h (Nat.le_refl _)).c35, (hb.below h (Nat.le_refl _)).c36⟩
          have HL : Hid (TA n0 bare l pl w) := hl
          clear ih hn' hn2 hHeld hb hb2 hl hr hl2 hr2 hs ht hps hpt hk1 hk2 HAB hv q1 q2 HA
          go_upto_region 6 with fail
          go_region_held3 (fun W => W.cell? ⟨b, 35, none⟩ = some (.pointer pl) ∧ W.cell? ⟨b, 36, none⟩ = some (.pointer pr)) (first | exact HC.out _ hbw1.drew | exact HC.out _ hbw2 | exact HC.out _ hbw3) (first | (go_at_call 132; refine (HI.out _ hbw1.drew).mono ?_; rintro e w2 ⟨p, rfl, hp, hb2'⟩; have hbw2 : Below w.heap.size w w2 := hbw1.drew.trans (hb2'.mono hs1); have hs2 := hbw2.size; clear hb2') | (go_at_call 165; refine (HW.out _ _ hbw2 hp.ptr).mono ?_; rintro e w3 ⟨g, rfl, hgo, hg, hb3'⟩; have hbw3 : Below w.heap.size w w3 := hbw2.trans (hb3'.mono hs2)))
          go_wp2_with fail
          go_ret
          rw [hif.out]
          exact ⟨_, rfl, ⟨g, pl, p, rfl, (by rcases hgo with q | q <;> omega), hg, HL.out.below hbw3 (Nat.le_refl _), hp.below hb3' (Nat.le_refl _)⟩, hbw3⟩
        | false =>
          have hif : Hid (T = Tr.node (Tr.merge ab (.node l x r) l2) y r2) := by show _ = _; rw [← HT.out, if_neg (by rw [hv]; decide)]
          clear HT
          have HI : Hid (∀ w', Below w.heap.size w w' → Calls Tryz.prog 132 #[.pointer (some ⟨b, 0, none⟩), .pointer pl2] w' fun e w'' => ∃ p, e = .returned (.pointer p) ∧ TA n0 bare (Tr.merge ab (.node l x r) l2) p w'' ∧ Below w'.heap.size w' w'') := fun w' h => ih (.node l x r) l2 (some ⟨b, 0, none⟩) pl2 w' hn2 (Nat.le_trans h0 h.size) (hs.below h (Nat.le_refl _)) (hl2.below h (Nat.le_refl _))
          have HW : Hid (∀ w' l', Below w.heap.size w w' → PtrT l' w' → Calls Tryz.prog 165 #[.pointer (some ⟨b2, 0, none⟩), .pointer l', .pointer pr2] w' fun e w'' => ∃ g, e = .returned (.pointer (some ⟨g, 0, none⟩)) ∧ (g = b2 ∨ w'.heap.size ≤ g) ∧ TB g y l' pr2 (⟨#[]⟩, ⟨#[]⟩) w'' ∧ Below w'.heap.size w' w'') := fun w' l' h hp => with_bare b2 y pl2 pr2 l' pr2 w' (hb2.below h (Nat.le_refl _)) (hl2.below h (Nat.le_refl _)).ptr (hr2.below h (Nat.le_refl _)).ptr hp (hr2.below h (Nat.le_refl _)).ptr
          have HC : Hid (∀ w', Below w.heap.size w w' → w'.cell? ⟨b2, 35, none⟩ = some (.pointer pl2) ∧ w'.cell? ⟨b2, 36, none⟩ = some (.pointer pr2)) := fun w' h => ⟨(hb2.below h (Nat.le_refl _)).c35, (hb2.below h (Nat.le_refl _)).c36⟩
          have HL : Hid (TA n0 bare r2 pr2 w) := hr2
          clear ih hn' hn2 hHeld hb hb2 hl hr hl2 hr2 hs ht hps hpt hk1 hk2 HAB hv q1 q2 HA
          go_upto_region 7 with fail
          go_region_held3 (fun W => W.cell? ⟨b2, 35, none⟩ = some (.pointer pl2) ∧ W.cell? ⟨b2, 36, none⟩ = some (.pointer pr2)) (first | exact HC.out _ hbw1.drew | exact HC.out _ hbw2 | exact HC.out _ hbw3) (first | (go_at_call 132; refine (HI.out _ hbw1.drew).mono ?_; rintro e w2 ⟨p, rfl, hp, hb2'⟩; have hbw2 : Below w.heap.size w w2 := hbw1.drew.trans (hb2'.mono hs1); have hs2 := hbw2.size; clear hb2') | (go_at_call 165; refine (HW.out _ _ hbw2 hp.ptr).mono ?_; rintro e w3 ⟨g, rfl, hgo, hg, hb3'⟩; have hbw3 : Below w.heap.size w w3 := hbw2.trans (hb3'.mono hs2)))
          go_wp2_with fail
          go_ret
          rw [hif.out]
          exact ⟨_, rfl, ⟨g, p, pr2, rfl, (by rcases hgo with q | q <;> omega), hg, hp.below hb3' (Nat.le_refl _), HL.out.below hbw3 (Nat.le_refl _)⟩, hbw3⟩
end Go.Proofs.YtibjhkpgaaapaaaGreatDoor
namespace Go.Proofs.YtibjhkpgaaapaaaGreatDoor
open Go.RowKit Go.Proofs.Sha

theorem sha_len (l : List UInt8) : (sha l).length = 32 := by unfold sha; rw [outTo_length]
theorem extract_take (M : List UInt8) (n : Nat) : (⟨M.toArray⟩ : ByteArray).extract 0 n = ⟨(M.take n).toArray⟩ := by
  apply ByteArray.ext
  rw [ByteArray.data_extract]
  apply Array.ext'
  rw [Array.toList_extract, List.extract_eq_take_drop]
  simp

set_option maxRecDepth 100000 in
set_option maxHeartbeats 400000 in
theorem sdig_no (s : ByteArray) (k : Int) (w : World) (h : k < 1 ∨ 32 < k) :
    Calls Tryz.prog 23 #[.string s, .int .i64 k] w fun e w' => e = .returned (.string ⟨#[]⟩) ∧ Below w.heap.size w w' := by
  rcases h with h | h
  · have h1 : decide (1 ≤ k) = false := by simpa using h
    go_enter Tryz.func23, Tryz.ntmps23
    go_wp2
    go_ret
    exact ⟨rfl, Below.refl _ _⟩
  · have h1 : 1 ≤ k := by omega
    have h2 : decide (k ≤ 32) = false := by simpa using h
    go_enter Tryz.func23, Tryz.ntmps23
    go_wp2
    go_ret
    exact ⟨rfl, Below.refl _ _⟩

set_option maxRecDepth 100000 in
set_option maxHeartbeats 400000 in
theorem sdig_yes (s : ByteArray) (k : Nat) (w : World) (hs : s.size ≤ 1048576) (h1 : 1 ≤ k) (h2 : k ≤ 32) :
    Calls Tryz.prog 23 #[.string s, .int .i64 (k : Int)] w fun e w' => e = .returned (.string ⟨((sha s.data.toList).take k).toArray⟩) ∧ Below w.heap.size w w' := by
  have hl := sha_len s.data.toList
  have hx := extract_take (sha s.data.toList) k
  have hsp := spec_any s w hs
  obtain ⟨X, hX⟩ : ∃ X : ByteArray, X = ⟨(sha s.data.toList).toArray⟩ := ⟨_, rfl⟩
  have hXs : X.size = 32 := by rw [hX]; exact hl
  rw [← hX] at hx hsp
  have HX : Hid (X.extract 0 k = ⟨((sha s.data.toList).take k).toArray⟩) := hx
  clear hX hx hl
  have q1 : (1 : Int) ≤ (k : Int) := by omega
  have q2 : (k : Int) ≤ 32 := by omega
  go_enter Tryz.func23, Tryz.ntmps23
  go_wp2_with (first | (go_at_call 64; refine hsp.mono ?_; rintro e w' ⟨rfl, hb⟩) | go_in)
  go_ret
  rw [← HX.out]
  exact ⟨rfl, hb⟩
end Go.Proofs.YtibjhkpgaaapaaaGreatDoor
namespace Go.Proofs.YtibjhkpgaaapaaaGreatDoor
open Go.RowKit Go.Proofs.Sha

end Go.Proofs.YtibjhkpgaaapaaaGreatDoor
namespace Go.Proofs.YtibjhkpgaaapaaaGreatDoor
open Go.RowKit Go.Proofs.Sha

/-- What NodeHash answers. -/
def hashS (k v l r : ByteArray) (n : Int) : ByteArray := if (encS k v l r n).size = 0 then ⟨#[]⟩ else ⟨((sha (78 :: (encS k v l r n).data.toList)).take n.toNat).toArray⟩

theorem encS_size (k v l r : ByteArray) (n : Int) : (encS k v l r n).size ≤ 10000 ∧ (¬ (encS k v l r n).size = 0 → 1 ≤ n ∧ n ≤ 32) := by
  unfold encS
  split
  · rename_i h
    have ho := nodeOk_out h
    rw [T_size]
    unfold encL
    simp only [List.length_append, sized_length, List.length_cons, List.length_nil]
    have e1 : k.data.toList.length = k.size := rfl
    have e2 : v.data.toList.length = v.size := rfl
    have e3 : l.data.toList.length = l.size := rfl
    have e4 : r.data.toList.length = r.size := rfl
    omega
  · exact ⟨Nat.zero_le _, fun h => absurd rfl h⟩

theorem text_any (e : ByteArray) (w : World) (he : e.size ≤ 10000) :
    Calls Tryz.prog 39 #[.string e] w fun x w' => ∃ t : ByteArray, x = .returned (.string t) ∧ t.size ≤ 10001 ∧ Hid (t.data.toList = 78 :: e.data.toList) ∧ w = w' := by
  have z : ¬ (9223372036854775807 < (⟨#[78]⟩ : ByteArray).size + e.size) := by show ¬ _ < 1 + e.size; omega
  have z' : ¬ (9223372036854775807 < 1 + e.size) := by omega
  go_enter Tryz.func39, Tryz.ntmps39
  go_wp2
  go_ret
  refine ⟨_, rfl, ?_, ?_, rfl⟩
  · rw [ByteArray.size_append]; show 1 + e.size ≤ _; omega
  · show (_ : List UInt8) = _
    rw [ByteArray.data_append]
    simp

end Go.Proofs.YtibjhkpgaaapaaaGreatDoor
namespace Go.Proofs.YtibjhkpgaaapaaaGreatDoor
open Go.RowKit Go.Proofs.Sha

theorem row_take {w : World} {base g n cap : Nat} {xs : List Value} (h : Row w base g n cap xs) (k : Nat) (hk : k ≤ n) : Row w base g k cap (xs.take k) :=
  ⟨h.ge, h.lt, by rw [List.length_take, h.len]; exact Nat.min_eq_left hk, Nat.le_trans hk h.le, fun j hj => by rw [h.cell j (by omega), List.getElem?_take, if_pos hj], h.room, h.free⟩

set_option maxRecDepth 100000 in
set_option maxHeartbeats 800000 in
theorem ehash_any (s : ByteArray) (w : World) (hs : s.size ≤ 1048576)
    (hK : ∀ j, j < 64 → w.cell? ⟨0, j, none⟩ = some (.int .u32 ((kTab.getD j 0).toNat : Int))) :
    Calls Tryz.prog 175 #[.string s] w fun e w' => e = .returned (.agg ((sha (78 :: s.data.toList)).map B).toArray) ∧ Below w.heap.size w w' := by
  have hl0 : 0 < w.heap.size := World.block_lt_of_cell? w _ (hK 0 (by omega))
  have HK : Hid (∀ w' : World, Below w.heap.size w w' → ∀ j, j < 64 → w'.cell? ⟨0, j, none⟩ = some (.int .u32 ((kTab.getD j 0).toNat : Int))) := fun w' hb j hj => (hb.cell (by exact hl0)).trans (hK j hj)
  clear hK
  have hsl : (78 :: s.data.toList).length = 1 + s.size := by rw [List.length_cons]; show s.size + 1 = _; omega
  go_enter Tryz.func175, Tryz.ntmps175
  go_wp2_with (refine wpList_alloc_row _ rfl (some 2) rfl 247 247 rfl (zeros8.map B) alloc32 ?_; intro g2 w2 hr2 hb2)
  have hr2' : Row w2 w.heap.size g2 32 32 (zeros8.map B) := hr2
  have hge := hr2.ge
  have hlt := hr2.lt
  have hs2 := hb2.size
  clear hr2
  refine (new_any w2).mono ?_
  rintro e w3 ⟨rfl, hw3⟩
  have F3 : Fed w3 w2.heap.size [] (List.replicate 64 0) 0 := by rw [hw3]; exact fed_new w2
  have hb3 : Below w2.heap.size w2 w3 := by rw [hw3]; exact (Below.refl _ _).alloc (Nat.le_refl _) _
  clear hw3
  obtain ⟨b, hb⟩ : ∃ b, w2.heap.size = b := ⟨_, rfl⟩
  rw [hb] at F3
  rw [hb]
  have hs3 := hb3.size
  have hbw3 : Below w.heap.size w w3 := hb2.trans (hb3.mono hs2)
  have hR3 : Row w3 w.heap.size g2 32 32 (zeros8.map B) := hr2'.below hb3
  have hb0 : b ≠ 0 := by omega
  have hgb : g2 < b := by omega
  have hwb : w.heap.size ≤ b := by omega
  clear hr2' hb3 hb2
  go_wp2_with fail
  refine (feed_any b [] (List.replicate 64 0) ⟨#[78]⟩ w3 F3 (by simp; show 1 ≤ _; omega) hb0 (HK.out w3 hbw3)).mono ?_
  rintro e w3' ⟨rfl, ⟨k3, F3'⟩, hg3⟩
  have hs3' := hg3.size
  have hbw3' : Below w.heap.size w w3' := hbw3.trans (below_of_grown hg3 hwb (by omega))
  have hR3' : Row w3' w.heap.size g2 32 32 (zeros8.map B) := hR3.kept hg3 (by simp; omega)
  have F3n : Fed w3' b [78] k3 [78].length := F3'
  clear F3 F3' hg3 hR3 hbw3
  go_wp2_with fail
  refine (feed_any b [78] k3 s w3' F3n (by simp; omega) hb0 (HK.out w3' hbw3')).mono ?_
  rintro e w4 ⟨rfl, ⟨k4, F4⟩, hg4⟩
  have hs4 := hg4.size
  have hbw4 : Below w.heap.size w w4 := hbw3'.trans (below_of_grown hg4 hwb (by omega))
  have hR4 : Row w4 w.heap.size g2 32 32 (zeros8.map B) := hR3'.kept hg4 (by simp; omega)
  have F4n : Fed w4 b (78 :: s.data.toList) k4 (1 + s.size) := F4
  clear F3n F4 hg4 hR3' hbw3'
  have hfs := fin_sha (78 :: s.data.toList) k4 F4n.H.kl F4n.tk
  have H4 := F4n.H
  rw [hsl] at H4 hfs
  clear F4n
  go_wp2_with fail
  refine (finish_any b _ k4 _ (1 + s.size) w4 H4 (by omega) (by omega) hb0 (HK.out w4 hbw4)).mono ?_
  rintro e w5 ⟨rfl, hg5⟩
  rw [hfs]
  clear hfs H4
  have hbw5 : Below w.heap.size w w5 := hbw4.trans (below_of_grown hg5 hwb (by omega))
  have hR5 : Row w5 w.heap.size g2 32 32 (zeros8.map B) := hR4.kept hg5 (by simp; omega)
  have hln : ((sha (78 :: s.data.toList)).map B).length = 32 := by rw [List.length_map]; unfold sha; rw [outTo_length]
  have h1c : ∀ v ∈ (sha (78 :: s.data.toList)).map B, v.oneCell' = true := by
    intro v hv
    obtain ⟨x, _, rfl⟩ := List.mem_map.1 hv
    rfl
  obtain ⟨L, hL⟩ : ∃ L, (sha (78 :: s.data.toList)).map B = L := ⟨_, rfl⟩
  rw [hL] at hln h1c
  rw [hL]
  have HL : Hid ((sha (78 :: s.data.toList)).map B = L) := hL
  clear hL
  go_wp2_with (refine wpList_store_whole _ rfl rfl 247 (.tmp 2) (.tmp 11) rfl w.heap.size g2 32 (zeros8.map B) L rfl rfl hR5 hln size32 h1c ?_; intro w8 hR8 hg8)
  refine ret_row _ (p := 2) (ty := 247) rfl w.heap.size g2 32 32 L 5 rfl hR8 Tryz.underlying247 size32 rfl ?_
  refine ⟨?_, ?_⟩
  · rw [HL.out]
  · exact hbw5.trans (below_of_grown hg8 hge (by have := hbw5.size; omega))
end Go.Proofs.YtibjhkpgaaapaaaGreatDoor
