import Derived.Test.YtibjhkpgaaapaaaGreatDoorZxab
import Derived.Test.YtibjhkpgaaapaaaGreatDoorZxaa
import Derived.Test.YtibjhkpgaaapaaaGreatDoorProg
import Derived.WalkSpells
import Derived.WalkLawsBesides
import Derived.StillTactics
import Derived.Laws.Pointers
import Derived.Deep.RegionHeld3
namespace Go.Proofs.Sha
open Go Go.RowKit

/-- The state behind q blocks of the text p. -/
def blocks (p : List UInt8) : Nat → List UInt32
  | 0 => hTab
  | q + 1 => comp (blocks p q) (p.drop (64 * q))
theorem blocks_length (p : List UInt8) (q : Nat) : (blocks p q).length = 8 := by cases q <;> rfl

def byteAt (x : UInt32) (i : Nat) : UInt8 := UInt8.ofNat (x.toNat / 2 ^ (8 * i))
/-- The bytes of the first k words. -/
def outTo (h : List UInt32) : Nat → List UInt8
  | 0 => []
  | k + 1 => outTo h k ++ [byteAt (h.getD k 0) 3, byteAt (h.getD k 0) 2, byteAt (h.getD k 0) 1, byteAt (h.getD k 0) 0]
theorem outTo_length (h : List UInt32) (k : Nat) : (outTo h k).length = 4 * k := by
  induction k with
  | zero => rfl
  | succ k ih => simp [outTo, ih]; omega

def sha (l : List UInt8) : List UInt8 := outTo (blocks (pad l) ((pad l).length / 64)) 8

theorem pad_mod (l : List UInt8) : (pad l).length % 64 = 0 := by
  rw [pad_length]; have := zpad_eq l.length; omega

theorem byteAt_form (x : UInt32) (i : Nat) : IntKind.u8.wrap ((x.toNat : Int) / 2 ^ (8 * i)) = ((byteAt x i).toNat : Int) := by
  unfold byteAt
  rw [IntKind.wrap_u8', UInt8.toNat_ofNat']
  have e : ((x.toNat / 2 ^ (8 * i) % 2 ^ 8 : Nat) : Int) = ((x.toNat : Int) / 2 ^ (8 * i) % 256) := by
    rw [Int.natCast_emod, Int.natCast_ediv, Int.natCast_pow]; rfl
  exact e.symm
theorem byte3 (x : UInt32) : IntKind.u8.wrap ((x.toNat : Int) / (16777216 : Int)) = ((byteAt x 3).toNat : Int) := byteAt_form x 3
theorem byte2 (x : UInt32) : IntKind.u8.wrap ((x.toNat : Int) / (65536 : Int)) = ((byteAt x 2).toNat : Int) := byteAt_form x 2
theorem byte1 (x : UInt32) : IntKind.u8.wrap ((x.toNat : Int) / (256 : Int)) = ((byteAt x 1).toNat : Int) := byteAt_form x 1
theorem byte0 (x : UInt32) : IntKind.u8.wrap (x.toNat : Int) = ((byteAt x 0).toNat : Int) := by
  have := byteAt_form x 0
  simpa using this

theorem outTo_succ (h : List UInt32) (k : Nat) (x : UInt32) (hx : h.getD k 0 = x) :
    (outTo h (k + 1)).map B = (outTo h k).map B ++ [.int .u8 (IntKind.u8.wrap ((x.toNat : Int) / (16777216 : Int))), .int .u8 (IntKind.u8.wrap ((x.toNat : Int) / (65536 : Int))), .int .u8 (IntKind.u8.wrap ((x.toNat : Int) / (256 : Int))), .int .u8 (IntKind.u8.wrap (x.toNat : Int))] := by
  rw [outTo, hx, List.map_append, byte3, byte2, byte1, byte0]; rfl

theorem tab_cell (L : List UInt32) (j : Nat) (hj : j < L.length) : (L.map U).toArray[j]? = some (.int .u32 ((L.getD j 0).toNat : Int)) := by
  rw [List.getElem?_toArray, List.getElem?_map, List.getD_eq_getElem?_getD, List.getElem?_eq_getElem hj]; rfl
theorem row_b {w : World} {base g n cap : Nat} {L : List UInt8} (h : Row w base g n cap (L.map B)) (j : Nat) (hj : j < n) : w.cell? ⟨g, j, none⟩ = some (.int .u8 ((L.getD j 0).toNat : Int)) := by
  have hL : L.length = n := by have := h.len; simpa using this
  rw [h.cell j hj, List.getElem?_map, List.getD_eq_getElem?_getD, List.getElem?_eq_getElem (by omega)]; rfl
theorem row_u {w : World} {base g n cap : Nat} {L : List UInt32} (h : Row w base g n cap (L.map U)) (j : Nat) (hj : j < n) : w.cell? ⟨g, j, none⟩ = some (.int .u32 ((L.getD j 0).toNat : Int)) := by
  have hL : L.length = n := by have := h.len; simpa using this
  rw [h.cell j hj, List.getElem?_map, List.getD_eq_getElem?_getD, List.getElem?_eq_getElem (by omega)]; rfl
theorem two_blocks (w : World) (L M : List UInt32) (e : TypeId) : 
    (∀ j, j < L.length → ((w.alloc (.cells (L.map U).toArray e)).alloc (.cells (M.map U).toArray e)).cell? ⟨w.heap.size, j, none⟩ = some (.int .u32 ((L.getD j 0).toNat : Int))) ∧
    (∀ j, j < M.length → ((w.alloc (.cells (L.map U).toArray e)).alloc (.cells (M.map U).toArray e)).cell? ⟨w.heap.size + 1, j, none⟩ = some (.int .u32 ((M.getD j 0).toNat : Int))) := by
  constructor
  · intro j hj
    have h1 : ((w.alloc (.cells (L.map U).toArray e)).alloc (.cells (M.map U).toArray e)).heap[w.heap.size]? = some (.cells (L.map U).toArray e) := by
      rw [Below.heap_alloc _ _ _ (by simp)]; exact heap_alloc_new w _
    rw [cell_of_row _ _ _ _ _ _ h1]; exact tab_cell L j hj
  · intro j hj
    rw [cell_of_row _ _ _ _ _ _ (heap_alloc2_new w _ _)]; exact tab_cell M j hj

end Go.Proofs.Sha
namespace Go.Proofs.YtibjhkpgaaapaaaGreatDoor
open Go.RowKit Go.Proofs.Sha

theorem sha_len32 (l : List UInt8) : (sha l).length = 32 := by unfold sha; rw [outTo_length]
/-- A node of a tree in its block. -/
def TB (b : Nat) (x : ByteArray × ByteArray) (l r : Option Addr) (e : ByteArray × ByteArray) (w : World) : Prop := w.heap[b]? = some (.cells (treeL (sha x.1.data.toList) x.1 x.2 l r e.1 e.2).toArray 251)
/-- A tree in memory; what its nodes have of encodings and hashes is told by 'f'. -/
def TA (n0 : Nat) (f : Tr (ByteArray × ByteArray) → ByteArray × ByteArray) : Tr (ByteArray × ByteArray) → Option Addr → World → Prop
  | .nil, p, _ => p = none
  | .node l x r, p, w => ∃ (b : Nat) (pl pr : Option Addr), p = some ⟨b, 0, none⟩ ∧ n0 ≤ b ∧ TB b x pl pr (f (.node l x r)) w ∧ TA n0 f l pl w ∧ TA n0 f r pr w
/-- With no hashes yet. -/
def bare : Tr (ByteArray × ByteArray) → ByteArray × ByteArray := fun _ => (⟨#[]⟩, ⟨#[]⟩)
section
variable {n0 : Nat} {f : Tr (ByteArray × ByteArray) → ByteArray × ByteArray}
theorem TB.lt {b : Nat} {x : ByteArray × ByteArray} {l r : Option Addr} {e : ByteArray × ByteArray} {w : World} (h : TB b x l r e w) : b < w.heap.size := (Array.getElem?_eq_some_iff.1 h).1
theorem TB.below {b n : Nat} {x : ByteArray × ByteArray} {l r : Option Addr} {e : ByteArray × ByteArray} {w w' : World} (h : TB b x l r e w) (hb : Below n w w') (hn : w.heap.size ≤ n) : TB b x l r e w' :=
  (hb.block b (Nat.lt_of_lt_of_le h.lt hn)).trans h
theorem TA.below {n : Nat} {w w' : World} (hb : Below n w w') (hn : w.heap.size ≤ n) : ∀ {t : Tr (ByteArray × ByteArray)} {p : Option Addr}, TA n0 f t p w → TA n0 f t p w'
  | .nil, _, h => h
  | .node _ _ _, _, ⟨b, pl, pr, h1, h0, h2, h3, h4⟩ => ⟨b, pl, pr, h1, h0, h2.below hb hn, h3.below hb hn, h4.below hb hn⟩
theorem TA.ptr {t : Tr (ByteArray × ByteArray)} {p : Option Addr} {w : World} (h : TA n0 f t p w) : PtrT p w := by
  cases t with
  | nil => exact .inl h
  | node l x r =>
    obtain ⟨b, pl, pr, h1, _, h2, _, _⟩ := h
    exact .inr ⟨b, _, _, h1, h2⟩
end
/-- What 'above' says, by itself. -/
def AboveSaid (ab : ByteArray × ByteArray → ByteArray × ByteArray → Bool) : Prop := ∀ (p q : ByteArray × ByteArray) (w : World), Calls Tryz.prog 164 #[.agg (rankL (sha p.1.data.toList) p.1).toArray, .agg (rankL (sha q.1.data.toList) q.1).toArray] w fun e w' => e = .returned (.bool (ab p q)) ∧ Below w.heap.size w w'
theorem with_bare (b : Nat) (x : ByteArray × ByteArray) (pl pr l r : Option Addr) (w : World) (hb : TB b x pl pr (⟨#[]⟩, ⟨#[]⟩) w) (p1 : PtrT pl w) (p2 : PtrT pr w) (p3 : PtrT l w) (p4 : PtrT r w) :
    Calls Tryz.prog 165 #[.pointer (some ⟨b, 0, none⟩), .pointer l, .pointer r] w fun e w' => ∃ g, e = .returned (.pointer (some ⟨g, 0, none⟩)) ∧ (g = b ∨ w.heap.size ≤ g) ∧ TB g x l r (⟨#[]⟩, ⟨#[]⟩) w' ∧ Below w.heap.size w w' := by
  by_cases hne : l = pl ∧ r = pr
  · obtain ⟨rfl, rfl⟩ := hne
    refine (with_same b _ (sha_len32 _) x.1 x.2 l r _ _ w hb p1 p2).mono ?_
    rintro e w' ⟨he, rfl⟩
    exact ⟨b, he, .inl rfl, hb, Below.refl _ _⟩
  · refine (withT_any b _ (sha_len32 _) x.1 x.2 pl pr l r _ _ w hb p1 p2 p3 p4 hne).mono ?_
    rintro e w' ⟨g, he, hge, hg, hbl⟩
    exact ⟨g, he, .inr hge, hg, hbl⟩
theorem PtrT.below {p : Option Addr} {w w' : World} {n : Nat} (h : PtrT p w) (hb : Below n w w') (hn : w.heap.size ≤ n) : PtrT p w' := by
  rcases h with h | ⟨x, cs, u, h1, h2⟩
  · exact .inl h
  · exact .inr ⟨x, cs, u, h1, (hb.block x (Nat.lt_of_lt_of_le (Array.getElem?_eq_some_iff.1 h2).1 hn)).trans h2⟩
theorem TB.c35 {b : Nat} {x : ByteArray × ByteArray} {l r : Option Addr} {e : ByteArray × ByteArray} {w : World} (h : TB b x l r e w) : w.cell? ⟨b, 35, none⟩ = some (.pointer l) := (Lib.cell_of_heap h 35).trans (by simpa using (tree_get _ (sha_len32 _) x.1 x.2 l r e.1 e.2).1)
theorem TB.c36 {b : Nat} {x : ByteArray × ByteArray} {l r : Option Addr} {e : ByteArray × ByteArray} {w : World} (h : TB b x l r e w) : w.cell? ⟨b, 36, none⟩ = some (.pointer r) := (Lib.cell_of_heap h 36).trans (by simpa using (tree_get _ (sha_len32 _) x.1 x.2 l r e.1 e.2).2.1)
theorem TB.c37 {b : Nat} {x : ByteArray × ByteArray} {l r : Option Addr} {e : ByteArray × ByteArray} {w : World} (h : TB b x l r e w) : w.cell? ⟨b, 37, none⟩ = some (.string e.1) := (Lib.cell_of_heap h 37).trans (by simpa using (tree_get _ (sha_len32 _) x.1 x.2 l r e.1 e.2).2.2.1)
theorem TB.c38 {b : Nat} {x : ByteArray × ByteArray} {l r : Option Addr} {e : ByteArray × ByteArray} {w : World} (h : TB b x l r e w) : w.cell? ⟨b, 38, none⟩ = some (.string e.2) := (Lib.cell_of_heap h 38).trans (by simpa using (tree_get _ (sha_len32 _) x.1 x.2 l r e.1 e.2).2.2.2.1)
theorem TB.c0 {b : Nat} {x : ByteArray × ByteArray} {l r : Option Addr} {e : ByteArray × ByteArray} {w : World} (h : TB b x l r e w) : w.cell? ⟨b, 0, none⟩ = some (.string x.1) := (Lib.cell_of_heap h 0).trans (by simpa using (tree_get _ (sha_len32 _) x.1 x.2 l r e.1 e.2).2.2.2.2.1)
theorem TB.c1 {b : Nat} {x : ByteArray × ByteArray} {l r : Option Addr} {e : ByteArray × ByteArray} {w : World} (h : TB b x l r e w) : w.cell? ⟨b, 1, none⟩ = some (.string x.2) := (Lib.cell_of_heap h 1).trans (by simpa using (tree_get _ (sha_len32 _) x.1 x.2 l r e.1 e.2).2.2.2.2.2)
theorem TB.rank {b : Nat} {x : ByteArray × ByteArray} {l r : Option Addr} {e : ByteArray × ByteArray} {w : World} (h : TB b x l r e w) : w.rangeAt b 2 (rankL (sha x.1.data.toList) x.1) := fun j u hj => (Lib.cell_of_heap h (2 + j)).trans (by simpa using tree_rank _ (sha_len32 _) x.1 x.2 l r e.1 e.2 j u hj)
theorem ptr_nil (w : World) : (binOp .eql 115 (.pointer none) (.pointer none)).run Tryz.prog w = .ok (.bool true) w := by
  rw [ptr_eql none none w (.inl rfl) (.inl rfl)]; rfl
theorem ptr_some (b : Addr) (w : World) (h : PtrT (some b) w) : (binOp .eql 115 (.pointer (some b)) (.pointer none)).run Tryz.prog w = .ok (.bool false) w := by
  rw [ptr_eql (some b) none w h (.inl rfl)]; rfl

set_option maxRecDepth 100000 in
set_option maxHeartbeats 2000000 in
theorem merge_any {ab : ByteArray × ByteArray → ByteArray × ByteArray → Bool} (HA : Hid (AboveSaid ab)) (n0 n : Nat) : ∀ (s t : Tr (ByteArray × ByteArray)) (ps pt : Option Addr) (w : World), s.size + t.size ≤ n → n0 ≤ w.heap.size → TA n0 bare s ps w → TA n0 bare t pt w →
    Calls Tryz.prog 132 #[.pointer ps, .pointer pt] w fun e w' => ∃ p, e = .returned (.pointer p) ∧ TA n0 bare (Tr.merge ab s t) p w' ∧ Below w.heap.size w w' := by
  induction n with
  | zero =>
    intro s t ps pt w hn h0 hs ht
    cases s with
    | node l x r => simp [Tr.size] at hn
    | nil =>
      obtain rfl : ps = none := hs
      have q := ptr_nil w
      rw [Tr.merge]
      have HT : Hid (TA n0 bare t pt w) := ht
      clear ht hn
      go_enter Tryz.func132, Tryz.ntmps132
      go_wp2_with fail
      go_ret
      exact ⟨pt, rfl, HT.out, Below.refl _ _⟩
  | succ n ih =>
    intro s t ps pt w hn h0 hs ht
    cases s with
    | nil =>
      obtain rfl : ps = none := hs
      have q := ptr_nil w
      rw [Tr.merge]
      have HT : Hid (TA n0 bare t pt w) := ht
      clear ht hn ih
      go_enter Tryz.func132, Tryz.ntmps132
      go_wp2_with fail
      go_ret
      exact ⟨pt, rfl, HT.out, Below.refl _ _⟩
    | node l x r =>
      have hps := hs.ptr
      obtain ⟨b, pl, pr, rfl, hge, hb, hl, hr⟩ := id hs
      have q1 := ptr_some _ w hps
      cases t with
      | nil =>
        obtain rfl : pt = none := ht
        have q := ptr_nil w
        rw [Tr.merge]
        have HT : Hid (TA n0 bare (.node l x r) (some ⟨b, 0, none⟩) w) := hs
        clear hs hn ih hb hl hr hps
        go_enter Tryz.func132, Tryz.ntmps132
        go_wp2_with fail
        go_ret
        exact ⟨_, rfl, HT.out, Below.refl _ _⟩
      | node l2 y r2 =>
        have hpt := ht.ptr
        obtain ⟨b2, pl2, pr2, rfl, hge2, hb2, hl2, hr2⟩ := id ht
        have q2 := ptr_some _ w hpt
        have hk1 := hb.rank
        have hk2 := hb2.rank
        have HAB : Hid (∀ w', Calls Tryz.prog 164 #[.agg (rankL (sha x.1.data.toList) x.1).toArray, .agg (rankL (sha y.1.data.toList) y.1).toArray] w' fun e w'' => e = .returned (.bool (ab x y)) ∧ Below w'.heap.size w' w'') := fun w' => HA.out x y w'
        obtain ⟨T, hT⟩ : ∃ T, Tr.merge ab (.node l x r) (.node l2 y r2) = T := ⟨_, rfl⟩
        rw [hT]
        rw [Tr.merge] at hT
        have HT : Hid ((if ab x y = true then Tr.node l x (Tr.merge ab r (.node l2 y r2)) else Tr.node (Tr.merge ab (.node l x r) l2) y r2) = T) := hT
        clear hT
        have hn' : r.size + (Tr.node l2 y r2).size ≤ n := by simp only [Tr.size] at hn ⊢; omega
        have hn2 : (Tr.node l x r).size + l2.size ≤ n := by simp only [Tr.size] at hn ⊢; omega
        clear hn
        go_enter Tryz.func132, Tryz.ntmps132
        go_upto_region 5 with fail
        refine wp_region_held_drew (S := fun W => W.rangeAt b 2 (rankL (sha x.1.data.toList) x.1) ∧ W.rangeAt b2 2 (rankL (sha y.1.data.toList) y.1)) (by kernel_rfl) ⟨hk1, hk2⟩ (fun hHeld => ?_)
        refine tkI 0 ?_
        simp only [Act.put, zq]
        refine tkI 1 ?_
        simp only [Act.put, zq]
        refine tkI 2 ?_
        simp only [Act.put, zq]
        refine tkH (i := 3) (v := _) rfl (yieldsIf_load_mid (by rfl) _ _ rfl _ _ rfl _ _ (fun w h => h.1) Tryz.underlying249 rfl (rank_size _ (sha_len32 _) _)) ?_
        simp only [Act.put, zq]
        refine tkI 4 ?_
        simp only [Act.put, zq]
        refine tkI 5 ?_
        simp only [Act.put, zq]
        refine tkI 6 ?_
        simp only [Act.put, zq]
        refine tkH (i := 7) (v := _) rfl (yieldsIf_load_mid (by rfl) _ _ rfl _ _ rfl _ _ (fun w h => h.2) Tryz.underlying249 rfl (rank_size _ (sha_len32 _) _)) ?_
        simp only [Act.put, zq]
        refine rdH 8 (fun K hK => ?_)
        go_simp
        refine (HAB.out _).mono ?_
        rintro e w1 ⟨rfl, hb1'⟩
        have hbw1 : Below w.heap.size w w1 := ((Below.refl w.heap.size w).drew).trans hb1'
        clear hb1'
        refine hK.out _ _ ⟨(hb.below hbw1 (Nat.le_refl _)).rank, (hb2.below hbw1 (Nat.le_refl _)).rank⟩ (fun hHeld => ?_)
        clear hK K
        refine wpAnyH_done (by kernel_rfl) ?_ _
        have hs1 := hbw1.size
        cases hv : ab x y with
        | true =>
          have hif : Hid (T = Tr.node l x (Tr.merge ab r (.node l2 y r2))) := by show _ = _; rw [← HT.out, if_pos hv]
          clear HT
          have HI : Hid (∀ w', Below w.heap.size w w' → Calls Tryz.prog 132 #[.pointer pr, .pointer (some ⟨b2, 0, none⟩)] w' fun e w'' => ∃ p, e = .returned (.pointer p) ∧ TA n0 bare (Tr.merge ab r (.node l2 y r2)) p w'' ∧ Below w'.heap.size w' w'') := fun w' h => ih r (.node l2 y r2) pr (some ⟨b2, 0, none⟩) w' hn' (Nat.le_trans h0 h.size) (hr.below h (Nat.le_refl _)) (ht.below h (Nat.le_refl _))
          have HW : Hid (∀ w' r', Below w.heap.size w w' → PtrT r' w' → Calls Tryz.prog 165 #[.pointer (some ⟨b, 0, none⟩), .pointer pl, .pointer r'] w' fun e w'' => ∃ g, e = .returned (.pointer (some ⟨g, 0, none⟩)) ∧ (g = b ∨ w'.heap.size ≤ g) ∧ TB g x pl r' (⟨#[]⟩, ⟨#[]⟩) w'' ∧ Below w'.heap.size w' w'') := fun w' r' h hp => with_bare b x pl pr pl r' w' (hb.below h (Nat.le_refl _)) (hl.below h (Nat.le_refl _)).ptr (hr.below h (Nat.le_refl _)).ptr (hl.below h (Nat.le_refl _)).ptr hp
          have HC : Hid (∀ w', Below w.heap.size w w' → w'.cell? ⟨b, 35, none⟩ = some (.pointer pl) ∧ w'.cell? ⟨b, 36, none⟩ = some (.pointer pr)) := fun w' h => ⟨(hb.below h (Nat.le_refl _)).c35, (hb.below h (Nat.le_refl _)).c36⟩
          have HL : Hid (TA n0 bare l pl w) := hl
          clear ih hn' hn2 hHeld hb hb2 hl hr hl2 hr2 hs ht hps hpt hk1 hk2 HAB hv q1 q2 HA
          go_upto_region 6 with fail
          go_region_held3 (fun W => W.cell? ⟨b, 35, none⟩ = some (.pointer pl) ∧ W.cell? ⟨b, 36, none⟩ = some (.pointer pr)) (first | exact HC.out _ hbw1.drew | exact HC.out _ hbw2 | exact HC.out _ hbw3) (first | (go_at_call 132; refine (HI.out _ hbw1.drew).mono ?_; rintro e w2 ⟨p, rfl, hp, hb2'⟩; have hbw2 : Below w.heap.size w w2 := hbw1.drew.trans (hb2'.mono hs1); have hs2 := hbw2.size; clear hb2') | (go_at_call 165; refine (HW.out _ _ hbw2 hp.ptr).mono ?_; rintro e w3 ⟨g, rfl, hgo, hg, hb3'⟩; have hbw3 : Below w.heap.size w w3 := hbw2.trans (hb3'.mono hs2)))
          go_wp2_with fail
          go_ret
          rw [hif.out]
          exact ⟨_, rfl, ⟨g, pl, p, rfl, (by rcases hgo with q | q <;> omega), hg, HL.out.below hbw3 (Nat.le_refl _), hp.below hb3' (Nat.le_refl _)⟩, hbw3⟩
        | false =>
          have hif : Hid (T = Tr.node (Tr.merge ab (.node l x r) l2) y r2) := by show _ = _; rw [← HT.out, if_neg (by rw [hv]; decide)]
          clear HT
          have HI : Hid (∀ w', Below w.heap.size w w' → Calls Tryz.prog 132 #[.pointer (some ⟨b, 0, none⟩), .pointer pl2] w' fun e w'' => ∃ p, e = .returned (.pointer p) ∧ TA n0 bare (Tr.merge ab (.node l x r) l2) p w'' ∧ Below w'.heap.size w' w'') := fun w' h => ih (.node l x r) l2 (some ⟨b, 0, none⟩) pl2 w' hn2 (Nat.le_trans h0 h.size) (hs.below h (Nat.le_refl _)) (hl2.below h (Nat.le_refl _))
          have HW : Hid (∀ w' l', Below w.heap.size w w' → PtrT l' w' → Calls Tryz.prog 165 #[.pointer (some ⟨b2, 0, none⟩), .pointer l', .pointer pr2] w' fun e w'' => ∃ g, e = .returned (.pointer (some ⟨g, 0, none⟩)) ∧ (g = b2 ∨ w'.heap.size ≤ g) ∧ TB g y l' pr2 (⟨#[]⟩, ⟨#[]⟩) w'' ∧ Below w'.heap.size w' w'') := fun w' l' h hp => with_bare b2 y pl2 pr2 l' pr2 w' (hb2.below h (Nat.le_refl _)) (hl2.below h (Nat.le_refl _)).ptr (hr2.below h (Nat.le_refl _)).ptr hp (hr2.below h (Nat.le_refl _)).ptr
          have HC : Hid (∀ w', Below w.heap.size w w' → w'.cell? ⟨b2, 35, none⟩ = some (.pointer pl2) ∧ w'.cell? ⟨b2, 36, none⟩ = some (.pointer pr2)) := fun w' h => ⟨(hb2.below h (Nat.le_refl _)).c35, (hb2.below h (Nat.le_refl _)).c36⟩
          have HL : Hid (TA n0 bare r2 pr2 w) := hr2
          clear ih hn' hn2 hHeld hb hb2 hl hr hl2 hr2 hs ht hps hpt hk1 hk2 HAB hv q1 q2 HA
          go_upto_region 7 with fail
          go_region_held3 (fun W => W.cell? ⟨b2, 35, none⟩ = some (.pointer pl2) ∧ W.cell? ⟨b2, 36, none⟩ = some (.pointer pr2)) (first | exact HC.out _ hbw1.drew | exact HC.out _ hbw2 | exact HC.out _ hbw3) (first | (go_at_call 132; refine (HI.out _ hbw1.drew).mono ?_; rintro e w2 ⟨p, rfl, hp, hb2'⟩; have hbw2 : Below w.heap.size w w2 := hbw1.drew.trans (hb2'.mono hs1); have hs2 := hbw2.size; clear hb2') | (go_at_call 165; refine (HW.out _ _ hbw2 hp.ptr).mono ?_; rintro e w3 ⟨g, rfl, hgo, hg, hb3'⟩; have hbw3 : Below w.heap.size w w3 := hbw2.trans (hb3'.mono hs2)))
          go_wp2_with fail
          go_ret
          rw [hif.out]
          exact ⟨_, rfl, ⟨g, p, pr2, rfl, (by rcases hgo with q | q <;> omega), hg, hp.below hb3' (Nat.le_refl _), HL.out.below hbw3 (Nat.le_refl _)⟩, hbw3⟩
end Go.Proofs.YtibjhkpgaaapaaaGreatDoor
namespace Go.Proofs.YtibjhkpgaaapaaaGreatDoor
open Go.RowKit Go.Proofs.Sha

theorem info5 : (Tryz.prog.info? 5).map (fun i => (i.zero, i.size, i.bytes)) = some (some (.int .u8 0), 1, 1) := by kernel_rfl

set_option maxRecDepth 100000 in
set_option maxHeartbeats 400000 in
theorem padded_any (s : ByteArray) (w : World) (hs : s.size ≤ 1048576) :
    Calls Tryz.prog 122 #[.string s] w fun e w' => ∃ g cap, e = .returned (.slice (some ⟨g, 0, none⟩) (pad s.data.toList).length cap) ∧ Row w' w.heap.size g (pad s.data.toList).length cap ((pad s.data.toList).map B) ∧ Below w.heap.size w w' := by
  obtain ⟨i0, hi0, hz0, hz1, hz2⟩ := info_parts info5
  have hl : s.data.toList.length = s.size := rfl
  go_enter Tryz.func122, Tryz.ntmps122
  go_wp2_with (first | (refine wpList_bytes_row _ rfl (.tmp 6) 9 41 5 rfl s rfl Tryz.underlying9 Tryz.underlying41 Tryz.underlying5 ?_; intro g0 cap0 w0 hrow0 hbel0) | (at_builtin; refine wpList_append_row _ rfl (.tmp 8) (.tmp 9) 41 rfl 5 i0 (.int .u8 0) 1 Tryz.underlying41 hi0 hz0 hz1 hz2 rfl w.heap.size g0 s.size cap0 _ rfl (hrow0.alloc _) ⟨w0.heap.size, 0, none⟩ 1 1 [.int .u8 128] rfl rfl (World.news_of_block (heap_alloc_new w0 _)) (by simp [Value.oneCell']) (by unfold maxLen; omega) (by omega) (by have := hbel0.size; simp; omega) (w0.heap.size + 1) (by simp) ?_; intro g1 cap1 w1 hrow1 hgrow1 _ _))
  have hbel1 : Below w.heap.size w w1 := (hbel0.alloc hbel0.size _).grown hgrow1 (by have := hbel0.size; simp; omega) (fun q hq => by cases hq; exact hrow0.ge)
  have hrow1' : Row w1 w.heap.size g1 (s.size + 1 + 0) cap1 ((s.data.toList ++ [128] ++ List.replicate 0 0).map B) := by simpa [B] using hrow1
  clear hgrow1 hrow1 hrow0 hbel0
  go_loopw [3] (fun v wr => ∃ j g cap : Nat, j ≤ zpad s.size ∧ v = .slice (some ⟨g, 0, none⟩) (s.size + 1 + j) cap ∧ Row wr w.heap.size g (s.size + 1 + j) cap ((s.data.toList ++ [128] ++ List.replicate j 0).map B) ∧ Below w.heap.size w wr) (fun v _ => zpad s.size + s.size + 1 - lenOf v)
  case atStart => exact ⟨0, g1, cap1, Nat.zero_le _, rfl, hrow1', hbel1⟩
  case round =>
    clear hrow1' hbel1
    obtain ⟨j, g, cap, hj, rfl, hrow, hbel⟩ := hrel
    have hsz := hbel.size
    have hge := hrow.ge
    have hz := zpad_lt s.size
    by_cases hlt : j < zpad s.size
    · have hm := zpad_ne s.size j hlt
      go_wp2_with (at_builtin; refine wpList_append_row _ rfl (.tmp 15) (.tmp 16) 41 rfl 5 i0 (.int .u8 0) 1 Tryz.underlying41 hi0 hz0 hz1 hz2 rfl w.heap.size g (s.size + 1 + j) cap _ rfl (hrow.alloc _) ⟨wr.heap.size, 0, none⟩ 1 1 [.int .u8 0] rfl rfl (World.news_of_block (heap_alloc_new wr _)) (by simp [Value.oneCell']) (by unfold maxLen; omega) (by omega) (by simp; omega) (wr.heap.size + 1) (by simp) ?_; intro g2 cap2 w2 hrow2 hgrow2 _ _)
      go_roundw
      case rel =>
        have e : (s.data.toList ++ [128] ++ List.replicate j 0).map B ++ [.int .u8 0] = (s.data.toList ++ [128] ++ List.replicate (j + 1) 0).map B := by
          rw [List.replicate_succ', ← List.append_assoc, List.map_append (l₂ := [0])]; rfl
        rw [e] at hrow2
        exact ⟨j + 1, g2, cap2, by omega, rfl, hrow2, (hbel.alloc hsz _).grown hgrow2 (by simp; omega) (fun q hq => by cases hq; exact hge)⟩
      case measure => simp [lenOf]; omega
    · obtain rfl : j = zpad s.size := by omega
      have hm := zpad_eq s.size
      have hm' : ((((s.size : Int) + 1 + ((zpad s.size : Nat) : Int)) % 64) != 56) = false := by
        rw [bne_eq_false_iff_eq]; omega
      go_wp2_with fail
      try rw [hm']
      go_loopw [3, 5] (fun v i wr => ∃ k g cap : Nat, k ≤ 8 ∧ i = .int .i64 (7 - (k : Int)) ∧ v = .slice (some ⟨g, 0, none⟩) (s.size + 1 + zpad s.size + k) cap ∧ Row wr w.heap.size g (s.size + 1 + zpad s.size + k) cap ((s.data.toList ++ [128] ++ List.replicate (zpad s.size) 0 ++ beTo (8 * s.size) k).map B) ∧ Below w.heap.size w wr) (fun v _ _ => zpad s.size + s.size + 9 - lenOf v)
      case atStart => exact ⟨0, g, cap, by omega, rfl, rfl, by simpa [beTo] using hrow, hbel⟩
      case round =>
        clear hrow hbel hge hsz
        obtain ⟨k, g, cap, hk, rfl, rfl, hrow, hbel⟩ := hrel
        have hsz := hbel.size
        have hge := hrow.ge
        by_cases hlt2 : k < 8
        · go_wp2_with (at_builtin; refine wpList_append_row _ rfl (.tmp 26) (.tmp 33) 41 rfl 5 i0 (.int .u8 0) 1 Tryz.underlying41 hi0 hz0 hz1 hz2 rfl w.heap.size g (s.size + 1 + zpad s.size + k) cap _ rfl (hrow.alloc _) ⟨wr.heap.size, 0, none⟩ 1 1 [_] rfl rfl (World.news_of_block (heap_alloc_new wr _)) (by simp [Value.oneCell']) (by unfold maxLen; omega) (by omega) (by simp; omega) (wr.heap.size + 1) (by simp) ?_; intro g2 cap2 w2 hrow2 hgrow2 _ _)
          go_roundw
          case rel =>
            rw [lenByte_form] at hrow2
            have e : (s.data.toList ++ [128] ++ List.replicate (zpad s.size) 0 ++ beTo (8 * s.size) k).map B ++ [.int .u8 ((lenByte (8 * s.size) (7 - k)).toNat : Int)] = (s.data.toList ++ [128] ++ List.replicate (zpad s.size) 0 ++ beTo (8 * s.size) (k + 1)).map B := by
              rw [beTo_succ, ← List.append_assoc, List.map_append (l₂ := [lenByte (8 * s.size) (7 - k)])]; rfl
            rw [e] at hrow2
            exact ⟨k + 1, g2, cap2, by omega, by go_num, rfl, hrow2, (hbel.alloc hsz _).grown hgrow2 (by simp; omega) (fun q hq => by cases hq; exact hge)⟩
          case measure => simp [lenOf]; omega
        · obtain rfl : k = 8 := by omega
          go_wp2
          go_ret
          have e : pad s.data.toList = s.data.toList ++ [128] ++ List.replicate (zpad s.size) 0 ++ beTo (8 * s.size) 8 := by rw [pad, hl]
          have e2 : (pad s.data.toList).length = s.size + 1 + zpad s.size + 8 := by rw [pad_length, hl]; omega
          rw [e2, e]
          exact ⟨g, cap, rfl, hrow, hbel⟩
end Go.Proofs.YtibjhkpgaaapaaaGreatDoor
