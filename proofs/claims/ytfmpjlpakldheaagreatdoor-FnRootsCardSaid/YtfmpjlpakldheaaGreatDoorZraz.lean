import Derived.Test.YtfmpjlpakldheaaGreatDoorZray
import Derived.Test.YtfmpjlpakldheaaGreatDoorZrau
set_option maxRecDepth 100000
set_option maxHeartbeats 2000000
namespace Go.Proofs.YtfmpjlpakldheaaGreatDoor
open Go.RowKit Go.Proofs.Sha Tryz
def digB (q : ByteArray) (m : Nat) : ByteArray := ⟨((sha (78 :: q.data.toList)).take m).toArray⟩
def rootT (m : Nat) : Tr PairT -> ByteArray
 | .nil => ⟨#[]⟩
 | .node l x r => digB (encS x.1 x.2 (rootT m l) (rootT m r) m) m
def encT (m : Nat) : Tr PairT -> ByteArray
 | .nil => ⟨#[]⟩
 | .node l x r => encS x.1 x.2 (rootT m l) (rootT m r) m
def hf (m : Nat) (t : Tr PairT) : ByteArray × ByteArray := (encT m t, rootT m t)
theorem digB_size (q : ByteArray) (m : Nat) (h : m <= 32) : (digB q m).size = m := by
 show ((sha (78 :: q.data.toList)).take m).toArray.size = m
 rw [List.size_toArray, List.length_take, sha_len32]; omega
theorem rootT_size (m : Nat) (h : m <= 32) (t : Tr PairT) : (rootT m t).size = 0 \/ (rootT m t).size = m := by
 cases t with
 | nil => exact .inl rfl
 | node l x r => exact .inr (digB_size _ m h)
structure Upd (M : Nat -> Prop) (w w' : World) : Prop where
 os : w'.os = w.os
 tape : w'.tape = w.tape
 output : w'.output = w.output
 size : w.heap.size <= w'.heap.size
 block : ∀ k, k < w.heap.size -> ¬ M k -> w'.heap[k]? = w.heap[k]?
theorem Upd.refl (M : Nat -> Prop) (w : World) : Upd M w w := ⟨rfl, rfl, rfl, Nat.le_refl _, fun _ _ _ => rfl⟩
theorem Upd.trans {M : Nat -> Prop} {a b c : World} (h : Upd M a b) (k : Upd M b c) : Upd M a c :=
 ⟨k.os.trans h.os, k.tape.trans h.tape, k.output.trans h.output, Nat.le_trans h.size k.size, fun i hi hM => (k.block i (Nat.lt_of_lt_of_le hi h.size) hM).trans (h.block i hi hM)⟩
theorem Upd.mono {M M' : Nat -> Prop} {a b : World} (h : Upd M a b) (hM : ∀ k, M k -> M' k) : Upd M' a b := ⟨h.os, h.tape, h.output, h.size, fun k hk hn => h.block k hk fun q => hn (hM k q)⟩
theorem Upd.of_below {M : Nat -> Prop} {a b : World} (h : Below a.heap.size a b) : Upd M a b := ⟨h.os, h.tape, h.output, h.size, fun k hk _ => h.block k hk⟩
theorem Upd.below {M : Nat -> Prop} {a b : World} {n : Nat} (h : Upd M a b) (hn : n <= a.heap.size) (hM : ∀ k, M k -> n <= k) : Below n a b :=
 ⟨h.os, h.tape, h.output, h.size, fun k hk => h.block k (Nat.lt_of_lt_of_le hk hn) fun q => by have := hM k q; omega⟩
theorem Upd.setCell {M : Nat -> Prop} {a b : World} (h : Upd M a b) (g o : Nat) (v : Value) (hM : M g) : Upd M a (b.setCell ⟨g, o, none⟩ v) := by
 refine ⟨h.os, h.tape, h.output, ?_, fun k hk hn => ?_⟩
 · have : (b.setCell ⟨g, o, none⟩ v).heap.size = b.heap.size := by simp [World.setCell]
   rw [this]; exact h.size
 · rw [Below.heap_setCell _ _ _ _ (fun e => hn (by rw [e]; exact hM))]
   exact h.block k hk hn
theorem Upd.cell {M : Nat -> Prop} {a b : World} (h : Upd M a b) {k o : Nat} {v : Value} (hc : a.cell? ⟨k, o, none⟩ = some v) (hn : ¬ M k) : b.cell? ⟨k, o, none⟩ = some v := by
 have hlt : k < a.heap.size := World.block_lt_of_cell? a _ hc
 have e := h.block k hlt hn
 rw [<- hc]
 unfold World.cell?
 simp only [e]
def TAL (n0 : Nat) (f : Tr PairT -> ByteArray × ByteArray) : Tr PairT -> Option Addr -> List Nat -> World -> Prop
 | .nil, p, bs, _ => p = none /\ bs = []
 | .node l x r, p, bs, w => ∃ (b : Nat) (pl pr : Option Addr) (bl br : List Nat), p = some ⟨b, 0, none⟩ /\ bs = bl ++ b :: br /\ n0 <= b /\ TB b x pl pr (f (.node l x r)) w /\ TAL n0 f l pl bl w /\ TAL n0 f r pr br w
section
variable {n0 : Nat} {f : Tr PairT -> ByteArray × ByteArray}
theorem TA.list {w : World} : ∀ {t : Tr PairT} {p : Option Addr}, TA n0 f t p w -> ∃ bs, TAL n0 f t p bs w
 | .nil, _, h => ⟨[], h, rfl⟩
 | .node _ _ _, _, ⟨b, pl, pr, h1, h0, h2, h3, h4⟩ => by
  obtain ⟨bl, hl⟩ := h3.list
  obtain ⟨br, hr⟩ := h4.list
  exact ⟨_, b, pl, pr, bl, br, h1, rfl, h0, h2, hl, hr⟩
theorem TA.base {w : World} : ∀ {t : Tr PairT} {p : Option Addr}, TA n0 f t p w -> TA 0 f t p w
 | .nil, _, h => h
 | .node _ _ _, _, ⟨b, pl, pr, h1, _, h2, h3, h4⟩ => ⟨b, pl, pr, h1, Nat.zero_le _, h2, h3.base, h4.base⟩
theorem TAL.ta {w : World} : ∀ {t : Tr PairT} {p : Option Addr} {bs : List Nat}, TAL n0 f t p bs w -> TA n0 f t p w
 | .nil, _, _, h => h.1
 | .node _ _ _, _, _, ⟨b, pl, pr, _, _, h1, _, h0, h2, h3, h4⟩ => ⟨b, pl, pr, h1, h0, h2, h3.ta, h4.ta⟩
theorem TB.upd {M : Nat -> Prop} {b : Nat} {x : PairT} {l r : Option Addr} {e : ByteArray × ByteArray} {w w' : World} (h : TB b x l r e w) (hu : Upd M w w') (hn : ¬ M b) : TB b x l r e w' :=
 (hu.block b h.lt hn).trans h
theorem TAL.upd {M : Nat -> Prop} {w w' : World} (hu : Upd M w w') : ∀ {t : Tr PairT} {p : Option Addr} {bs : List Nat}, TAL n0 f t p bs w -> (∀ b ∈ bs, ¬ M b) -> TAL n0 f t p bs w'
 | .nil, _, _, h, _ => h
 | .node _ _ _, _, _, ⟨b, pl, pr, bl, br, h1, h5, h0, h2, h3, h4⟩, hn => by
  subst h5
  exact ⟨b, pl, pr, bl, br, h1, rfl, h0, h2.upd hu (hn b (by simp)), h3.upd hu (fun c hc => hn c (by simp [hc])), h4.upd hu (fun c hc => hn c (by simp [hc]))⟩
theorem TAL.mem {w : World} : ∀ {t : Tr PairT} {p : Option Addr} {bs : List Nat}, TAL n0 f t p bs w -> ∀ b ∈ bs, ∃ x ∈ t.inord, ∃ l r e, TB b x l r e w
 | .nil, _, _, h, b, hb => by rw [h.2] at hb; cases hb
 | .node tl y tr, _, _, ⟨b0, pl, pr, bl, br, h1, h5, h0, h2, h3, h4⟩, b, hb => by
  subst h5
  rcases List.mem_append.1 hb with q | q
  · obtain ⟨x, hx, rest⟩ := h3.mem b q
    exact ⟨x, by simp [Tr.inord, hx], rest⟩
  · rcases List.mem_cons.1 q with rfl | q
    · exact ⟨y, by simp [Tr.inord], pl, pr, _, h2⟩
    · obtain ⟨x, hx, rest⟩ := h4.mem b q
      exact ⟨x, by simp [Tr.inord, hx], rest⟩
theorem TAL.lt {w : World} {t : Tr PairT} {p : Option Addr} {bs : List Nat} (h : TAL n0 f t p bs w) (b : Nat) (hb : b ∈ bs) : b < w.heap.size := by
 obtain ⟨x, _, l, r, e, hT⟩ := h.mem b hb
 exact hT.lt
theorem TAL.ge {w : World} : ∀ {t : Tr PairT} {p : Option Addr} {bs : List Nat}, TAL n0 f t p bs w -> ∀ b ∈ bs, n0 <= b
 | .nil, _, _, h, b, hb => by rw [h.2] at hb; cases hb
 | .node tl y tr, _, _, ⟨b0, pl, pr, bl, br, h1, h5, h0, h2, h3, h4⟩, b, hb => by
  subst h5
  rcases List.mem_append.1 hb with q | q
  · exact h3.ge b q
  · rcases List.mem_cons.1 q with rfl | q
    · exact h0
    · exact h4.ge b q
theorem TAL.notin {w : World} {t : Tr PairT} {p : Option Addr} {bs : List Nat} (h : TAL n0 f t p bs w) (k : Nat) {v : Value} (hv : w.cell? ⟨k, 0, none⟩ = some v) (hs : ∀ s, v ≠ .string s) : k ∉ bs := fun hk => by
 obtain ⟨x, _, l, r, e, hT⟩ := h.mem k hk
 exact hs _ (Option.some.inj (hv.symm.trans hT.c0))
theorem TB.key {b : Nat} {x y : PairT} {l r l2 r2 : Option Addr} {e e2 : ByteArray × ByteArray} {w : World} (h : TB b x l r e w) (k : TB b y l2 r2 e2 w) : x.1 = y.1 := by
 have := h.c0.symm.trans k.c0
 simpa using this
theorem TAL.nodup {w : World} : ∀ {t : Tr PairT} {p : Option Addr} {bs : List Nat}, TAL n0 f t p bs w -> Apart t.inord -> bs.Nodup
 | .nil, _, _, h, _ => by rw [h.2]; exact List.nodup_nil
 | .node tl y tr, _, _, ⟨b0, pl, pr, bl, br, h1, h5, h0, h2, h3, h4⟩, ha => by
  subst h5
  unfold Apart at ha
  simp only [Tr.inord] at ha
  obtain ⟨a1, a2, a3⟩ := List.pairwise_append.1 ha
  obtain ⟨a4, a5⟩ := List.pairwise_cons.1 a2
  refine List.nodup_append.2 ⟨h3.nodup a1, List.nodup_cons.2 ⟨fun hq => ?_, h4.nodup a5⟩, fun c hc d hd e => ?_⟩
  · obtain ⟨z, hz, l, r, e, hT⟩ := h4.mem b0 hq
    exact a4 z hz (h2.key hT)
  · subst e
    obtain ⟨z, hz, l, r, e, hT⟩ := h3.mem c hc
    rcases List.mem_cons.1 hd with rfl | hd
    · exact a3 z hz y (by simp) (hT.key h2)
    · obtain ⟨z2, hz2, l2, r2, e2, hT2⟩ := h4.mem c hd
      exact a3 z hz z2 (by simp [hz2]) (hT.key hT2)
end
theorem treeL_set37 (X : List UInt8) (hX : X.length = 32) (k v : ByteArray) (l r : Option Addr) (enc h e2 : ByteArray) : (treeL X k v l r enc h).set 37 (.string e2) = treeL X k v l r e2 h := by
 have e : ∀ z, treeL X k v l r z h = ([.string k, .string v] ++ (X.map B ++ [Value.string k])) ++ [.pointer l, .pointer r, .string z, .string h] := fun z => by unfold treeL rankL; simp
 have hl2 : ([Value.string k, .string v] ++ (X.map B ++ [Value.string k])).length = 35 := by simp [hX]
 rw [e, e, List.set_append_right _ _ (by omega), hl2]; rfl
theorem treeL_set38 (X : List UInt8) (hX : X.length = 32) (k v : ByteArray) (l r : Option Addr) (enc h e2 : ByteArray) : (treeL X k v l r enc h).set 38 (.string e2) = treeL X k v l r enc e2 := by
 have e : ∀ z, treeL X k v l r enc z = ([.string k, .string v] ++ (X.map B ++ [Value.string k])) ++ [.pointer l, .pointer r, .string enc, .string z] := fun z => by unfold treeL rankL; simp
 have hl2 : ([Value.string k, .string v] ++ (X.map B ++ [Value.string k])).length = 35 := by simp [hX]
 rw [e, e, List.set_append_right _ _ (by omega), hl2]; rfl
theorem TB.setEnc {b : Nat} {x : PairT} {l r : Option Addr} {e : ByteArray × ByteArray} {w : World} (h : TB b x l r e w) (s : ByteArray) : TB b x l r (s, e.2) (w.setCell ⟨b, 37, none⟩ (.string s)) := by
 have := heap_setCell_same w b 37 _ 133 (.string s) h
 unfold TB
 rw [this]
 simp only [List.setIfInBounds_toArray, treeL_set37 _ (sha_len32 _)]
theorem TB.setHash {b : Nat} {x : PairT} {l r : Option Addr} {e : ByteArray × ByteArray} {w : World} (h : TB b x l r e w) (s : ByteArray) : TB b x l r (e.1, s) (w.setCell ⟨b, 38, none⟩ (.string s)) := by
 have := heap_setCell_same w b 38 _ 133 (.string s) h
 unfold TB
 rw [this]
 simp only [List.setIfInBounds_toArray, treeL_set38 _ (sha_len32 _)]
theorem TB.frozen {b o : Nat} {x : PairT} {l r : Option Addr} {e : ByteArray × ByteArray} {w : World} (h : TB b x l r e w) : w.frozen? ⟨b, o, none⟩ = false := by
 unfold TB at h
 unfold World.frozen?
 simp [h]
theorem root_any (m : Nat) (t : Tr PairT) (p : Option Addr) (w : World) {n0 : Nat} (h : TA n0 (hf m) t p w) : Calls prog 55 #[.pointer p] w fun e w' => e = .returned (.string (rootT m t)) /\ w' = w := by
 have hp := h.ptr
 cases t with
 | nil =>
  obtain rfl : p = none := h
  have q := ptr_nil w
  have hr : Hid (rootT m .nil = ⟨#[]⟩) := rfl
  clear hp
  go_enter func55, ntmps55
  go_wp2_with fail
  go_ret
  exact ⟨by rw [hr.out]; rfl, rfl⟩
 | node l x r =>
  obtain ⟨b, pl, pr, rfl, _, hb, _, _⟩ := h
  have q := ptr_some _ w hp
  have c := hb.c38
  have e : (hf m (.node l x r)).2 = rootT m (.node l x r) := rfl
  rw [e] at c
  generalize rootT m (.node l x r) = H at c
  clear hp hb e
  go_enter func55, ntmps55
  go_wp2_with fail
  go_ret
  exact ⟨rfl, rfl⟩
def someT : Tr PairT -> Bool
 | .nil => false
 | .node _ _ _ => true
theorem isUn_any (t : Tr PairT) (p : Option Addr) (w : World) {n0 : Nat} (h : TA n0 bare t p w) : Calls prog 135 #[.pointer p] w fun e w' => e = .returned (.bool (someT t)) /\ w' = w := by
 have hp := h.ptr
 cases t with
 | nil =>
  obtain rfl : p = none := h
  have q : (binOp .neq 79 (.pointer none) (.pointer none)).run prog w = .ok (.bool false) w := by
   have := ptr_nil w
   simp only [binOp] at this ⊢
   cases hq : (Op.equal 79 (.pointer none) (.pointer none)).run prog w <;> simp_all
  clear hp
  go_enter func135, ntmps135
  go_wp2_with fail
  go_ret
  exact ⟨rfl, rfl⟩
 | node l x r =>
  obtain ⟨b, pl, pr, rfl, _, hb, _, _⟩ := h
  have q : (binOp .neq 79 (.pointer (some ⟨b, 0, none⟩)) (.pointer none)).run prog w = .ok (.bool true) w := by
   have := ptr_some _ w hp
   simp only [binOp] at this ⊢
   cases hq : (Op.equal 79 (.pointer (some ⟨b, 0, none⟩)) (.pointer none)).run prog w <;> simp_all
  have c := hb.c37
  have e : (bare (.node l x r)).1 = ⟨#[]⟩ := rfl
  rw [e] at c
  clear hp hb e
  go_enter func135, ntmps135
  go_wp2_with fail
  go_ret
  exact ⟨rfl, rfl⟩
theorem subs_any (b : Nat) (x : PairT) (l r : Option Addr) (e : ByteArray × ByteArray) (w : World) (h : TB b x l r e w) : Calls prog 204 #[.pointer (some ⟨b, 0, none⟩)] w fun e w' => e = .returned (.tuple #[.pointer l, .pointer r]) /\ Below w.heap.size w w' := by
 have c1 := h.c35
 have c2 := h.c36
 clear h
 go_enter func204, ntmps204
 go_wp2_with fail
 go_region_held3 (fun W => W.cell? ⟨b, 35, none⟩ = some (.pointer l) /\ W.cell? ⟨b, 36, none⟩ = some (.pointer r)) (exact ⟨c1, c2⟩) (fail)
 go_wp2_with fail
 go_ret2
 exact ⟨rfl, (Below.refl _ _).drew⟩
def KTab (w : World) : Prop := ∀ j, j < 64 -> w.cell? ⟨0, j, none⟩ = some (.int .u32 ((kTab.getD j 0).toNat : Int))
theorem KTab.below {w w' : World} (h : KTab w) (hb : Below w.heap.size w w') : KTab w' := fun j hj => (hb.cell (World.block_lt_of_cell? w _ (h j hj))).trans (h j hj)
theorem KTab.upd {M : Nat -> Prop} {w w' : World} (h : KTab w) (hu : Upd M w w') (hn : ¬ M 0) : KTab w' := fun j hj => hu.cell (h j hj) hn
theorem TB.ne0 {b : Nat} {x : PairT} {l r : Option Addr} {e : ByteArray × ByteArray} {w : World} (h : TB b x l r e w) (hk : KTab w) : 0 ≠ b := fun q => by
 subst q
 have := h.c0.symm.trans (hk 0 (by omega))
 simp at this
theorem addHash_any (m : Nat) (h1 : 1 <= m) (h2 : m <= 32) (b : Nat) (x : PairT) (pl pr : Option Addr) (l r : Tr PairT) (e0 : ByteArray × ByteArray) (w : World) (hb : TB b x pl pr e0 w) {n0 : Nat} (hl : TA n0 (hf m) l pl w) (hr : TA n0 (hf m) r pr w) (hx1 : x.1.size <= 1048576) (hx2 : x.2.size <= 1048576) (hk : KTab w) :
 Calls prog 137 #[.pointer (some ⟨b, 0, none⟩), .int .i64 (m : Int)] w fun e w' => e = .returned (.tuple #[]) /\ TB b x pl pr (hf m (.node l x r)) w' /\ Upd (fun k => k = b) w w' := by
 have HC : Hid (∀ w', Below w.heap.size w w' -> w'.cell? ⟨b, 0, none⟩ = some (.string x.1) /\ w'.cell? ⟨b, 1, none⟩ = some (.string x.2) /\ w'.cell? ⟨b, 35, none⟩ = some (.pointer pl) /\ w'.cell? ⟨b, 36, none⟩ = some (.pointer pr)) := fun w' h => ⟨(hb.below h (Nat.le_refl _)).c0, (hb.below h (Nat.le_refl _)).c1, (hb.below h (Nat.le_refl _)).c35, (hb.below h (Nat.le_refl _)).c36⟩
 have HL : Hid (∀ w', Below w.heap.size w w' -> Calls prog 55 #[.pointer pl] w' fun e w'' => e = .returned (.string (rootT m l)) /\ w'' = w') := fun w' h => root_any m l pl w' (hl.below h (Nat.le_refl _))
 have HR : Hid (∀ w', Below w.heap.size w w' -> Calls prog 55 #[.pointer pr] w' fun e w'' => e = .returned (.string (rootT m r)) /\ w'' = w') := fun w' h => root_any m r pr w' (hr.below h (Nat.le_refl _))
 have hsl := rootT_size m h2 l
 have hsr := rootT_size m h2 r
 have HE : Hid (∀ w', Calls prog 164 #[.agg #[.string x.1, .string x.2, .string (rootT m l), .string (rootT m r)], .int .i64 (m : Int)] w' fun e w'' => ∃ t, e = .returned (.string t) /\ Hid (t = encT m (.node l x r)) /\ Below w'.heap.size w' w'') := fun w' => enc_impl x.1 x.2 _ _ _ w' hx1 hx2 (by omega) (by omega)
 have HT : Hid (hf m (.node l x r) = (encT m (.node l x r), digB (encT m (.node l x r)) m)) := rfl
 have hes : (encT m (.node l x r)).size <= 1048576 := by
  have := (encS_size x.1 x.2 (rootT m l) (rootT m r) m).1
  show (encS x.1 x.2 (rootT m l) (rootT m r) m).size <= 1048576
  omega
 clear hsl hsr
 generalize hf m (.node l x r) = F at HT ⊢
 generalize encT m (.node l x r) = E at HE HT hes
 generalize rootT m l = A at HL HE
 generalize rootT m r = C at HR HE
 have HD : Hid (∀ w', KTab w' -> Calls prog 165 #[.string E, .int .i64 (m : Int)] w' fun e w'' => e = .returned (.string (digB E m)) /\ Below w'.heap.size w' w'') := fun w' h => edig_any E m w' hes h1 h2 h
 generalize digB E m = G at HD HT
 have hne := hb.ne0 hk
 obtain ⟨xk, xv⟩ := x
 dsimp only at HC HE hx1 hx2
 have HB : Hid (TB b (xk, xv) pl pr e0 w) := hb
 have HKT : Hid (KTab w) := hk
 clear hl hr hb hk hes hx1 hx2
 have hb0 : Below w.heap.size w w.drew := (Below.refl _ _).drew
 go_enter func137, ntmps137
 go_upto_region 0 with fail
 go_region_held3 (fun W => W.cell? ⟨b, 0, none⟩ = some (.string xk) /\ W.cell? ⟨b, 1, none⟩ = some (.string xv) /\ W.cell? ⟨b, 35, none⟩ = some (.pointer pl) /\ W.cell? ⟨b, 36, none⟩ = some (.pointer pr)) (first | exact HC.out _ hb0 | exact HC.out _ hb2 | exact ⟨HS3.out.c0, HS3.out.c1, HS3.out.c35, HS3.out.c36⟩) (first | (go_at_call_of 55 (Value.pointer pl); refine (HL.out _ hb0).mono ?_; rintro e w1 ⟨rfl, rfl⟩) | (go_at_call_of 55 (Value.pointer pr); refine (HR.out _ hb0).mono ?_; rintro e w1 ⟨rfl, rfl⟩) | (go_at_call 164; refine (HE.out _).mono ?_; rintro e w2 ⟨t, rfl, ht, hb2'⟩; have hb2 : Below w.heap.size w w2 := hb0.trans hb2'; have hB2 := HB.out.below hb2 (Nat.le_refl _); have c37 := hB2.c37; have f37 := hB2.frozen (o := 37); have HS3 : Hid (TB b (xk, xv) pl pr (t, e0.2) (w2.setCell ⟨b, 37, none⟩ (.string t))) := hB2.setEnc t; clear hb2'))
 have hU : Upd (fun k => k = b) w (w2.setCell ⟨b, 37, none⟩ (.string t)) := (Upd.of_below hb2).setCell b 37 _ rfl
 have hT3 : TB b (xk, xv) pl pr (t, e0.2) (w2.setCell ⟨b, 37, none⟩ (.string t)) := HS3.out
 have hk3 := HKT.out.upd hU hne
 clear HS3 f37 c37 hB2 hb2 HKT HB HC HL HR HE hb0 hne
 generalize w2.setCell ⟨b, 37, none⟩ (.string t) = w3 at hU hT3 hk3 ⊢
 obtain rfl : t = E := ht.out
 have c37 := hT3.c37
 have HK3 : Hid (KTab w3) := hk3
 clear hk3
 dsimp only at c37
 go_wp2_with (first | (go_at_call 165; refine (HD.out _ HK3.out).mono ?_; rintro e w4 ⟨rfl, hb4⟩; have hT4 := hT3.below hb4 (Nat.le_refl _); have c38 := hT4.c38; have f38 := hT4.frozen (o := 38)))
 go_end0
 refine ⟨rfl, ?_, (hU.trans (Upd.of_below hb4)).setCell b 38 _ rfl⟩
 rw [HT.out]
 exact hT4.setHash G
theorem clo_no (c : Nat) (p : Option Addr) (i : Int) (hi : i = 0 \/ i = 1) (w : World) : Calls prog 136 #[.pointer p, .int .i64 i, .pointer (some ⟨c, 0, none⟩)] w fun e w' => e = .returned (.bool true) /\ w' = w := by
 have hz : (i == 2) = false := by rcases hi with rfl | rfl <;> rfl
 go_enter func136, ntmps136
 go_wp2_with fail
 go_ret
 exact ⟨rfl, rfl⟩
theorem clo_yes (m : Nat) (h1 : 1 <= m) (h2 : m <= 32) (c b : Nat) (x : PairT) (pl pr : Option Addr) (l r : Tr PairT) (e0 : ByteArray × ByteArray) (w : World) (hb : TB b x pl pr e0 w) {n0 : Nat} (hl : TA n0 (hf m) l pl w) (hr : TA n0 (hf m) r pr w) (hx1 : x.1.size <= 1048576) (hx2 : x.2.size <= 1048576) (hk : KTab w) (hc : w.cell? ⟨c, 0, none⟩ = some (.int .i64 (m : Int))) :
 Calls prog 136 #[.pointer (some ⟨b, 0, none⟩), .int .i64 2, .pointer (some ⟨c, 0, none⟩)] w fun e w' => e = .returned (.bool true) /\ TB b x pl pr (hf m (.node l x r)) w' /\ Upd (fun k => k = b) w w' := by
 have HA := addHash_any m h1 h2 b x pl pr l r e0 w hb hl hr hx1 hx2 hk
 clear hb hl hr hk hx1 hx2
 go_enter func136, ntmps136
 go_wp2_with (go_at_call 137; refine HA.mono ?_; rintro e w1 ⟨rfl, hT, hU⟩)
 go_ret
 exact ⟨rfl, hT, hU⟩
theorem walk_hash (m : Nat) (h1 : 1 <= m) (h2 : m <= 32) (c n0 : Nat) : ∀ (t : Tr PairT) (p : Option Addr) (bs : List Nat) (w : World), TAL n0 bare t p bs w -> bs.Nodup -> (∀ x ∈ t.inord, x.1.size <= 1048576 /\ x.2.size <= 1048576) -> KTab w -> w.cell? ⟨c, 0, none⟩ = some (.int .i64 (m : Int)) →
 Calls prog 134 #[.pointer p, .func (.func 135) #[] #[], .func (.func 136) #[] #[.pointer (some ⟨c, 0, none⟩)]] w fun e w' => e = .returned (.bool true) /\ TAL n0 (hf m) t p bs w' /\ Upd (fun k => k ∈ bs) w w' := by
 intro t
 induction t with
 | nil =>
  intro p bs w ht hnd hsz hk hc
  obtain ⟨rfl, rfl⟩ := ht
  have HU := isUn_any .nil none w (n0 := n0) rfl
  have hs : someT .nil = false := rfl
  rw [hs] at HU
  clear hs hsz hk hc hnd
  go_enter func134, ntmps134
  go_wp2_with (go_at_call 135; refine HU.mono ?_; rintro e w1 ⟨rfl, rfl⟩)
  go_ret
  exact ⟨rfl, ⟨rfl, rfl⟩, Upd.refl _ _⟩
 | node l x r ihl ihr =>
  intro p bs w ht hnd hsz hk hc
  have HU := isUn_any (.node l x r) p w ht.ta
  have hs : someT (.node l x r) = true := rfl
  rw [hs] at HU
  clear hs
  obtain ⟨b, pl, pr, bl, br, rfl, rfl, hge, hb, hl, hr⟩ := ht
  obtain ⟨n1, n2, n3⟩ := List.nodup_append.1 hnd
  obtain ⟨n4, n5⟩ := List.nodup_cons.1 n2
  have d1 : b ∉ bl := fun q => n3 b q b (by simp) rfl
  have d2 : ∀ k ∈ br, k ∉ bl := fun k hk q => n3 k q k (by simp [hk]) rfl
  have hm : ∀ w' : World, (method 388 79 (.pointer (some ⟨b, 0, none⟩)) "loop.example/s03048/impl.subtrees").run prog w' = .ok (204, .pointer (some ⟨b, 0, none⟩)) w' := fun _ => by kernel_rfl
  have H0 := fun w' => clo_no c (some ⟨b, 0, none⟩) 0 (.inl rfl) w'
  have H1 := fun w' => clo_no c (some ⟨b, 0, none⟩) 1 (.inr rfl) w'
  have HS := subs_any b x pl pr _ w hb
  have HL : Hid (∀ w0, Below w.heap.size w w0 -> Calls prog 134 #[.pointer pl, .func (.func 135) #[] #[], .func (.func 136) #[] #[.pointer (some ⟨c, 0, none⟩)]] w0 fun e w' => e = .returned (.bool true) /\ TAL n0 (hf m) l pl bl w' /\ Upd (fun k => k ∈ bl) w w') := fun w0 hb0 => by
   have u0 : Upd (fun _ => False) w w0 := Upd.of_below hb0
   refine (ihl pl bl w0 (hl.upd u0 (fun _ _ q => q)) n1 (fun y hy => hsz y (by simp [Tr.inord, hy])) (hk.below hb0) (u0.cell hc id)).mono ?_
   rintro e w' ⟨he, hT, hU⟩
   exact ⟨he, hT, (Upd.of_below hb0).trans hU⟩
  have hc0 : c ∉ bl /\ c ∉ br /\ c ≠ b := ⟨hl.notin c hc (fun s => by simp), hr.notin c hc (fun s => by simp), fun q => by
   subst q
   have := hb.c0.symm.trans hc
   simp at this⟩
  have hk0 : 0 ∉ bl /\ 0 ∉ br /\ 0 ≠ b := ⟨hl.notin 0 (hk 0 (by omega)) (fun s => by simp), hr.notin 0 (hk 0 (by omega)) (fun s => by simp), hb.ne0 hk⟩
  have HR : Hid (∀ w1, Upd (fun k => k ∈ bl) w w1 -> Calls prog 134 #[.pointer pr, .func (.func 135) #[] #[], .func (.func 136) #[] #[.pointer (some ⟨c, 0, none⟩)]] w1 fun e w' => e = .returned (.bool true) /\ TAL n0 (hf m) r pr br w' /\ Upd (fun k => k ∈ br) w1 w') := fun w1 hu1 => ihr pr br w1 (hr.upd hu1 (fun k hk q => d2 k hk q)) n5 (fun y hy => hsz y (by simp [Tr.inord, hy])) (hk.upd hu1 hk0.1) (hu1.cell hc hc0.1)
  have HY : Hid (∀ w1 w2, Upd (fun k => k ∈ bl) w w1 -> TAL n0 (hf m) l pl bl w1 -> Upd (fun k => k ∈ br) w1 w2 -> TAL n0 (hf m) r pr br w2 -> Calls prog 136 #[.pointer (some ⟨b, 0, none⟩), .int .i64 2, .pointer (some ⟨c, 0, none⟩)] w2 fun e w3 => e = .returned (.bool true) /\ TAL n0 (hf m) (.node l x r) (some ⟨b, 0, none⟩) (bl ++ b :: br) w3 /\ Upd (fun k => k ∈ bl ++ b :: br) w w3) := fun w1 w2 u1 t1 u2 t2 => by
   have tl2 : TAL n0 (hf m) l pl bl w2 := t1.upd u2 (fun k hk q => d2 k q hk)
   have tb2 : TB b x pl pr (bare (.node l x r)) w2 := (hb.upd u1 d1).upd u2 n4
   refine (clo_yes m h1 h2 c b x pl pr l r _ w2 tb2 tl2.ta t2.ta (hsz x (by simp [Tr.inord])).1 (hsz x (by simp [Tr.inord])).2 ((hk.upd u1 hk0.1).upd u2 hk0.2.1) (u2.cell (u1.cell hc hc0.1) hc0.2.1)).mono ?_
   rintro e w3 ⟨he, hT, hU⟩
   refine ⟨he, ⟨b, pl, pr, bl, br, rfl, rfl, hge, hT, tl2.upd hU (fun k hk q => d1 (q ▸ hk)), t2.upd hU (fun k hk q => n4 (q ▸ hk))⟩, ?_⟩
   exact ((u1.mono (fun k hk => by simp [hk])).trans (u2.mono (fun k hk => by simp [hk]))).trans (hU.mono (fun k hk => by simp [hk]))
  clear hb hl hr hk hc hnd n1 n2 n3 n4 n5 d1 d2 hc0 hk0 hsz ihl ihr
  go_enter func134, ntmps134
  go_wp2_with (first | (go_at_call 135; refine HU.mono ?_; rintro e w1 ⟨rfl, rfl⟩) | (go_at_call_of 136 (Value.int .i64 0); refine (H0 _).mono ?_; rintro e w1 ⟨rfl, rfl⟩) | (go_at_call_of 136 (Value.int .i64 1); refine (H1 _).mono ?_; rintro e w1 ⟨rfl, rfl⟩) | (go_at_call 204; refine HS.mono ?_; rintro e w0 ⟨rfl, hb0⟩) | (go_at_call_of 134 (Value.pointer pl); refine (HL.out _ hb0).mono ?_; rintro e w1 ⟨rfl, ht1, hu1⟩) | (go_at_call_of 134 (Value.pointer pr); refine (HR.out _ hu1).mono ?_; rintro e w2 ⟨rfl, ht2, hu2⟩) | (go_at_call_of 136 (Value.int .i64 2); refine (HY.out _ _ hu1 ht1 hu2 ht2).mono ?_; rintro e w3 ⟨rfl, ht3, hu3⟩))
  go_ret
  exact ⟨rfl, ht3, hu3⟩
def isW (n : Int) : Bool := decide (1 <= n) && decide (n <= 32)
theorem isW_out {n : Int} (h : isW n = true) : ∃ m : Nat, n = (m : Int) /\ 1 <= m /\ m <= 32 := by
 unfold isW at h
 rw [Bool.and_eq_true, decide_eq_true_eq, decide_eq_true_eq] at h
 exact ⟨n.toNat, by omega, by omega, by omega⟩
theorem isW_any (n : Int) (w : World) : Calls prog 54 #[.int .i64 n] w fun e w' => e = .returned (.bool (isW n)) /\ w' = w := by
 unfold isW
 by_cases h : 1 <= n
 · have z : decide (1 <= n) = true := decide_eq_true h
   rw [z, Bool.true_and]
   go_enter func54, ntmps54
   go_wp2_with fail
   go_ret
   exact ⟨rfl, rfl⟩
 · have z : decide (1 <= n) = false := decide_eq_false h
   rw [z, Bool.false_and]
   go_enter func54, ntmps54
   go_wp2_with fail
   go_ret
   exact ⟨rfl, rfl⟩
theorem isW_spec (n : Int) (w : World) : Calls prog 47 #[.int .i64 n] w fun e w' => e = .returned (.bool (isW n)) /\ w' = w := by
 unfold isW
 by_cases h : 1 <= n
 · have z : decide (1 <= n) = true := decide_eq_true h
   rw [z, Bool.true_and]
   go_enter func47, ntmps47
   go_wp2_with fail
   go_ret
   exact ⟨rfl, rfl⟩
 · have z : decide (1 <= n) = false := decide_eq_false h
   rw [z, Bool.false_and]
   go_enter func47, ntmps47
   go_wp2_with fail
   go_ret
   exact ⟨rfl, rfl⟩
theorem rank_said : RankSaid KTab := fun s w hs hk => rank_any s w hs hk
theorem addHashes_any (m : Nat) (h1 : 1 <= m) (h2 : m <= 32) (n0 : Nat) (t : Tr PairT) (p : Option Addr) (w : World) (ht : TA n0 bare t p w) (ha : Apart t.inord) (hsz : ∀ x ∈ t.inord, x.1.size <= 1048576 /\ x.2.size <= 1048576) (hk : KTab w) :
 Calls prog 99 #[.pointer p, .int .i64 (m : Int)] w fun e w' => e = .returned (.tuple #[]) /\ ∃ bs, TAL n0 bare t p bs w /\ TAL n0 (hf m) t p bs w' /\ Upd (fun k => k ∈ bs) w w' := by
 obtain ⟨bs, hb⟩ := ht.list
 have hbA : Below w.heap.size w (w.alloc (.cells #[.int .i64 (m : Int)] 3)) := (Below.refl _ _).alloc (Nat.le_refl _) _
 have hcA : (w.alloc (.cells #[.int .i64 (m : Int)] 3)).cell? ⟨w.heap.size, 0, none⟩ = some (.int .i64 (m : Int)) := ZC (heap_alloc_new w _) 0
 have HW := walk_hash m h1 h2 w.heap.size n0 t p bs _ (hb.upd (M := fun _ => False) (Upd.of_below hbA) (fun _ _ q => q)) (hb.nodup ha) hsz (hk.below hbA) hcA
 have hmf : ∀ (fn : Fn) (first cap : Array Value) (w : World), (Instr.makeFunc fn first cap).run prog w = .ok (.func fn first cap) w := fun _ _ _ _ => rfl
 have HB : Hid (TAL n0 bare t p bs w) := hb
 clear ht ha hsz hk hcA hb
 go_enter func99, ntmps99
 go_wp2_with (go_at_call 134; refine HW.mono ?_; rintro e w1 ⟨rfl, hT, hU⟩)
 go_end0
 exact ⟨rfl, bs, HB.out, hT, (Upd.of_below hbA).trans hU⟩
theorem hashedTree_any (m : Nat) (h1 : 1 <= m) (h2 : m <= 32) (a : Option Addr) (ps : List PairT) (c : Nat) (w : World) (h : PArg a ps w) (hm : isMapT ps = true) (hk : KTab w) :
 Calls prog 56 #[.slice a ps.length c, .int .i64 (m : Int)] w fun e w' => ∃ p, e = .returned (.pointer p) /\ TA w.heap.size (hf m) (cutTree ps) p w' /\ Below w.heap.size w w' := by
 have ha := isMapT_apart ps hm
 have hc := merged_cut ps ha
 have HT := treeOf_any rank_said (fun w1 w2 k hb => KTab.below k hb) a ps c w h hk
 rw [hc] at HT
 have hin := cutTree_inord ps
 have hsz : ∀ x ∈ (cutTree ps).inord, x.1.size <= 1048576 /\ x.2.size <= 1048576 := by
  intro x hx
  rw [hin] at hx
  obtain ⟨i, hi, rfl⟩ := List.getElem_of_mem hx
  have := h.sz i
  rw [getD_lt ps i hi] at this
  exact this
 have HH : Hid (∀ p w1, TA w.heap.size bare (cutTree ps) p w1 -> Below w.heap.size w w1 -> Calls prog 99 #[.pointer p, .int .i64 (m : Int)] w1 fun e w' => e = .returned (.tuple #[]) /\ TA w.heap.size (hf m) (cutTree ps) p w' /\ Below w.heap.size w w') := fun p w1 ht hb => by
  refine (addHashes_any m h1 h2 w.heap.size (cutTree ps) p w1 ht (by rw [hin]; exact ha) hsz (hk.below hb)).mono ?_
  rintro e w' ⟨he, bs, t1, t2, hu⟩
  exact ⟨he, t2.ta, hb.trans (hu.below hb.size (fun k hk => t1.ge k hk))⟩
 clear hsz hin hc ha hk h hm
 generalize cutTree ps = ct at HT HH ⊢
 generalize ps.length = n at HT ⊢
 go_enter func56, ntmps56
 go_wp2_with (first | (go_at_call 82; refine HT.mono ?_; rintro e w1 ⟨p, rfl, ht1, hb1⟩) | (go_at_call 99; refine (HH.out _ _ ht1 hb1).mono ?_; rintro e w2 ⟨rfl, ht2, hb2⟩))
 go_ret
 exact ⟨p, rfl, ht2, hb2⟩
def rootS (ps : List PairT) (n : Int) : ByteArray := if (isMapT ps && isW n) = true then rootT n.toNat (cutTree ps) else ⟨#[]⟩
theorem rootImpl_any (a : Option Addr) (ps : List PairT) (c : Nat) (n : Int) (w : World) (h : PArg a ps w) (hk : KTab w) :
 Calls prog 12 #[.slice a ps.length c, .int .i64 n] w fun e w' => e = .returned (.string (rootS ps n)) /\ Below w.heap.size w w' := by
 have HM := isMap_any a ps c w h
 have HI := fun w' => isW_any n w'
 obtain ⟨R, hR⟩ : ∃ R, rootS ps n = R := ⟨_, rfl⟩
 rw [hR]
 cases hm : isMapT ps with
 | false =>
  have HR : Hid (R = ⟨#[]⟩) := by show _ = _; rw [<- hR]; unfold rootS; rw [hm]; rfl
  rw [hm] at HM
  clear hR hm hk h
  generalize ps.length = n at HM ⊢
  go_enter func12, ntmps12
  go_wp2_with (first | (go_at_call 53; refine HM.mono ?_; rintro e w1 ⟨rfl, hb1⟩))
  go_ret
  exact ⟨by rw [HR.out]; rfl, hb1⟩
 | true =>
  cases hw : isW n with
  | false =>
   have HR : Hid (R = ⟨#[]⟩) := by show _ = _; rw [<- hR]; unfold rootS; rw [hm, hw]; rfl
   rw [hm] at HM
   rw [hw] at HI
   clear hR hm hk h hw
   generalize ps.length = n at HM ⊢
   go_enter func12, ntmps12
   go_wp2_with (first | (go_at_call 53; refine HM.mono ?_; rintro e w1 ⟨rfl, hb1⟩) | (go_at_call 54; refine (HI _).mono ?_; rintro e w2 ⟨rfl, rfl⟩))
   go_ret
   exact ⟨by rw [HR.out]; rfl, hb1⟩
  | true =>
   obtain ⟨m, rfl, q1, q2⟩ := isW_out hw
   have HR : Hid (R = rootT m (cutTree ps)) := by show _ = _; rw [<- hR]; unfold rootS; rw [hm, hw]; rfl
   rw [hw] at HI
   have HT : Hid (∀ w1, Below w.heap.size w w1 -> Calls prog 56 #[.slice a ps.length c, .int .i64 (m : Int)] w1 fun e w' => ∃ p, e = .returned (.pointer p) /\ TA 0 (hf m) (cutTree ps) p w' /\ Below w1.heap.size w1 w') := fun w1 hb => (hashedTree_any m q1 q2 a ps c w1 (h.below hb) hm (hk.below hb)).mono (by
    rintro e w' ⟨p, he, ht, hb'⟩
    exact ⟨p, he, ht.base, hb'⟩)
   rw [hm] at HM
   have HRo := fun p w' ht => root_any m (cutTree ps) p w' (n0 := 0) ht
   clear hR hm hk h hw
   generalize cutTree ps = ct at HT HRo HR
   generalize ps.length = n at HM HT ⊢
   generalize rootT m ct = G at HRo HR
   go_enter func12, ntmps12
   go_wp2_with (first | (go_at_call 53; refine HM.mono ?_; rintro e w1 ⟨rfl, hb1⟩) | (go_at_call 54; refine (HI _).mono ?_; rintro e w2 ⟨rfl, rfl⟩) | (go_at_call 56; refine (HT.out _ hb1).mono ?_; rintro e w3 ⟨p, rfl, ht3, hb3⟩) | (go_at_call 55; refine (HRo _ _ ht3).mono ?_; rintro e w4 ⟨rfl, rfl⟩))
   go_ret
   exact ⟨by rw [HR.out]; rfl, hb1.trans (hb3.mono hb1.size)⟩
theorem shash_any (k v l r : ByteArray) (n : Int) (w : World) (hk : k.size <= 1048576) (hv : v.size <= 1048576) (hl : l.size <= 1048576) (hr : r.size <= 1048576) :
 Calls prog 97 #[.agg #[.string k, .string v, .string l, .string r], .int .i64 n] w fun e w' => ∃ t, e = .returned (.string t) /\ Hid (t = hashS k v l r n) /\ Below w.heap.size w w' := by
 have hsz := encS_size k v l r n
 obtain ⟨q, hq⟩ : ∃ q, encS k v l r n = q := ⟨_, rfl⟩
 have HA : Hid (∀ w', Calls prog 98 #[.agg #[.string k, .string v, .string l, .string r], .int .i64 n] w' fun e w'' => e = .returned (.string q) /\ Below w'.heap.size w' w'') := fun w' => (enc_any k v l r n w' hk hv hl hr).mono (by rintro e w'' ⟨t, rfl, HX, hb⟩; exact ⟨by rw [HX.out, hq], hb⟩)
 have HR : Hid (hashS k v l r n = if q.size = 0 then ⟨#[]⟩ else ⟨((sha (78 :: q.data.toList)).take n.toNat).toArray⟩) := by show _ = _; unfold hashS; rw [hq]
 rw [hq] at hsz
 clear hq hk hv hl hr
 by_cases h0 : q.size = 0
 · have z : ((q.size : Int) == 0) = true := by rw [h0]; rfl
   go_enter func97, ntmps97
   go_wp2_with (first | (go_at_call 98; refine (HA.out _).mono ?_; rintro e w1 ⟨rfl, hb1⟩))
   go_ret
   refine ⟨_, rfl, ?_, ((Below.refl _ w).alloc (Nat.le_refl _) _).trans (hb1.mono (by simp))⟩
   show _ = _
   rw [HR.out, if_pos h0]
 · have z : ((q.size : Int) == 0) = false := by rw [beq_eq_false_iff_ne]; omega
   obtain ⟨m, rfl⟩ := Int.eq_ofNat_of_zero_le (show 0 <= n by have := hsz.2 h0; omega)
   have hm := hsz.2 h0
   have HD : Hid (∀ (t : ByteArray) w', t.size <= 10001 -> Calls prog 14 #[.string t, .int .i64 (m : Int)] w' fun e w'' => e = .returned (.string ⟨((sha t.data.toList).take m).toArray⟩) /\ Below w'.heap.size w' w'') := fun t w' ht => sdig_yes t m w' (by omega) (by omega) (by omega)
   go_enter func97, ntmps97
   go_wp2_with (first | (go_at_call 98; refine (HA.out _).mono ?_; rintro e w1 ⟨rfl, hb1⟩) | (go_at_call 50; refine (text_any q _ hsz.1).mono ?_; rintro e w2 ⟨t, rfl, ht, HT, rfl⟩) | (go_at_call 14; refine (HD.out t _ ht).mono ?_; rintro e w3 ⟨rfl, hb3⟩))
   go_ret
   have hw1 : Below w.heap.size w w1 := ((Below.refl _ w).alloc (Nat.le_refl _) _).trans (hb1.mono (by simp))
   refine ⟨_, rfl, ?_, hw1.trans (hb3.mono hw1.size)⟩
   show _ = _
   rw [HR.out, if_neg h0, HT.out, Int.toNat_natCast]
end Go.Proofs.YtfmpjlpakldheaaGreatDoor
