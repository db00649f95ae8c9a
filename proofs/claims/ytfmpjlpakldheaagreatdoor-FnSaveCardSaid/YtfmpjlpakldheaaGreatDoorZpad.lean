import Derived.Test.YtfmpjlpakldheaaGreatDoorZpac
import Derived.Lib.BufferWrite
set_option maxRecDepth 100000
set_option maxHeartbeats 2000000
namespace Go.Proofs.YtfmpjlpakldheaaGreatDoor
open Go.RowKit Go.Proofs.Sha Tryz
theorem Row.setHead {w : World} {base g n cap : Nat} {xs : List Value} (h : Row w base g n cap xs) (ys : List Value) (ho : ys.length <= n) : Row (w.setCells g 0 ys) base g n cap (ys ++ xs.drop ys.length) := by
 have hin : ∀ j (hj : j < ys.length), (w.setCells g 0 ys).cell? ⟨g, 0 + j, none⟩ = some ys[j] := World.cell?_setCells_in g ys 0 w (fun j hj => h.room (0 + j) (by have := h.le; omega))
 have hout : ∀ j, j < 0 \/ 0 + ys.length <= j -> (w.setCells g 0 ys).cell? ⟨g, j, none⟩ = w.cell? ⟨g, j, none⟩ := fun j hj => World.cell?_setCells_out g ys 0 w ⟨g, j, none⟩ (fun _ _ => hj)
 have hgr := grownBy_setCells g ys 0 w
 have hl := h.len
 refine ⟨h.ge, Nat.lt_of_lt_of_le h.lt hgr.size, by rw [List.length_append, List.length_drop]; omega, h.le, ?_, ?_, ?_⟩
 · intro j hj
   rcases Nat.lt_or_ge j ys.length with h1 | h1
   · have := hin j h1
     rw [Nat.zero_add] at this
     rw [this, List.getElem?_append_left h1, List.getElem?_eq_getElem h1]
   · rw [hout j (.inr (by omega)), h.cell j hj, List.getElem?_append_right h1, List.getElem?_drop, show ys.length + (j - ys.length) = j by omega]
 · intro j hj
   rcases Nat.lt_or_ge j ys.length with h1 | h1
   · have := hin j h1
     rw [Nat.zero_add] at this
     rw [this]; rfl
   · rw [hout j (.inr (by omega))]; exact h.room j hj
 · intro j hj
   rw [World.frozen?_setCells]; exact h.free j hj
theorem info5m : (prog.info? 5).map (·.size) = some 1 := by kernel_rfl
theorem run_copy_text {w : World} {base g n cap : Nat} {xs : List Value} (h : Row w base g n cap xs) (s : ByteArray) (hs : s.size <= n) :
 (Builtin.copy_ #[22, 9] 3 #[.slice (some ⟨g, 0, none⟩) n n, .string s]).run prog w = .ok (goInt s.size) (w.setCells g 0 (s.data.toList.map B)) := by
 have hlen : (s.data.toList.map B).length = s.size := by rw [List.length_map]; rfl
 have hst := run_storeCells_cells (P := prog) g 0 (s.data.toList.map B) 0 w (fun j hj => by have := h.room j (by have := h.le; omega); simpa using this) (fun j hj => by have := h.free j (by have := h.le; omega); simpa using this) (fun v hv => by obtain ⟨x, _, rfl⟩ := List.mem_map.1 hv; rfl)
 simp only [Nat.add_zero] at hst
 have hmin : Nat.min s.size n = s.size := Nat.min_eq_left hs
 have htk : List.take s.size (List.map (fun b : UInt8 => Value.int IntKind.u8 (b.toNat : Int)) s.data.toList) = s.data.toList.map B := by
  rw [List.take_of_length_le (by rw [List.length_map]; exact Nat.le_refl _)]; rfl
 obtain ⟨i, hi, hsz⟩ : ∃ i, prog.info? 5 = some i /\ i.size = 1 := by
  have := info5m
  cases hh : prog.info? 5 with
  | none => rw [hh] at this; cases this
  | some i => rw [hh] at this; exact ⟨i, rfl, Option.some.inj this⟩
 simp [Builtin.copy_, run_underlying Tryz.underlying22, sizeOf, typeInfo, hi, Builtin.lenOf, hmin, Builtin.firstCells, htk, hst]
theorem find_any (wd : Nat) (r : Nat) (F : List UInt8 -> Option Int) (hash : ByteArray) (w : World) (h : MapF F r w) (h1 : wd <= 32) (h2 : hash.size = wd) :
 Calls prog 185 #[.agg #[.int .i64 (wd : Int), .map (some r)], .string hash] w fun e w' => e = .returned (.tuple #[.int .i64 ((F (cutW wd hash.data.toList)).getD 0), .bool (F (cutW wd hash.data.toList)).isSome]) /\ Below w.heap.size w w' := by
 have z1 : ((hash.size : Int) != (wd : Int)) = false := by rw [h2]; simp
 have hsz : hash.size <= 32 := by omega
 have hhl : hash.data.toList.length = hash.size := rfl
 have hcut : hash.data.toList.map B ++ (zeros32b.map B).drop (hash.data.toList.map B).length = (cutW wd hash.data.toList).map B := by
  unfold cutW zeros32b
  rw [List.map_append, List.take_of_length_le (by omega), List.length_map, hhl, h2, List.map_replicate, List.map_replicate, List.drop_replicate]
 have hX : (cutW wd hash.data.toList).length = 32 := by unfold cutW; rw [List.length_append, List.length_take, List.length_replicate]; omega
 obtain ⟨X, hXX⟩ : ∃ X, cutW wd hash.data.toList = X := ⟨_, rfl⟩
 rw [hXX] at hcut hX ⊢
 clear h2 hXX
 have hrl : r < w.heap.size := by
  obtain ⟨es, cl, hg, _, _⟩ := h.is
  exact (Array.getElem?_eq_some_iff.1 hg).1
 go_enter func185, ntmps185
 obtain ⟨ga, hga⟩ : ∃ ga, w.heap.size = ga := ⟨_, rfl⟩
 go_wp2_with (first | (refine wpList_alloc_row _ rfl (some 6) rfl 116 116 rfl (zeros32b.map B) alloc43 ?_; intro g2 w2 hr2 hb2))
 have hr2' : Row w2 (ga + 1) g2 32 32 (zeros32b.map B) := by
  have := hr2
  rw [World.size_alloc, hga] at this
  exact this
 have hcp := run_copy_text hr2' hash hsz
 have hR3 := Row.setHead hr2' (hash.data.toList.map B) (by rw [List.length_map]; omega)
 rw [hcut] at hR3
 have hg3 := grownBy_setCells g2 (hash.data.toList.map B) 0 w2
 obtain ⟨w3, hw3⟩ : ∃ w3, w2.setCells g2 0 (hash.data.toList.map B) = w3 := ⟨_, rfl⟩
 rw [hw3] at hcp hR3 hg3
 clear hw3
 have hge := hr2'.ge
 have hb2' : Below (ga + 1) (w.alloc (.cells #[.int .i64 (wd : Int), .map (some r)] 176)) w2 := by
  have := hb2
  rw [World.size_alloc, hga] at this
  exact this
 have hn2 : w2.heap[ga]? = some (.cells #[.int .i64 (wd : Int), .map (some r)] 176) := (hb2'.block ga (by omega)).trans (by rw [<- hga]; exact heap_alloc_new w _)
 have hne : ga ≠ g2 := by omega
 have hn3 : w3.heap[ga]? = some (.cells #[.int .i64 (wd : Int), .map (some r)] 176) := (hg3.block ga (Array.getElem?_eq_some_iff.1 hn2).1 (fun e => hne (Option.some.inj e))).trans hn2
 have hB2 : Below w.heap.size w w2 := ((Below.refl _ w).alloc (Nat.le_refl _) _).trans (hb2'.mono (by omega))
 have hM3 : MapF F r w3 := (h.below hB2).kept hg3 (by omega)
 have hB3 : Below w.heap.size w w3 := hB2.trans (below_of_grown hg3 (by omega) hB2.size)
 have hlk := run_look key43 Tryz.underlying174 zeroV3 hM3 X hX
 unfold K32 at hlk
 have d0 := ZC hn3 0
 have d1 := ZC hn3 1
 clear hb2 hb2' hr2 hr2' hB2 hn2 hM3 h
 obtain ⟨fx, hfx⟩ : ∃ fx, F X = fx := ⟨_, rfl⟩
 rw [hfx] at hlk
 have HF : Hid (F X = fx) := hfx
 clear hfx
 rw [hcp]
 clear hcp
 go_wp2_with (first | (refine wpList_load_whole _ rfl 116 (.tmp 6) rfl (ga + 1) g2 32 32 (X.map B) 5 rfl hR3 Tryz.underlying116 size43 ?_))
 go_ret2
 rw [HF.out]
 exact ⟨rfl, hB3⟩
structure SArg (a : Option Addr) (ss : List ByteArray) (w : World) : Prop where
 le : ss.length <= 1048576
 sz : ∀ j, (ss.getD j ⟨#[]⟩).size <= 1048576
 at_ : 0 < ss.length -> ∃ b off : Nat, a = some ⟨b, off, none⟩ /\ b < w.heap.size /\ ∀ j, j < ss.length -> w.cell? ⟨b, off + j, none⟩ = some (.string (ss.getD j ⟨#[]⟩))
theorem SArg.below {a : Option Addr} {ss : List ByteArray} {w w' : World} (h : SArg a ss w) (hb : Below w.heap.size w w') : SArg a ss w' := by
 refine ⟨h.le, h.sz, fun hn => ?_⟩
 obtain ⟨b, off, ha, hlt, hc⟩ := h.at_ hn
 exact ⟨b, off, ha, Nat.lt_of_lt_of_le hlt hb.size, fun j hj => (hb.cell hlt).trans (hc j hj)⟩
def keyW (wd : Nat) (s : ByteArray) : List UInt8 := cutW wd (sha (78 :: s.data.toList))
def placesF (wd : Nat) (ss : List ByteArray) : Nat -> List UInt8 -> Option Int
 | 0 => fun _ => none
 | k + 1 => addF (placesF wd ss k) (keyW wd (ss.getD k ⟨#[]⟩)) (k : Int)
def firstI (p : Nat -> Bool) : Nat -> Option Nat
 | 0 => none
 | k + 1 => match firstI p k with
  | some i => some i
  | none => if p k then some k else none
theorem firstI_lt {p : Nat -> Bool} {k i : Nat} (h : firstI p k = some i) : i < k := by
 induction k with
 | zero => cases h
 | succ k ih =>
  rw [firstI] at h
  cases hk : firstI p k with
  | some j => rw [hk] at h; simp only [Option.some.injEq] at h; subst h; have := ih hk; omega
  | none =>
   rw [hk] at h
   simp only at h
   split at h
   · simp only [Option.some.injEq] at h; omega
   · cases h
theorem placesF_first (wd : Nat) (ss : List ByteArray) (X : List UInt8) (k : Nat) : placesF wd ss k X = (firstI (fun i => decide (keyW wd (ss.getD i ⟨#[]⟩) = X)) k).map fun i => (i : Int) := by
 induction k with
 | zero => rfl
 | succ k ih =>
  rw [placesF, addF, firstI]
  obtain ⟨Y, hY⟩ : ∃ Y, keyW wd (ss.getD k ⟨#[]⟩) = Y := ⟨_, rfl⟩
  rw [hY]
  by_cases hn : placesF wd ss k Y = none
  · rw [if_pos hn]
    by_cases hXY : X = Y
    · subst hXY
      rw [if_pos rfl]
      rw [ih] at hn
      cases hf : firstI (fun i => decide (keyW wd (ss.getD i ⟨#[]⟩) = X)) k with
      | some j => rw [hf] at hn; cases hn
      | none => simp
    · rw [if_neg hXY, ih]
      cases hf : firstI (fun i => decide (keyW wd (ss.getD i ⟨#[]⟩) = X)) k with
      | some j => rfl
      | none => simp [Ne.symm hXY]
  · rw [if_neg hn, ih]
    cases hf : firstI (fun i => decide (keyW wd (ss.getD i ⟨#[]⟩) = X)) k with
    | some j => rfl
    | none =>
     simp only
     by_cases hXY : Y = X
     · subst hXY
       rw [ih, hf] at hn
       exact absurd rfl hn
     · simp [hXY]
def poolOk (n : Int) (m : Nat) : Bool := decide (1 <= n /\ n <= 32 /\ m <= 20000)
theorem validPool_any (n : Int) (a : Option Addr) (m c : Nat) (w : World) (_hm : m <= 1048576) :
 Calls prog 68 #[.agg #[.int .i64 n, .slice a m c]] w fun e w' => e = .returned (.bool (poolOk n m)) /\ Below w.heap.size w w' := by
 have hfin : Below w.heap.size w (w.alloc (.cells #[.int .i64 n, .slice a m c] 37)) := (Below.refl _ _).alloc (Nat.le_refl _) _
 by_cases c1 : 1 <= n
 · by_cases c2 : n <= 32
   · have hr : poolOk n m = decide ((m : Int) <= 20000) := by
      unfold poolOk
      by_cases c3 : m <= 20000
      · rw [decide_eq_true (by omega), decide_eq_true (by omega)]
      · rw [decide_eq_false (by omega), decide_eq_false (by omega)]
     rw [hr]
     clear hr
     go_enter func68, ntmps68
     go_wp2_with (first | go_in)
     go_ret
     exact ⟨rfl, hfin⟩
   · have hr : poolOk n m = false := by unfold poolOk; rw [decide_eq_false (by omega)]
     rw [hr]
     clear hr
     go_enter func68, ntmps68
     go_wp2_with (first | go_in)
     go_ret
     exact ⟨rfl, hfin⟩
 · have hr : poolOk n m = false := by unfold poolOk; rw [decide_eq_false (by omega)]
   rw [hr]
   clear hr
   go_enter func68, ntmps68
   go_wp2_with (first | go_in)
   go_ret
   exact ⟨rfl, hfin⟩
theorem poolOk_any (n : Int) (a : Option Addr) (m c : Nat) (w : World) (_hm : m <= 1048576) :
 Calls prog 73 #[.agg #[.int .i64 n, .slice a m c]] w fun e w' => e = .returned (.bool (poolOk n m)) /\ Below w.heap.size w w' := by
 have hfin : Below w.heap.size w (w.alloc (.cells #[.int .i64 n, .slice a m c] 37)) := (Below.refl _ _).alloc (Nat.le_refl _) _
 by_cases c1 : 1 <= n
 · by_cases c2 : n <= 32
   · have hr : poolOk n m = decide ((m : Int) <= 20000) := by
      unfold poolOk
      by_cases c3 : m <= 20000
      · rw [decide_eq_true (by omega), decide_eq_true (by omega)]
      · rw [decide_eq_false (by omega), decide_eq_false (by omega)]
     rw [hr]
     clear hr
     go_enter func73, ntmps73
     go_wp2_with (first | go_in)
     go_ret
     exact ⟨rfl, hfin⟩
   · have hr : poolOk n m = false := by unfold poolOk; rw [decide_eq_false (by omega)]
     rw [hr]
     clear hr
     go_enter func73, ntmps73
     go_wp2_with (first | go_in)
     go_ret
     exact ⟨rfl, hfin⟩
 · have hr : poolOk n m = false := by unfold poolOk; rw [decide_eq_false (by omega)]
   rw [hr]
   clear hr
   go_enter func73, ntmps73
   go_wp2_with (first | go_in)
   go_ret
   exact ⟨rfl, hfin⟩
structure Dec where
 k : ByteArray -> ByteArray
 v : ByteArray -> ByteArray
 l : ByteArray -> ByteArray
 r : ByteArray -> ByteArray
 ok : ByteArray -> Bool
def DecSaid (f : FuncId) (wd : Nat) (D : Dec) : Prop := ∀ (s : ByteArray) (w : World), s.size <= 1048576 -> Calls prog f #[.string s, .int .i64 (wd : Int)] w fun e w' => e = .returned (.tuple #[.agg #[.string (D.k s), .string (D.v s), .string (D.l s), .string (D.r s)], .bool (D.ok s)]) /\ Below w.heap.size w w'
def foundR (D : Dec) (ss : List ByteArray) : Option Nat -> (ByteArray × ByteArray × ByteArray × ByteArray) × Int
 | none => ((⟨#[]⟩, ⟨#[]⟩, ⟨#[]⟩, ⟨#[]⟩), 2)
 | some i => if D.ok (ss.getD i ⟨#[]⟩) then ((D.k (ss.getD i ⟨#[]⟩), D.v (ss.getD i ⟨#[]⟩), D.l (ss.getD i ⟨#[]⟩), D.r (ss.getD i ⟨#[]⟩)), 0) else ((⟨#[]⟩, ⟨#[]⟩, ⟨#[]⟩, ⟨#[]⟩), 3)
def nodeT (x : (ByteArray × ByteArray × ByteArray × ByteArray) × Int) : Value := .tuple #[.agg #[.string x.1.1, .string x.1.2.1, .string x.1.2.2.1, .string x.1.2.2.2], .int .i64 x.2]
def hitB (wd : Nat) (ss : List ByteArray) (hash : ByteArray) (i : Nat) : Bool := decide ((sha (78 :: (ss.getD i ⟨#[]⟩).data.toList)).take wd = hash.data.toList)
theorem key_hit (wd : Nat) (ss : List ByteArray) (hash : ByteArray) (_h1 : wd <= 32) (h2 : hash.size = wd) (i : Nat) : decide (keyW wd (ss.getD i ⟨#[]⟩) = cutW wd hash.data.toList) = hitB wd ss hash i := by
 unfold keyW cutW hitB
 have hl : hash.data.toList.length = wd := h2
 rw [List.take_of_length_le (l := hash.data.toList) (by omega)]
 congr 1
 rw [List.append_cancel_right_eq]
def NBk (g : Nat) (k v l r : ByteArray) (w : World) : Prop := w.heap[g]? = some (.cells #[.string k, .string v, .string l, .string r] 128)
theorem NBk.below {g : Nat} {k v l r : ByteArray} {w w' : World} (h : NBk g k v l r w) (hb : Below w.heap.size w w') : NBk g k v l r w' := (hb.block g (Array.getElem?_eq_some_iff.1 h).1).trans h
theorem NBk.all {g : Nat} {k v l r : ByteArray} {w : World} (h : NBk g k v l r w) (x y z u : ByteArray) : NBk g x y z u ((((w.setCell ⟨g, 0, none⟩ (.string x)).setCell ⟨g, 1, none⟩ (.string y)).setCell ⟨g, 2, none⟩ (.string z)).setCell ⟨g, 3, none⟩ (.string u)) :=
 heap_setCell_same _ g 3 _ 128 _ (heap_setCell_same _ g 2 _ 128 _ (heap_setCell_same _ g 1 _ 128 _ (heap_setCell_same _ g 0 _ 128 _ h)))
theorem NBk.fr {g j : Nat} {k v l r : ByteArray} {w : World} (h : NBk g k v l r w) : w.frozen? ⟨g, j, none⟩ = false := by rw [World.frozen?, show w.heap[g]? = _ from h]; rfl
structure NBc (g : Nat) (k v l r : ByteArray) (w : World) : Prop where
 c0 : w.cell? ⟨g, 0, none⟩ = some (.string k)
 c1 : w.cell? ⟨g, 1, none⟩ = some (.string v)
 c2 : w.cell? ⟨g, 2, none⟩ = some (.string l)
 c3 : w.cell? ⟨g, 3, none⟩ = some (.string r)
 f0 : w.frozen? ⟨g, 0, none⟩ = false
 f1 : w.frozen? ⟨g, 1, none⟩ = false
 f2 : w.frozen? ⟨g, 2, none⟩ = false
 f3 : w.frozen? ⟨g, 3, none⟩ = false
theorem NBk.at {g : Nat} {k v l r : ByteArray} {w : World} (h : NBk g k v l r w) : NBc g k v l r w :=
 ⟨ZC h 0, ZC h 1, ZC h 2, ZC h 3, h.fr, h.fr, h.fr, h.fr⟩
theorem retN {fn : Func} {R : Ending -> World -> Prop} {A : Act} {p q : Tmp} {gb : Nat} {k v l r : ByteArray} {c : Int} {W : World} (hres : fn.results = #[.cell p 128, .tmp q]) (hp : A.tmps.getD p undef = .pointer (some ⟨gb, 0, none⟩)) (hq : A.tmps.getD q undef = .int .i64 c) (hd : A.defers = []) (n : NBk gb k v l r W)
 (h : R (.returned (nodeT ((k, v, l, r), c))) W) : bodyPost prog fn R Exit.ret A W := by
 obtain ⟨c0, c1, c2, c3, _, _, _, _⟩ := n.at
 have hp' : A.tmps[p]?.getD undef = .pointer (some ⟨gb, 0, none⟩) := by simpa using hp
 have hq' : A.tmps[q]?.getD undef = .int .i64 c := by simpa using hq
 refine bodyPost_ret (v := nodeT ((k, v, l, r), c)) ?_ hd h
 unfold nodeT
 simp [results, hres, go_sem, asAddr, hp', hq', c0, c1, c2, c3]
structure P2 (w : World) (ga gb : Nat) (n : Int) (a : Option Addr) (m c : Nat) (W : World) : Prop where
 sz : w.heap.size = ga
 nx : gb = ga + 1
 bl : Below ga w W
 na : W.heap[ga]? = some (.cells #[.int .i64 n, .slice a m c] 37)
 nb : NBk gb ⟨#[]⟩ ⟨#[]⟩ ⟨#[]⟩ ⟨#[]⟩ W
section
variable {w : World} {ga gb : Nat} {n : Int} {a : Option Addr} {m c : Nat} {W W' : World}
theorem P2.mk0 (w : World) (n : Int) (a : Option Addr) (m c : Nat) : P2 w w.heap.size (w.heap.size + 1) n a m c ((w.alloc (.cells #[.int .i64 n, .slice a m c] 37)).alloc (.cells #[.string ⟨#[]⟩, .string ⟨#[]⟩, .string ⟨#[]⟩, .string ⟨#[]⟩] 128)) := by
 refine ⟨rfl, rfl, ((Below.refl _ w).alloc (Nat.le_refl _) _).alloc (by simp) _, ?_, ?_⟩
 · exact (((Below.refl _ (w.alloc (.cells #[.int .i64 n, .slice a m c] 37))).alloc (Nat.le_refl _) _).block _ (by simp)).trans (heap_alloc_new w _)
 · have := heap_alloc_new (w.alloc (.cells #[.int .i64 n, .slice a m c] 37)) (.cells #[.string ⟨#[]⟩, .string ⟨#[]⟩, .string ⟨#[]⟩, .string ⟨#[]⟩] 128)
   rw [World.size_alloc] at this
   exact this
theorem P2.below (h : P2 w ga gb n a m c W) (hb : Below W.heap.size W W') : P2 w ga gb n a m c W' :=
 ⟨h.sz, h.nx, h.bl.trans (hb.mono (by have := h.bl.size; have := h.sz; omega)), (hb.block ga (Array.getElem?_eq_some_iff.1 h.na).1).trans h.na, h.nb.below hb⟩
theorem P2.fin (h : P2 w ga gb n a m c W) (x y z u : ByteArray) : Below w.heap.size w ((((W.setCell ⟨gb, 0, none⟩ (.string x)).setCell ⟨gb, 1, none⟩ (.string y)).setCell ⟨gb, 2, none⟩ (.string z)).setCell ⟨gb, 3, none⟩ (.string u)) := by
 have hge : ga <= gb := by have := h.nx; omega
 rw [h.sz]
 exact (((h.bl.setCell hge _).setCell hge _).setCell hge _).setCell hge _
theorem P2.set4 (h : P2 w ga gb n a m c W) {g : Nat} (hg : gb < g) (x y z u : Value) : P2 w ga gb n a m c ((((W.setCell ⟨g, 0, none⟩ x).setCell ⟨g, 1, none⟩ y).setCell ⟨g, 2, none⟩ z).setCell ⟨g, 3, none⟩ u) := by
 have hge : gb + 1 <= g := hg
 have hb : Below (gb + 1) W ((((W.setCell ⟨g, 0, none⟩ x).setCell ⟨g, 1, none⟩ y).setCell ⟨g, 2, none⟩ z).setCell ⟨g, 3, none⟩ u) := ((((Below.refl _ W).setCell hge _).setCell hge _).setCell hge _).setCell hge _
 have hx := h.nx
 exact ⟨h.sz, h.nx, h.bl.trans (hb.mono (by omega)), (hb.block ga (by omega)).trans h.na, (hb.block gb (by omega)).trans h.nb⟩
theorem P2.bw (h : P2 w ga gb n a m c W) : Below w.heap.size w W := by rw [h.sz]; exact h.bl
end
def DigSaid : Prop := ∀ (t : ByteArray) (k : Nat) (w : World), t.size <= 1048576 -> 1 <= k -> k <= 32 -> Calls prog 14 #[.string t, .int .i64 (k : Int)] w fun e w' => e = .returned (.string ⟨((sha t.data.toList).take k).toArray⟩) /\ Below w.heap.size w w'
def hashT (wd : Nat) (s : ByteArray) : ByteArray := ⟨((sha (78 :: s.data.toList)).take wd).toArray⟩
theorem info9 : (prog.info? 9).map (fun i => (i.zero, i.size, i.bytes)) = some (some (.string ⟨#[]⟩), 1, 16) := by kernel_rfl
theorem ltext_any (e : ByteArray) (w : World) (he : e.size <= 1048575) :
 Calls prog 50 #[.string e] w fun x w' => ∃ t : ByteArray, x = .returned (.string t) /\ t.size <= 1048576 /\ Hid (t.data.toList = 78 :: e.data.toList) /\ w = w' := by
 have z : ¬ (9223372036854775807 < (⟨#[78]⟩ : ByteArray).size + e.size) := by show ¬ _ < 1 + e.size; omega
 have z' : ¬ (9223372036854775807 < 1 + e.size) := by omega
 go_enter func50, ntmps50
 go_wp2
 go_ret
 refine ⟨_, rfl, ?_, ?_, rfl⟩
 · rw [ByteArray.size_append]; show 1 + e.size <= _; omega
 · show (_ : List UInt8) = _
   rw [ByteArray.data_append]
   simp
structure P1 (w : World) (ga : Nat) (n : Int) (a : Option Addr) (m c : Nat) (W : World) : Prop where
 sz : w.heap.size = ga
 bl : Below ga w W
 na : W.heap[ga]? = some (.cells #[.int .i64 n, .slice a m c] 37)
section
variable {w : World} {ga : Nat} {n : Int} {a : Option Addr} {m c : Nat} {W W' : World}
theorem P1.mk0 (w : World) (n : Int) (a : Option Addr) (m c : Nat) : P1 w w.heap.size n a m c (w.alloc (.cells #[.int .i64 n, .slice a m c] 37)) :=
 ⟨rfl, (Below.refl _ w).alloc (Nat.le_refl _) _, heap_alloc_new w _⟩
theorem P1.belowAt (h : P1 w ga n a m c W) {k : Nat} (hk : ga < k) (hb : Below k W W') : P1 w ga n a m c W' :=
 ⟨h.sz, h.bl.trans (hb.mono (by omega)), (hb.block ga hk).trans h.na⟩
theorem P1.lt (h : P1 w ga n a m c W) : ga < W.heap.size := (Array.getElem?_eq_some_iff.1 h.na).1
theorem P1.below (h : P1 w ga n a m c W) (hb : Below W.heap.size W W') : P1 w ga n a m c W' := h.belowAt h.lt hb
theorem P1.grown (h : P1 w ga n a m c W) {g : Nat} (hg : W.grownBy W' (some g)) (hl : ga < g) : P1 w ga n a m c W' := h.belowAt (Nat.lt_succ_self ga) (below_of_grown hg hl h.lt)
theorem P1.bw (h : P1 w ga n a m c W) : Below w.heap.size w W := by rw [h.sz]; exact h.bl
end
theorem hashes_any (HD : Hid DigSaid) (wd : Nat) (a : Option Addr) (ss : List ByteArray) (c : Nat) (w : World) (h : SArg a ss w) (hq : Hid (∀ j, (ss.getD j ⟨#[]⟩).size <= 1048575)) (h1 : 1 <= wd) (h2 : wd <= 32) :
 Calls prog 76 #[.agg #[.int .i64 (wd : Int), .slice a ss.length c]] w fun e w' => ∃ g c', e = .returned (.slice (some ⟨g, 0, none⟩) ss.length c') /\ Row w' (w.heap.size + 1) g ss.length c' ((ss.map (hashT wd)).map Value.string) /\ Below w.heap.size w w' := by
 have hn := h.le
 obtain ⟨i0, hi0, hz0, hz1, hz2⟩ := info_parts info9
 obtain ⟨N, hN⟩ : ∃ N, ss.length = N := ⟨_, rfl⟩
 rw [hN] at hn
 rw [hN]
 have hrow0 : Row ((w.alloc (.cells #[.int .i64 (wd : Int), .slice a N c] 37)).alloc (.cells #[] 9)) (w.heap.size + 1) (w.heap.size + 1) 0 0 [] := by
  have := Row.of_block (base := w.heap.size + 1) (g := w.heap.size + 1) (Nat.le_refl _) (by have := heap_alloc_new (w.alloc (.cells #[.int .i64 (wd : Int), .slice a N c] 37)) (.cells #[] 9); rw [World.size_alloc] at this; exact this) 0 (Nat.zero_le _) (.inl rfl)
  simpa using this
 have hS0 := (P1.mk0 w (wd : Int) a N c).below ((Below.refl _ _).alloc (Nat.le_refl _) (.cells #[] 9))
 go_enter func76, ntmps76
 go_wp2_with fail
 obtain ⟨ga, hga⟩ : ∃ ga, w.heap.size = ga := ⟨_, rfl⟩
 generalize (w.alloc (.cells #[.int .i64 (wd : Int), .slice a N c] 37)).alloc (.cells #[] 9) = W0 at hrow0 hS0 ⊢
 rw [hga] at hrow0 hS0 ⊢
 go_loopw [3, 4] (fun t3 t4 wr => ∃ k g c' : Nat, k <= N /\ t4 = .int .i64 (k : Int) /\ t3 = .slice (some ⟨g, 0, none⟩) k c' /\ Row wr (ga + 1) g k c' (((ss.take k).map (hashT wd)).map Value.string) /\ P1 w ga (wd : Int) a N c wr) (fun _ t4 _ => N - (intOf t4).toNat)
 case atStart => exact ⟨0, ga + 1, 0, Nat.zero_le _, rfl, rfl, hrow0, hS0⟩
 case round =>
  clear hrow0 hS0
  obtain ⟨k, g, c', hk, rfl, rfl, hrow, hS⟩ := hrel
  have d0 := ZC hS.na 0
  have d1 := ZC hS.na 1
  by_cases hlt : k < N
  · have z1 : decide ((k : Int) < (N : Int)) = true := by simp; omega
    obtain ⟨b, off, rfl, hbl, hcs⟩ := h.at_ (by omega)
    obtain ⟨s, hs⟩ : ∃ s, ss.getD k ⟨#[]⟩ = s := ⟨_, rfl⟩
    have hsz : s.size <= 1048575 := by rw [<- hs]; exact hq.out k
    have hc0 := hcs k (by omega)
    rw [hs] at hc0
    have hC : Hid (∀ W, P1 w ga (wd : Int) (some ⟨b, off, none⟩) N c W -> W.cell? ⟨ga, 1, none⟩ = some (.slice (some ⟨b, off, none⟩) N c) /\ W.cell? ⟨b, off + k, none⟩ = some (.string s) /\ W.cell? ⟨ga, 0, none⟩ = some (.int .i64 (wd : Int))) := fun W hW => ⟨ZC hW.na 1, (hW.bw.cell hbl).trans hc0, ZC hW.na 0⟩
    have hcx := (hS.bw.cell hbl).trans hc0
    obtain ⟨X, hX⟩ : ∃ X, hashT wd s = X := ⟨_, rfl⟩
    have HX : Hid (∀ (t : ByteArray) w', t.size <= 1048576 -> Hid (t.data.toList = 78 :: s.data.toList) -> Calls prog 14 #[.string t, .int .i64 (wd : Int)] w' fun e w'' => e = .returned (.string X) /\ Below w'.heap.size w' w'') := fun t w' ht HT => by
     have := HD.out t wd w' ht h1 h2
     rw [HT.out] at this
     rw [<- hX]
     exact this
    have hstep : Hid (((ss.take (k + 1)).map (hashT wd)).map Value.string = ((ss.take k).map (hashT wd)).map Value.string ++ [.string X]) := by
     have hkl : k < ss.length := by omega
     have hge : ss[k] = s := by rw [<- hs, List.getD_eq_getElem?_getD, List.getElem?_eq_getElem hkl]; rfl
     show _ = _
     rw [List.take_succ_eq_append_getElem hkl, List.map_append, List.map_append, hge, <- hX]
     rfl
    have hgl := hrow.ge
    have hsl := hS.lt
    have hx0 : (0 : Int) <= (k : Int) := Int.natCast_nonneg _
    have hx1 : (k : Int) < (N : Int) := by omega
    clear hcs hs hc0 hX
    generalize ((ss.take k).map (hashT wd)).map Value.string = L at hrow hstep
    go_wp2_with fail
    go_region_held3 (fun w' => w'.cell? ⟨ga, 1, none⟩ = some (.slice (some ⟨b, off, none⟩) N c) /\ w'.cell? ⟨b, off + k, none⟩ = some (.string s) /\ w'.cell? ⟨ga, 0, none⟩ = some (.int .i64 (wd : Int))) (first | exact ⟨d1, hcx, d0⟩ | exact hC.out _ hS4 | exact hC.out _ hS3 | exact hC.out _ hS2) (first | (go_at_call 50; refine (ltext_any s _ hsz).mono ?_; rintro e w1 ⟨t, rfl, ht, HT, rfl⟩) | (go_at_call 14; refine (HX.out t _ ht HT).mono ?_; rintro e w2 ⟨rfl, hb2⟩; have hbx : Below wr.heap.size wr w2 := (Below.refl wr.heap.size wr).drew.trans hb2; have hS2 := hS.below hbx; have hrow2 := hrow.below hbx; have hS3 := hS2.below ((Below.refl _ w2).alloc (Nat.le_refl _) (.cells #[.string X] 9)); have hsz2 := hbx.size; clear hb2) | (refine step_append_row _ (by rfl) (.tmp 13) (.tmp 23) 35 (by rfl) 9 i0 (.string ⟨#[]⟩) 16 Tryz.underlying35 hi0 hz0 hz1 hz2 (by rfl) (ga + 1) g k c' _ (by rfl) (hrow2.alloc _) ⟨w2.heap.size, 0, none⟩ 1 1 [.string X] (by rfl) rfl (World.news_of_block (heap_alloc_new w2 _)) (by simp [Value.oneCell']) (by unfold maxLen; omega) (by omega) (by simp; omega) (w2.heap.size + 1) (by simp) ?_; intro g4 c4 w4 hrow4 hgrow4 hg4 hkeep4; have hS4 := hS3.grown hgrow4 hgl))
    go_wp2_with fail
    go_roundw
    case rel => exact ⟨k + 1, g4, c4, hlt, by go_num, rfl, by rw [hstep.out]; exact hrow4, hS4⟩
    case measure => simp [intOf]; omega
  · obtain rfl : k = N := by omega
    have z1 : decide ((k : Int) < (k : Int)) = false := by simp
    have htk : ss.take k = ss := List.take_of_length_le (by omega)
    rw [htk] at hrow
    go_wp2_with fail
    go_ret
    exact ⟨g, c', rfl, by rw [hga]; exact hrow, hS.bw⟩
end Go.Proofs.YtfmpjlpakldheaaGreatDoor
