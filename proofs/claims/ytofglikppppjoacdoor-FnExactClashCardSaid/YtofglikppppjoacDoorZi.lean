import Derived.Test.YtofglikppppjoacDoorZh
import Derived.Deep.AppendLies
import Derived.Test.YtofglikppppjoacDoorZg
import Derived.Laws.MakeOwn
import Derived.Laws.OwnMore
namespace Go.Proofs.YtofglikppppjoacDoor
open Go.RowKit Go.Proofs.Sha

/-- The encodings of a tree, subtrees first. -/
def encsT (m : Nat) : Tr PairT → List ByteArray
  | .nil => []
  | .node l x r => encsT m l ++ encsT m r ++ [encT m (.node l x r)]
theorem encsT_len (m : Nat) : ∀ t : Tr PairT, (encsT m t).length = t.size
  | .nil => rfl
  | .node l x r => by simp only [encsT, List.length_append, encsT_len m l, encsT_len m r, Tr.size]; rfl
theorem Tr.inord_len : ∀ t : Tr PairT, t.inord.length = t.size
  | .nil => rfl
  | .node l x r => by simp only [Tr.inord, List.length_append, List.length_cons, Tr.inord_len l, Tr.inord_len r, Tr.size]; omega
theorem cutTree_size (ps : List PairT) : (cutTree ps).size = ps.length := by rw [← Tr.inord_len, cutTree_inord]
theorem PArg.take {a : Option Addr} {ps : List PairT} {w : World} (h : PArg a ps w) (t : Nat) : PArg a (ps.take t) w := by
  have hl : (ps.take t).length ≤ ps.length := by rw [List.length_take]; omega
  have hg : ∀ j, j < (ps.take t).length → (ps.take t).getD j noPair = ps.getD j noPair := fun j hj => by
    rw [List.length_take] at hj
    rw [List.getD_eq_getElem?_getD, List.getD_eq_getElem?_getD, List.getElem?_take, if_pos (by omega)]
  refine ⟨Nat.le_trans hl h.le, fun j => ?_, fun hn => ?_⟩
  · by_cases hj : j < (ps.take t).length
    · rw [hg j hj]; exact h.sz j
    · rw [List.getD_eq_getElem?_getD, List.getElem?_eq_none (by omega)]; exact ⟨Nat.zero_le _, Nat.zero_le _⟩
  · obtain ⟨b, off, ha, hlt, hc⟩ := h.at_ (by omega)
    exact ⟨b, off, ha, hlt, fun j hj => by rw [hg j hj]; exact hc j (by omega)⟩
theorem PArg.drop {b off : Nat} {ps : List PairT} {w : World} (h : PArg (some ⟨b, off, none⟩) ps w) (t : Nat) : PArg (some ⟨b, off + t * 2, none⟩) (ps.drop t) w := by
  have hl : (ps.drop t).length = ps.length - t := List.length_drop
  have hg : ∀ j, (ps.drop t).getD j noPair = ps.getD (t + j) noPair := fun j => by
    rw [List.getD_eq_getElem?_getD, List.getD_eq_getElem?_getD, List.getElem?_drop]
  refine ⟨by have := h.le; omega, fun j => by rw [hg]; exact h.sz _, fun hn => ?_⟩
  obtain ⟨b', off', ha, hlt, hc⟩ := h.at_ (by omega)
  obtain ⟨rfl, rfl⟩ : b = b' ∧ off = off' := by simpa using ha
  refine ⟨b, _, rfl, hlt, fun j hj => ?_⟩
  have := hc (t + j) (by omega)
  rw [hg, show off + t * 2 + j * 2 = off + (t + j) * 2 by omega]
  exact this
theorem PArg.empty (a : Option Addr) (w : World) : PArg a [] w := ⟨Nat.zero_le _, fun _ => ⟨Nat.zero_le _, Nat.zero_le _⟩, fun h => absurd h (Nat.lt_irrefl _)⟩
def Okp (x : PairT) : Prop := okKey x.1 = true ∧ okVal x.2 = true
/-- What the model's encodings say. -/
def EncsAt (m : Nat) (ps : List PairT) (w : World) (e : Ending) (w' : World) : Prop := ∃ g c, e = .returned (.tuple #[.slice (some ⟨g, 0, none⟩) ps.length c, .string (rootT m (cutTree ps))]) ∧ Row w' w.heap.size g ps.length c ((encsT m (cutTree ps)).map Value.string) ∧ Below w.heap.size w w'
theorem encsinfo9 : (Tryd.prog.info? 9).map (fun i => (i.zero, i.size, i.bytes)) = some (some (.string ⟨#[]⟩), 1, 16) := by kernel_rfl
theorem encs_nil (m : Nat) (a : Option Addr) (c : Nat) (w : World) : Calls Tryd.prog 41 #[.slice a 0 c, .int .i64 (m : Int)] w (EncsAt m [] w) := by
  have hr : Row (w.alloc (.cells #[] 9)) w.heap.size w.heap.size 0 0 [] := by
    have := Row.of_block (base := w.heap.size) (g := w.heap.size) (Nat.le_refl _) (heap_alloc_new w (.cells #[] 9)) 0 (Nat.zero_le _) (.inl rfl)
    simpa using this
  have hb : Below w.heap.size w (w.alloc (.cells #[] 9)) := (Below.refl _ _).alloc (Nat.le_refl _) _
  have hn : cutTree [] = .nil := by rw [cutTree]; rfl
  unfold EncsAt
  rw [hn]
  clear hn
  go_enter Tryd.func41, Tryd.ntmps41
  go_wp2_with fail
  go_ret2
  exact ⟨w.heap.size, 0, rfl, hr, hb⟩

theorem hashS_dig (k v l r : ByteArray) (m : Nat) (h1 : 1 ≤ m) (h2 : m ≤ 32) (hk : okKey k = true) (hv : okVal v = true) (hl : l.size = 0 ∨ l.size = m) (hr : r.size = 0 ∨ r.size = m) : hashS k v l r m = digB (encS k v l r m) m := by
  have hok : nodeOk k.size v.size l.size r.size (m : Int) = true := by
    unfold okKey at hk
    unfold okVal at hv
    rw [decide_eq_true_eq] at hk hv
    unfold nodeOk hashOk
    rw [Bool.and_eq_true, Bool.and_eq_true, decide_eq_true_eq]
    refine ⟨by omega, ?_, ?_⟩
    · rw [Bool.or_eq_true, decide_eq_true_eq, decide_eq_true_eq]; omega
    · rw [Bool.or_eq_true, decide_eq_true_eq, decide_eq_true_eq]; omega
  have hne : ¬ (encS k v l r (m : Int)).size = 0 := by
    unfold encS
    rw [if_pos hok]
    show ¬ (encL _ _ _ _).toArray.size = 0
    rw [List.size_toArray]
    simp [encL]
  unfold hashS
  rw [if_neg hne]
  rfl

set_option maxRecDepth 100000 in
set_option maxHeartbeats 4000000 in
theorem encs_step (m : Nat) (h1 : 1 ≤ m) (h2 : m ≤ 32) (b off : Nat) (ps : List PairT) (c : Nat) (w : World) (h : PArg (some ⟨b, off, none⟩) ps w) (hc : ps.length ≤ c) (h0 : 0 < ps.length) (hok : ∀ x ∈ ps, Okp x)
    (ih : ∀ (a : Option Addr) (qs : List PairT) (c' : Nat) (w' : World), qs.length < ps.length → (∀ x ∈ qs, x ∈ ps) → qs.length ≤ c' → PArg a qs w' → Calls Tryd.prog 41 #[.slice a qs.length c', .int .i64 (m : Int)] w' (EncsAt m qs w')) :
    Calls Tryd.prog 41 #[.slice (some ⟨b, off, none⟩) ps.length c, .int .i64 (m : Int)] w (EncsAt m ps w) := by
  have hn := h.le
  have HT := top_any (some ⟨b, off, none⟩) ps c w h h0
  obtain ⟨T, hT⟩ : ∃ T, topTo ps (ps.length - 1) = T := ⟨_, rfl⟩
  have hTl : T < ps.length := by have := topTo_le ps (ps.length - 1); omega
  rw [hT] at HT
  have hcut : cutTree ps = .node (cutTree (ps.take T)) (ps.getD T noPair) (cutTree (ps.drop (T + 1))) := by rw [cutTree, dif_pos h0, hT]
  clear hT
  have l1 : (ps.take T).length = T := by rw [List.length_take]; omega
  have l2 : (ps.drop (T + 1)).length = ps.length - (T + 1) := List.length_drop
  have HL := fun w' (hb : Below w.heap.size w w') => ih (some ⟨b, off, none⟩) (ps.take T) c w' (by omega) (fun x hx => List.mem_of_mem_take hx) (by omega) ((h.below hb).take T)
  obtain ⟨A, hA⟩ : ∃ A : Option Addr, (if c = T + 1 then some ⟨b, off, none⟩ else some ⟨b, off + (T + 1) * 2, none⟩) = A := ⟨_, rfl⟩
  have hPA : ∀ w', Below w.heap.size w w' → PArg A (ps.drop (T + 1)) w' := fun w' hb => by
    rw [← hA]
    by_cases e : c = T + 1
    · rw [if_pos e, List.drop_of_length_le (by omega)]; exact PArg.empty _ _
    · rw [if_neg e]; exact (h.below hb).drop (T + 1)
  have HR := fun w' (hb : Below w.heap.size w w') => ih A (ps.drop (T + 1)) (c - (T + 1)) w' (by omega) (fun x hx => List.mem_of_mem_drop hx) (by omega) (hPA w' hb)
  clear hPA
  unfold EncsAt at HL HR ⊢
  rw [l1] at HL
  rw [l2] at HR
  obtain ⟨n, hnn⟩ : ∃ n, ps.length = n := ⟨_, rfl⟩
  have hxm : ps.getD T noPair ∈ ps := by rw [getD_lt _ _ hTl]; exact List.getElem_mem _
  have hx := hok _ hxm
  obtain ⟨b', off', he, hbl, hcs⟩ := h.at_ h0
  obtain ⟨rfl, rfl⟩ : b = b' ∧ off = off' := by simpa using he
  have hcell := hcs T hTl
  have hxsz := h.sz T
  rw [hnn] at hn hc h0 hTl HT HR ⊢
  clear hok ih hcs he h l1 l2
  rw [hcut]
  generalize cutTree (ps.take T) = tl at HL ⊢
  generalize cutTree (ps.drop (T + 1)) = tr at HR ⊢
  generalize ps.getD T noPair = x at hx hcell hxsz ⊢
  obtain ⟨n2, hn2⟩ : ∃ n2, n - (T + 1) = n2 := ⟨_, rfl⟩
  rw [hn2] at HR
  have HL' : Hid _ := HL
  have HR' : Hid _ := HR
  clear HL HR hcut hxm hnn
  have z0 : ((n : Int) == 0) = false := by simp; omega
  have z1 : (0 : Int) ≤ (T : Int) := Int.natCast_nonneg _
  have z2 : (T : Int) < (n : Int) := by omega
  have z3 : (n : Int) ≤ (c : Int) := by omega
  have z4 : (T : Int) ≤ (c : Int) := by omega
  go_enter Tryd.func41, Tryd.ntmps41
  go_upto_region 6 with (first | (go_at_call 50; refine HT.mono ?_; rintro e w1 ⟨rfl, hb1⟩) | (go_at_call_of 41 (Value.slice (some ⟨b, off, none⟩) T c); refine (HL'.out _ hb1).mono ?_; rintro e w2 ⟨g1, c1, rfl, hr1, hb2'⟩; have hb2 : Below w.heap.size w w2 := hb1.trans (hb2'.mono hb1.size)) | (go_at_call 41; refine (HR'.out _ hb2).mono ?_; rintro e w3 ⟨g2, c2, rfl, hr2, hb3'⟩; have hb3 : Below w.heap.size w w3 := hb2.trans (hb3'.mono hb2.size)))
  have hr1' := hr1.below hb3'
  have hs1 := hb1.size
  have hs2 := hb2.size
  have hs3 := hb3.size
  have hg1 := hr1.lt
  have hg2 := hr2.ge
  have hge1 := hr1.ge
  have hd1 := (hb3.cell hbl).trans hcell.1
  have hd2 := (hb3.cell hbl).trans hcell.2
  clear hr1 hb1 hb2' hb2 HL' HR' HT hb3' hcell
  obtain ⟨xk, xv⟩ := x
  dsimp only at hd1 hd2 hxsz
  have HD : Hid (∀ W, Below w3.heap.size w3 W → W.cell? ⟨b, off + T * 2, none⟩ = some (.string xk) ∧ W.cell? ⟨b, off + T * 2 + 1, none⟩ = some (.string xv)) := fun W hW => ⟨(hW.cell (p := ⟨b, off + T * 2, none⟩) (by show b < _; omega)).trans hd1, (hW.cell (p := ⟨b, off + T * 2 + 1, none⟩) (by show b < _; omega)).trans hd2⟩
  generalize hRl : rootT m tl = Rl
  generalize hRr : rootT m tr = Rr
  have hbA : Below w3.heap.size w3 (w3.drew.alloc (.cells #[.string ⟨#[]⟩, .string ⟨#[]⟩, .string ⟨#[]⟩, .string ⟨#[]⟩] 26)) := ((Below.refl _ _).drew).alloc (Nat.le_refl _) _
  have hbF : Below w3.heap.size w3 ((w3.alloc (.cells #[.string xk, .string xv, .string Rl, .string Rr] 26)).drew) := ((Below.refl _ _).alloc (Nat.le_refl _) _).drew
  go_region_held3 (fun W => W.cell? ⟨b, off + T * 2, none⟩ = some (.string xk) ∧ W.cell? ⟨b, off + T * 2 + 1, none⟩ = some (.string xv)) (first | exact HD.out _ (Below.refl _ _).drew | exact HD.out _ hbA | exact HD.out _ hbF) (fail)
  have hN4 : ((w3.alloc (.cells #[.string xk, .string xv, .string Rl, .string Rr] 26)).drew).heap[w3.heap.size]? = some (.cells #[.string xk, .string xv, .string Rl, .string Rr] 26) := heap_alloc_new w3 _
  have hb4 : Below w.heap.size w ((w3.alloc (.cells #[.string xk, .string xv, .string Rl, .string Rr] 26)).drew) := hb3.trans (hbF.mono hs3)
  have hR1 := (hr1'.below hbF).mono hs1
  have hR2 := (hr2.below hbF).mono hs2
  have hlt2 := hr2.lt
  obtain ⟨gn, hgn⟩ : ∃ gn, w3.heap.size = gn := ⟨_, rfl⟩
  rw [hgn] at hN4 hlt2 ⊢
  clear hbF hbA HD hd1 hd2 hr1' hr2
  generalize (w3.alloc (.cells #[.string xk, .string xv, .string Rl, .string Rr] 26)).drew = w4 at hN4 hb4 hR1 hR2 ⊢
  have hgne : g1 ≠ g2 ∧ g1 ≠ gn := ⟨by omega, by omega⟩
  have hRl' : Hid (rootT m tl = Rl) := hRl
  have hRr' : Hid (rootT m tr = Rr) := hRr
  have hw3 : w.heap.size ≤ gn := by omega
  clear hRl hRr hgn hs1 hs2 hs3 hge1 hg2 hb3 hA
  obtain ⟨i0, hi0, hz0, hz1, hz2⟩ := info_parts encsinfo9
  obtain ⟨E1, hE1⟩ : ∃ E1, encsT m tl = E1 := ⟨_, rfl⟩
  obtain ⟨E2, hE2⟩ : ∃ E2, encsT m tr = E2 := ⟨_, rfl⟩
  have hE1' : Hid (encsT m tl = E1) := hE1
  have hE2' : Hid (encsT m tr = E2) := hE2
  rw [hE1] at hR1
  rw [hE2] at hR2
  have hl2 : Hid (E2.length = n2) := by have := hR2.len; rw [List.length_map] at this; exact this
  have hn2' : n2 ≤ 1048576 := by omega
  have hT2 : T ≤ 1048576 := by omega
  have hnT : Hid (n = T + n2 + 1) := by show n = _; omega
  clear hE1 hE2 hn2
  go_upto_region 7 with fail
  go_wp2_with fail
  go_loopw [7, 12] (fun t7 t12 wr => ∃ k g c' : Nat, k ≤ n2 ∧ t12 = .int .i64 (k : Int) ∧ t7 = .slice (some ⟨g, 0, none⟩) (T + k) c' ∧ Row wr w.heap.size g (T + k) c' ((E1 ++ E2.take k).map Value.string) ∧ Row wr w.heap.size g2 n2 c2 (E2.map Value.string) ∧ wr.heap[gn]? = some (.cells #[.string xk, .string xv, .string Rl, .string Rr] 26) ∧ (g ≠ g2 ∧ g ≠ gn) ∧ Below w.heap.size w wr) (fun _ t12 _ => n2 - (intOf t12).toNat)
  case atStart => exact ⟨0, g1, c1, Nat.zero_le _, rfl, rfl, by rw [List.take_zero, List.append_nil]; exact hR1, hR2, hN4, hgne, hb4⟩
  case round =>
    clear hR1 hR2 hN4 hgne hb4
    obtain ⟨k, g, c', hk, rfl, rfl, hrow, hrow2, hnb, hne, hbw⟩ := hrel
    have hgl := hrow.ge
    have hglt := hrow.lt
    have hg2lt := hrow2.lt
    have hnlt : gn < wr.heap.size := (Array.getElem?_eq_some_iff.1 hnb).1
    by_cases hlt : k < n2
    · have y1 : decide ((k : Int) < (n2 : Int)) = true := by simp; omega
      have hx0 : (0 : Int) ≤ (k : Int) := Int.natCast_nonneg _
      have hx1 : (k : Int) < (n2 : Int) := by omega
      have hkl : k < E2.length := by rw [hl2.out]; exact hlt
      obtain ⟨y, hy⟩ : ∃ y, E2[k] = y := ⟨_, rfl⟩
      have hcx : wr.cell? ⟨g2, k, none⟩ = some (.string y) := by rw [hrow2.cell k hlt, List.getElem?_map, List.getElem?_eq_getElem hkl, hy]; rfl
      have hstep : Hid ((E1 ++ E2.take (k + 1)).map Value.string = (E1 ++ E2.take k).map Value.string ++ [.string y]) := by
        show _ = _
        rw [List.take_succ_eq_append_getElem hkl, hy]
        simp
      clear hkl hy
      generalize (E1 ++ E2.take k).map Value.string = L at hrow hstep
      go_wp2_with (first | (at_builtin; refine wpList_append_row _ rfl (.tmp 55) (.tmp 60) 29 rfl 9 i0 (.string ⟨#[]⟩) 16 Tryd.underlying29 hi0 hz0 hz1 hz2 rfl w.heap.size g (T + k) c' L rfl (hrow.alloc _) ⟨wr.heap.size, 0, none⟩ 1 1 [.string y] rfl rfl (World.news_of_block (heap_alloc_new wr _)) (by simp [Value.oneCell']) (by unfold maxLen; omega) (by omega) (by simp; omega) (wr.heap.size + 1) (by simp) ?_; intro g5 c5 w5 hrow5 hgrow5 hg5 hkeep5))
      have hgw : wr.grownBy w5 (some g) := grownBy_trans (World.grownBy_alloc _ _ _) hgrow5
      have hnb5 : w5.heap[gn]? = some (.cells #[.string xk, .string xv, .string Rl, .string Rr] 26) := (hgw.block gn hnlt (by simp; omega)).trans hnb
      have hrow25 := hrow2.kept hgw (by simp; omega)
      have hbw5 : Below w.heap.size w w5 := hbw.trans (below_of_grown hgw hgl hbw.size)
      go_roundw
      case rel => exact ⟨k + 1, g5, c5, hlt, by go_num, rfl, by rw [hstep.out]; exact hrow5, hrow25, hnb5, ⟨by rcases hg5 with q | q <;> omega, by rcases hg5 with q | q <;> omega⟩, hbw5⟩
      case measure => simp [intOf]; omega
    · obtain rfl : k = n2 := by omega
      have y1 : decide ((k : Int) < (k : Int)) = false := by simp
      have htk : E2.take k = E2 := List.take_of_length_le (by rw [hl2.out]; exact Nat.le_refl _)
      rw [htk] at hrow
      have hEn : encT m (.node tl (xk, xv) tr) = encS xk xv Rl Rr m := by rw [← hRl'.out, ← hRr'.out]; rfl
      have hRn : rootT m (.node tl (xk, xv) tr) = hashS xk xv Rl Rr m := by
        have e : rootT m (.node tl (xk, xv) tr) = digB (encS xk xv Rl Rr m) m := by rw [← hRl'.out, ← hRr'.out]; rfl
        rw [e]
        exact (hashS_dig xk xv Rl Rr m h1 h2 hx.1 hx.2 (by rw [← hRl'.out]; exact rootT_size m h2 tl) (by rw [← hRr'.out]; exact rootT_size m h2 tr)).symm
      have hfin : Hid ((encsT m (.node tl (xk, xv) tr)).map Value.string = (E1 ++ E2).map Value.string ++ [.string (encT m (.node tl (xk, xv) tr))]) := by
        show _ = _
        rw [encsT, hE1'.out, hE2'.out]
        simp
      have hsl : Rl.size ≤ 1048576 := by have := rootT_size m h2 tl; rw [hRl'.out] at this; omega
      have hsr : Rr.size ≤ 1048576 := by have := rootT_size m h2 tr; rw [hRr'.out] at this; omega
      have HE := fun w' => enc_any xk xv Rl Rr (m : Int) w' hxsz.1 hxsz.2 hsl hsr
      have HH := fun w' => shash_any xk xv Rl Rr (m : Int) w' hxsz.1 hxsz.2 hsl hsr
      rw [← hEn] at HE
      rw [← hRn] at HH
      unfold nodeV at HE
      clear hEn hRn hsl hsr hRl' hRr' hE1' hE2' hl2 htk hx hxsz
      generalize encT m (.node tl (xk, xv) tr) = En at HE hfin
      obtain ⟨Rn, hRn⟩ : ∃ Rn, rootT m (.node tl (xk, xv) tr) = Rn := ⟨_, rfl⟩
      rw [hRn] at HH
      have HRn : Hid (rootT m (.node tl (xk, xv) tr) = Rn) := hRn
      clear hRn
      generalize (E1 ++ E2).map Value.string = L at hrow hfin
      replace HE : Hid _ := HE
      replace HH : Hid _ := HH
      have HN : Hid (∀ W : World, W.heap[gn]? = some (.cells #[.string xk, .string xv, .string Rl, .string Rr] 26) → W.cell? ⟨gn, 0, none⟩ = some (.string xk) ∧ W.cell? ⟨gn, 1, none⟩ = some (.string xv) ∧ W.cell? ⟨gn, 2, none⟩ = some (.string Rl) ∧ W.cell? ⟨gn, 3, none⟩ = some (.string Rr)) := fun W hW => ⟨Lib.cell_of_heap hW 0, Lib.cell_of_heap hW 1, Lib.cell_of_heap hW 2, Lib.cell_of_heap hW 3⟩
      go_upto_region 11 with fail
      go_region_held3 (fun W => W.cell? ⟨gn, 0, none⟩ = some (.string xk) ∧ W.cell? ⟨gn, 1, none⟩ = some (.string xv) ∧ W.cell? ⟨gn, 2, none⟩ = some (.string Rl) ∧ W.cell? ⟨gn, 3, none⟩ = some (.string Rr)) (first | exact HN.out _ hnb | exact HN.out _ hN5 | exact HN.out _ hN5a | exact HN.out _ hN6 | exact HN.out _ hN7) (first | (go_at_call 24; refine (HE.out _).mono ?_; rintro e w5 ⟨t, rfl, ht, hb5'⟩; have hb5 : Below wr.heap.size wr w5 := (Below.refl wr.heap.size wr).drew.trans hb5'; have hN5 := (hb5.block gn hnlt).trans hnb; have hrow5 := hrow.below hb5; have hN5a : (w5.alloc (.cells #[.string t] 9)).heap[gn]? = _ := (Below.heap_alloc w5 _ gn (by have := hb5.size; omega)).trans hN5) | (refine step_append_row _ (by rfl) (.tmp 62) (.tmp 66) 29 (by rfl) 9 i0 (.string ⟨#[]⟩) 16 Tryd.underlying29 hi0 hz0 hz1 hz2 (by rfl) w.heap.size g (T + k) c' L (by rfl) (hrow5.alloc _) ⟨w5.heap.size, 0, none⟩ 1 1 [.string t] (by rfl) rfl (World.news_of_block (heap_alloc_new w5 _)) (by simp [Value.oneCell']) (by unfold maxLen; omega) (by omega) (by simp; have := hb5.size; omega) (w5.heap.size + 1) (by simp) ?_; intro g6 c6 w6 hrow6 hgrow6 hg6 hkeep6; have hN6 := (hgrow6.block gn (by simp; have := hb5.size; omega) (by simp; omega)).trans hN5a) | (go_at_call 8; refine (HH.out _).mono ?_; rintro e w7 ⟨t2, rfl, ht2, hb7⟩; have hN7 := (hb7.block gn (Array.getElem?_eq_some_iff.1 hN6).1).trans hN6))
      have hb6 : Below w.heap.size w w6 := (hbw.trans (hb5.mono hbw.size)).trans (((Below.refl _ _).alloc (Nat.le_refl w5.heap.size) _ |>.mono (by have := hb5.size; have := hbw.size; omega)).trans (below_of_grown hgrow6 hgl (by simp; have := hb5.size; have := hbw.size; omega)))
      have hb8 : Below w.heap.size w w7 := hb6.trans (hb7.mono hb6.size)
      have hrow7 := hrow6.below hb7
      rw [ht.out, ← hfin.out] at hrow7
      go_wp2_with fail
      go_ret2
      rw [HRn.out, hnT.out]
      exact ⟨g6, c6, by rw [ht2.out]; rfl, hrow7, hb8⟩
theorem encs_any (m : Nat) (h1 : 1 ≤ m) (h2 : m ≤ 32) (n : Nat) : ∀ (a : Option Addr) (ps : List PairT) (c : Nat) (w : World), ps.length ≤ n → ps.length ≤ c → PArg a ps w → (∀ x ∈ ps, Okp x) → Calls Tryd.prog 41 #[.slice a ps.length c, .int .i64 (m : Int)] w (EncsAt m ps w) := by
  induction n with
  | zero =>
    intro a ps c w hn _ _ _
    obtain rfl : ps = [] := List.length_eq_zero_iff.1 (by omega)
    exact encs_nil m a c w
  | succ n ih =>
    intro a ps c w hn hc h hok
    by_cases h0 : 0 < ps.length
    · obtain ⟨b, off, rfl, _, _⟩ := h.at_ h0
      exact encs_step m h1 h2 b off ps c w h hc h0 hok (fun a qs c' w' hl hs hc' hP => ih a qs c' w' (by omega) hc' hP (fun x hx => hok x (hs x hx)))
    · obtain rfl : ps = [] := List.length_eq_zero_iff.1 (by omega)
      exact encs_nil m a c w
theorem isMapT_ok (ps : List PairT) (h : isMapT ps = true) : ∀ x ∈ ps, Okp x := by
  intro x hx
  unfold isMapT at h
  rw [Bool.and_eq_true] at h
  obtain ⟨i, hi, rfl⟩ := List.getElem_of_mem hx
  have hg := mapTo_good ps ps.length h.2 i hi
  unfold goodAt at hg
  rw [Bool.and_eq_true, Bool.and_eq_true, getD_lt ps i hi] at hg
  exact ⟨hg.1, hg.2.1⟩
theorem rootSpec_any (a : Option Addr) (ps : List PairT) (c : Nat) (n : Int) (w : World) (h : PArg a ps w) (hc : ps.length ≤ c) :
    Calls Tryd.prog 18 #[.slice a ps.length c, .int .i64 n] w fun e w' => e = .returned (.string (rootS ps n)) ∧ Below w.heap.size w w' := by
  have HM := mapOk_any a ps c w h
  have HI := fun w' => isW_spec n w'
  obtain ⟨R, hR⟩ : ∃ R, rootS ps n = R := ⟨_, rfl⟩
  rw [hR]
  cases hm : isMapT ps with
  | false =>
    have HR : Hid (R = ⟨#[]⟩) := by show _ = _; rw [← hR]; unfold rootS; rw [hm]; rfl
    rw [hm] at HM
    clear hR hm h hc
    generalize ps.length = n at HM ⊢
    go_enter Tryd.func18, Tryd.ntmps18
    go_wp2_with (first | (go_at_call 39; refine HM.mono ?_; rintro e w1 ⟨rfl, hb1⟩))
    go_ret
    exact ⟨by rw [HR.out]; rfl, hb1⟩
  | true =>
    cases hw : isW n with
    | false =>
      have HR : Hid (R = ⟨#[]⟩) := by show _ = _; rw [← hR]; unfold rootS; rw [hm, hw]; rfl
      rw [hm] at HM
      rw [hw] at HI
      clear hR hm h hw hc
      generalize ps.length = n at HM ⊢
      go_enter Tryd.func18, Tryd.ntmps18
      go_wp2_with (first | (go_at_call 39; refine HM.mono ?_; rintro e w1 ⟨rfl, hb1⟩) | (go_at_call 40; refine (HI _).mono ?_; rintro e w2 ⟨rfl, rfl⟩))
      go_ret
      exact ⟨by rw [HR.out]; rfl, hb1⟩
    | true =>
      obtain ⟨m, rfl, q1, q2⟩ := isW_out hw
      have HR : Hid (R = rootT m (cutTree ps)) := by show _ = _; rw [← hR]; unfold rootS; rw [hm, hw]; rfl
      rw [hw] at HI
      have HT : Hid (∀ w1, Below w.heap.size w w1 → Calls Tryd.prog 41 #[.slice a ps.length c, .int .i64 (m : Int)] w1 fun e w' => ∃ g c', e = .returned (.tuple #[.slice (some ⟨g, 0, none⟩) ps.length c', .string (rootT m (cutTree ps))]) ∧ Below w1.heap.size w1 w') := fun w1 hb => (encs_any m q1 q2 _ a ps c w1 (Nat.le_refl _) hc (h.below hb) (isMapT_ok ps hm)).mono (by
        rintro e w' ⟨g, c', he, _, hb'⟩
        exact ⟨g, c', he, hb'⟩)
      rw [hm] at HM
      clear hR hm h hw hc
      generalize rootT m (cutTree ps) = G at HT HR
      generalize ps.length = n at HM HT ⊢
      go_enter Tryd.func18, Tryd.ntmps18
      go_wp2_with (first | (go_at_call 39; refine HM.mono ?_; rintro e w1 ⟨rfl, hb1⟩) | (go_at_call 40; refine (HI _).mono ?_; rintro e w2 ⟨rfl, rfl⟩) | (go_at_call 41; refine (HT.out _ hb1).mono ?_; rintro e w3 ⟨g, c', rfl, hb3⟩))
      go_ret
      exact ⟨by rw [HR.out]; rfl, hb1.trans (hb3.mono hb1.size)⟩
end Go.Proofs.YtofglikppppjoacDoor
namespace Go.Proofs.YtofglikppppjoacDoor
open Go.RowKit Go.Proofs.Sha

theorem IsEnc.inj {s : ByteArray} {n : Int} {k v l r k2 v2 l2 r2 : ByteArray} (h : IsEnc s n k v l r) (h2 : IsEnc s n k2 v2 l2 r2) : k = k2 ∧ v = v2 ∧ l = l2 ∧ r = r2 := by
  obtain ⟨_, e1, p1⟩ := h.parts
  obtain ⟨_, e2, p2⟩ := h2.parts
  obtain ⟨_, e3, p3⟩ := p1 _ rfl
  obtain ⟨_, e4, p4⟩ := p2 _ rfl
  obtain ⟨e5, e6⟩ := p3 _ rfl
  obtain ⟨e7, e8⟩ := p4 _ rfl
  obtain ⟨s1, s2⟩ := h.sides e5 e6
  obtain ⟨s3, s4⟩ := h2.sides e7 e8
  refine ⟨e1.trans e2.symm, e3.trans e4.symm, ?_⟩
  by_cases hf : (s.data.toList.getD (0 + 2 + szAt s 0 + 2 + szAt s (0 + 2 + szAt s 0)) 0).toNat % 2 = 1
  · exact ⟨(s1 hf).2.1.trans (s3 hf).2.1.symm, (s1 hf).2.2.trans (s3 hf).2.2.symm⟩
  · exact ⟨(s2 hf).1.trans (s4 hf).1.symm, (s2 hf).2.trans (s4 hf).2.symm⟩
theorem okNode (k v l r : ByteArray) (m : Nat) (h1 : 1 ≤ m) (h2 : m ≤ 32) (hk : okKey k = true) (hv : okVal v = true) (hl : l.size = 0 ∨ l.size = m) (hr : r.size = 0 ∨ r.size = m) : nodeOk k.size v.size l.size r.size (m : Int) = true := by
  unfold okKey at hk
  unfold okVal at hv
  rw [decide_eq_true_eq] at hk hv
  unfold nodeOk hashOk
  rw [Bool.and_eq_true, Bool.and_eq_true, decide_eq_true_eq]
  refine ⟨by omega, ?_, ?_⟩
  · rw [Bool.or_eq_true, decide_eq_true_eq, decide_eq_true_eq]; omega
  · rw [Bool.or_eq_true, decide_eq_true_eq, decide_eq_true_eq]; omega
/-- Encodings of tops tell their pairs and the roots below. -/
theorem encT_inj (m : Nat) (h1 : 1 ≤ m) (h2 : m ≤ 32) {l r l2 r2 : Tr PairT} {x y : PairT} (hx : Okp x) (hy : Okp y) (h : encT m (.node l x r) = encT m (.node l2 y r2)) : x = y ∧ rootT m l = rootT m l2 ∧ rootT m r = rootT m r2 := by
  have a1 := okNode x.1 x.2 _ _ m h1 h2 hx.1 hx.2 (rootT_size m h2 l) (rootT_size m h2 r)
  have a2 := okNode y.1 y.2 _ _ m h1 h2 hy.1 hy.2 (rootT_size m h2 l2) (rootT_size m h2 r2)
  have i1 : IsEnc (encT m (.node l x r)) m x.1 x.2 (rootT m l) (rootT m r) := ⟨a1, by show encS _ _ _ _ _ = _; unfold encS; rw [if_pos a1]⟩
  have i2 : IsEnc (encT m (.node l2 y r2)) m y.1 y.2 (rootT m l2) (rootT m r2) := ⟨a2, by show encS _ _ _ _ _ = _; unfold encS; rw [if_pos a2]⟩
  rw [← h] at i2
  obtain ⟨e1, e2, e3, e4⟩ := i1.inj i2
  exact ⟨Prod.ext e1 e2, e3, e4⟩
/-- The first two encodings that differ, as the model finds them. -/
def clashT (m : Nat) : Tr PairT → Tr PairT → Option (ByteArray × ByteArray)
  | .node l x r, .node l2 y r2 => if encT m (.node l x r) ≠ encT m (.node l2 y r2) then some (encT m (.node l x r), encT m (.node l2 y r2)) else if l.inord ≠ l2.inord then clashT m l l2 else clashT m r r2
  | _, _ => none
/-- As the walk finds them. -/
def twinT (m : Nat) : Tr PairT → Tr PairT → Option (ByteArray × ByteArray)
  | .node l x r, .node l2 y r2 => if (Tr.node l x r).inord = (Tr.node l2 y r2).inord then none else if encT m (.node l x r) ≠ encT m (.node l2 y r2) then some (encT m (.node l x r), encT m (.node l2 y r2)) else match twinT m l l2 with
    | some q => some q
    | none => twinT m r r2
  | _, _ => none
theorem rootT_nil (m : Nat) (h1 : 1 ≤ m) (h2 : m ≤ 32) (t : Tr PairT) (h : rootT m t = ⟨#[]⟩) : t = .nil := by
  cases t with
  | nil => rfl
  | node l x r =>
    have := digB_size (encS x.1 x.2 (rootT m l) (rootT m r) m) m h2
    have e : rootT m (.node l x r) = digB (encS x.1 x.2 (rootT m l) (rootT m r) m) m := rfl
    rw [← e, h] at this
    have h0 : (⟨#[]⟩ : ByteArray).size = 0 := rfl
    omega
theorem twinT_same (m : Nat) (s t : Tr PairT) (h : s.inord = t.inord) : twinT m s t = none := by
  cases s <;> cases t <;> simp only [twinT]
  rw [if_pos h]
theorem twin_clash (m : Nat) (h1 : 1 ≤ m) (h2 : m ≤ 32) : ∀ s t : Tr PairT, (∀ x ∈ s.inord, Okp x) → (∀ x ∈ t.inord, Okp x) → s.inord ≠ t.inord → rootT m s = rootT m t → ∃ q, twinT m s t = some q ∧ clashT m s t = some q ∧ 0 < q.1.size ∧ q.1 ≠ q.2 := by
  intro s
  induction s with
  | nil =>
    intro t _ _ hne hr
    have : t = .nil := rootT_nil m h1 h2 t hr.symm
    exact absurd (by rw [this]) hne
  | node l x r ihl ihr =>
    intro t hs ht hne hr
    cases t with
    | nil =>
      have : (Tr.node l x r) = .nil := rootT_nil m h1 h2 _ hr
      cases this
    | node l2 y r2 =>
      have hx := hs x (by simp [Tr.inord])
      have hy := ht y (by simp [Tr.inord])
      rw [twinT, clashT, if_neg hne]
      by_cases he : encT m (.node l x r) = encT m (.node l2 y r2)
      · rw [if_neg (by simp [he]), if_neg (by simp [he])]
        obtain ⟨rfl, e1, e2⟩ := encT_inj m h1 h2 hx hy he
        by_cases hl : l.inord = l2.inord
        · rw [if_neg (by simp [hl]), twinT_same m l l2 hl]
          have hrn : r.inord ≠ r2.inord := fun q => hne (by simp only [Tr.inord, hl, q])
          exact ihr r2 (fun z hz => hs z (by simp [Tr.inord, hz])) (fun z hz => ht z (by simp [Tr.inord, hz])) hrn e2
        · rw [if_pos hl]
          obtain ⟨q, q1, q2, q3⟩ := ihl l2 (fun z hz => hs z (by simp [Tr.inord, hz])) (fun z hz => ht z (by simp [Tr.inord, hz])) hl e1
          exact ⟨q, by rw [q1], q2, q3⟩
      · rw [if_pos he, if_pos he]
        refine ⟨_, rfl, rfl, ?_, he⟩
        have a1 := okNode x.1 x.2 _ _ m h1 h2 hx.1 hx.2 (rootT_size m h2 l) (rootT_size m h2 r)
        show 0 < (encS _ _ _ _ _).size
        unfold encS
        rw [if_pos a1]
        show 0 < (encL _ _ _ _).toArray.size
        rw [List.size_toArray]
        simp [encL]; omega
end Go.Proofs.YtofglikppppjoacDoor
namespace Go.Proofs.YtofglikppppjoacDoor
open Go.RowKit Go.Proofs.Sha

theorem wr_in64 (n : Int) (h : -9223372036854775808 ≤ n ∧ n ≤ 9223372036854775807) : wrap64 n = n := by unfold wrap64; omega
/-- A slice of pairs that was handed in, whatever its size. -/
structure QArg (a : Option Addr) (ps : List PairT) (w : World) : Prop where
  at_ : 0 < ps.length → ∃ b off : Nat, a = some ⟨b, off, none⟩ ∧ b < w.heap.size ∧ ∀ j, j < ps.length → w.cell? ⟨b, off + j * 2, none⟩ = some (.string (ps.getD j noPair).1) ∧ w.cell? ⟨b, off + j * 2 + 1, none⟩ = some (.string (ps.getD j noPair).2)
theorem QArg.below {a : Option Addr} {ps : List PairT} {w w' : World} (h : QArg a ps w) (hb : Below w.heap.size w w') : QArg a ps w' := by
  refine ⟨fun hn => ?_⟩
  obtain ⟨b, off, ha, hlt, hc⟩ := h.at_ hn
  exact ⟨b, off, ha, Nat.lt_of_lt_of_le hlt hb.size, fun j hj => ⟨(hb.cell (p := ⟨b, off + j * 2, none⟩) hlt).trans (hc j hj).1, (hb.cell (p := ⟨b, off + j * 2 + 1, none⟩) hlt).trans (hc j hj).2⟩⟩
/-- Within the law's bound. -/
def SmallP (ps : List PairT) : Prop := ps.length ≤ 1048576 ∧ ∀ j, (ps.getD j noPair).1.size ≤ 1048576 ∧ (ps.getD j noPair).2.size ≤ 1048576
theorem QArg.parg {a : Option Addr} {ps : List PairT} {w : World} (h : QArg a ps w) (hs : SmallP ps) : PArg a ps w := ⟨hs.1, hs.2, h.at_⟩
theorem PArg.qarg {a : Option Addr} {ps : List PairT} {w : World} (h : PArg a ps w) : QArg a ps w := ⟨h.at_⟩
theorem pget_out (ps : List PairT) (j : Nat) (h : ps.length ≤ j) : ps.getD j noPair = noPair := by
  rw [List.getD_eq_getElem?_getD, List.getElem?_eq_none h]; rfl
theorem szPair_yes (k v : ByteArray) (r q : Nat) (hr : r ≤ 1048576) (hk : k.size ≤ 9223372036854775807) (hv : v.size ≤ 9223372036854775807) (hq : q + k.size + v.size = r) (w : World) :
    Calls Tryd.prog 38 #[.agg #[.string k, .string v], .int .i64 (r : Int)] w fun e w' => e = .returned (.int .i64 (q : Int)) ∧ Below w.heap.size w w' := by
  obtain ⟨p, hp⟩ : ∃ p : Nat, (r : Int) - (k.size : Int) = (p : Int) := ⟨r - k.size, by omega⟩
  have hp2 : (p : Int) - (v.size : Int) = (q : Int) := by omega
  have y1 : wrap64 ((r : Int) - (k.size : Int)) = (p : Int) := by rw [hp]; exact wr_in64 _ (by omega)
  have y2 : wrap64 ((p : Int) - (v.size : Int)) = (q : Int) := by rw [hp2]; exact wr_in64 _ (by omega)
  have y3 : decide ((p : Int) < 0) = false := by rw [decide_eq_false_iff_not]; omega
  have y4 : decide ((q : Int) < 0) = false := by rw [decide_eq_false_iff_not]; omega
  clear hq
  have hb : Below w.heap.size w (w.alloc (.cells #[.string k, .string v] 63)) := (Below.refl _ _).alloc (Nat.le_refl _) _
  go_enter Tryd.func38, Tryd.ntmps38
  go_wp2_with fail
  go_ret
  exact ⟨rfl, hb⟩
theorem szPair_no (k v : ByteArray) (r : Nat) (hr : r ≤ 1048576) (hk : k.size ≤ 9223372036854775807) (hv : v.size ≤ 9223372036854775807) (hq : r < k.size + v.size) (w : World) :
    Calls Tryd.prog 38 #[.agg #[.string k, .string v], .int .i64 (r : Int)] w fun e w' => e = .returned (.int .i64 (-1)) ∧ Below w.heap.size w w' := by
  have hb : Below w.heap.size w (w.alloc (.cells #[.string k, .string v] 63)) := (Below.refl _ _).alloc (Nat.le_refl _) _
  by_cases c : k.size ≤ r
  · obtain ⟨p, hp⟩ : ∃ p : Nat, (r : Int) - (k.size : Int) = (p : Int) := ⟨r - k.size, by omega⟩
    obtain ⟨q, hp2⟩ : ∃ q : Int, (p : Int) - (v.size : Int) = q := ⟨_, rfl⟩
    have y1 : wrap64 ((r : Int) - (k.size : Int)) = (p : Int) := by rw [hp]; exact wr_in64 _ (by omega)
    have y2 : wrap64 ((p : Int) - (v.size : Int)) = q := by rw [hp2]; exact wr_in64 _ (by omega)
    have y3 : decide ((p : Int) < 0) = false := by rw [decide_eq_false_iff_not]; omega
    have y4 : decide (q < 0) = true := by rw [decide_eq_true_eq]; omega
    clear hq
    go_enter Tryd.func38, Tryd.ntmps38
    go_wp2_with fail
    go_ret
    exact ⟨rfl, hb⟩
  · obtain ⟨p, hp⟩ : ∃ p : Int, (r : Int) - (k.size : Int) = p := ⟨_, rfl⟩
    have y1 : wrap64 ((r : Int) - (k.size : Int)) = p := by rw [hp]; exact wr_in64 _ (by omega)
    have y3 : decide (p < 0) = true := by rw [decide_eq_true_eq]; omega
    clear hq
    go_enter Tryd.func38, Tryd.ntmps38
    go_wp2_with fail
    go_ret
    exact ⟨rfl, hb⟩

set_option maxRecDepth 100000 in
set_option maxHeartbeats 1000000 in
theorem szPairS_any (a : Option Addr) (ps : List PairT) (c l0 : Nat) (w : World) (h : QArg a ps w) (hl0 : l0 ≤ 1048576) (hN : ps.length ≤ maxLen) (hM : ∀ j, (ps.getD j noPair).1.size ≤ maxLen ∧ (ps.getD j noPair).2.size ≤ maxLen) :
    Calls Tryd.prog 17 #[.slice a ps.length c, .int .i64 (l0 : Int)] w fun e w' => ∃ r : Int, e = .returned (.int .i64 r) ∧ Hid (r ≤ l0) ∧ Hid (0 ≤ r → SmallP ps) ∧ Below w.heap.size w w' := by
  unfold maxLen at hN hM
  obtain ⟨N, hl⟩ : ∃ N, ps.length = N := ⟨_, rfl⟩
  rw [hl] at hN
  rw [hl]
  by_cases hx : l0 < N
  · have z1 : decide ((l0 : Int) - (N : Int) < 0) = true := by rw [decide_eq_true_eq]; omega
    have z5 : wrap64 ((l0 : Int) - (N : Int)) = l0 - (N : Int) := wr_in64 _ (by omega)
    go_enter Tryd.func17, Tryd.ntmps17
    go_wp2_with fail
    go_ret
    exact ⟨_, rfl, by show (-1 : Int) ≤ _; omega, fun hh => absurd hh (by decide), Below.refl _ _⟩
  · obtain ⟨q, hq⟩ : ∃ q : Nat, (l0 : Int) - (N : Int) = (q : Int) := ⟨l0 - N, by omega⟩
    have z5 : wrap64 ((l0 : Int) - (N : Int)) = (q : Int) := by rw [hq]; exact wr_in64 _ (by omega)
    have z1 : decide ((q : Int) < 0) = false := by rw [decide_eq_false_iff_not]; omega
    have hq0 : q ≤ l0 := by omega
    go_enter Tryd.func17, Tryd.ntmps17
    go_wp2_with fail
    go_loopw [1, 5] (fun t1 t5 wr => ∃ k r : Nat, k ≤ N ∧ t5 = .int .i64 (k : Int) ∧ t1 = .int .i64 (r : Int) ∧ r ≤ q ∧ Hid (∀ j, j < k → (ps.getD j noPair).1.size ≤ q ∧ (ps.getD j noPair).2.size ≤ q) ∧ Below w.heap.size w wr) (fun _ t5 _ => N - (intOf t5).toNat)
    case atStart => exact ⟨0, q, Nat.zero_le _, rfl, by first | rfl | rw [z5] | rw [hq], Nat.le_refl _, fun j hj => absurd hj (Nat.not_lt_zero j), Below.refl _ _⟩
    case round =>
      obtain ⟨k, r, hk, rfl, rfl, hr, hall, hbw⟩ := hrel
      by_cases hlt : k < N
      · have y1 : decide ((k : Int) < (N : Int)) = true := by simp; omega
        have hx0 : (0 : Int) ≤ (k : Int) := Int.natCast_nonneg _
        have hx1 : (k : Int) < (N : Int) := by omega
        obtain ⟨b, off, rfl, hbl, hcs⟩ := (h.below hbw).at_ (by omega)
        obtain ⟨hc1, hc2⟩ := hcs k (by omega)
        obtain ⟨m1, m2⟩ := hM k
        have hgk : Hid (ps.getD k noPair = ((ps.getD k noPair).1, (ps.getD k noPair).2)) := rfl
        generalize (ps.getD k noPair).1 = pk at hc1 m1 hgk
        generalize (ps.getD k noPair).2 = pv at hc2 m2 hgk
        by_cases hc : pk.size + pv.size ≤ r
        · obtain ⟨r', hr'⟩ : ∃ r' : Nat, r' + pk.size + pv.size = r := ⟨r - pk.size - pv.size, by omega⟩
          have HS := fun w' => szPair_yes pk pv r r' (by omega) m1 m2 hr' w'
          have y3 : decide ((r' : Int) < 0) = false := by rw [decide_eq_false_iff_not]; omega
          have hall' : Hid (∀ j, j < k + 1 → (ps.getD j noPair).1.size ≤ q ∧ (ps.getD j noPair).2.size ≤ q) := fun j hj => by
            by_cases hjk : j < k
            · exact hall.out j hjk
            · obtain rfl : j = k := by omega
              rw [hgk.out]; exact ⟨by show pk.size ≤ _; omega, by show pv.size ≤ _; omega⟩
          have hrq : r' ≤ q := by omega
          clear hall hcs hgk hr'
          go_wp2_with (go_at_call 38; refine (HS _).mono ?_; rintro e w1 ⟨rfl, hb1⟩)
          go_roundw
          case rel => exact ⟨k + 1, r', hlt, by go_num, rfl, hrq, hall', hbw.trans (hb1.mono hbw.size)⟩
          case measure => simp [intOf]; omega
        · have HS := fun w' => szPair_no pk pv r (by omega) m1 m2 (by omega) w'
          clear hall hcs hgk
          go_wp2_with (go_at_call 38; refine (HS _).mono ?_; rintro e w1 ⟨rfl, hb1⟩)
          go_ret
          exact ⟨_, rfl, by show (-1 : Int) ≤ _; omega, fun hh => absurd hh (by decide), hbw.trans (hb1.mono hbw.size)⟩
      · obtain rfl : k = N := by omega
        have y1 : decide ((k : Int) < (k : Int)) = false := by simp
        have HS : Hid (SmallP ps) := by
          refine ⟨by omega, fun j => ?_⟩
          by_cases hj : j < k
          · have := hall.out j hj; omega
          · rw [pget_out ps j (by omega)]; exact ⟨Nat.zero_le _, Nat.zero_le _⟩
        clear hall
        go_wp2_with fail
        go_ret
        exact ⟨_, rfl, by show (r : Int) ≤ _; omega, fun _ => HS.out, hbw⟩
end Go.Proofs.YtofglikppppjoacDoor
namespace Go.Proofs.YtofglikppppjoacDoor
open Go.RowKit Go.Proofs.Sha

/-- Pairs as cells. -/
def flatP : List PairT → List Value
  | [] => []
  | p :: l => .string p.1 :: .string p.2 :: flatP l
theorem flatP_len : ∀ l : List PairT, (flatP l).length = l.length * 2
  | [] => rfl
  | p :: l => by simp only [flatP, List.length_cons, flatP_len l]; omega
theorem flatP_app : ∀ l m : List PairT, flatP (l ++ m) = flatP l ++ flatP m
  | [], m => rfl
  | p :: l, m => by simp only [List.cons_append, flatP, flatP_app l m]
theorem flatP_get : ∀ (l : List PairT) (j : Nat), j < l.length → (flatP l)[j * 2]? = some (.string (l.getD j noPair).1) ∧ (flatP l)[j * 2 + 1]? = some (.string (l.getD j noPair).2)
  | [], j, h => absurd h (Nat.not_lt_zero _)
  | p :: l, 0, _ => ⟨rfl, rfl⟩
  | p :: l, j + 1, h => by
    have := flatP_get l j (by simpa using h)
    rw [show (j + 1) * 2 = j * 2 + 2 by omega]
    simpa [flatP] using this
theorem flatP_set : ∀ (l : List PairT) (k : Nat) (x y : ByteArray), k < l.length → ((flatP l).set (k * 2) (.string x)).set (k * 2 + 1) (.string y) = flatP (l.set k (x, y))
  | [], k, _, _, h => absurd h (Nat.not_lt_zero _)
  | p :: l, 0, _, _, _ => rfl
  | p :: l, k + 1, x, y, h => by
    have := flatP_set l k x y (by simpa using h)
    rw [show (k + 1) * 2 = k * 2 + 2 by omega]
    simpa [flatP] using this
theorem flatP_rep (n : Nat) : flatP (List.replicate n noPair) = List.replicate (n * 2) (.string ⟨#[]⟩) := by
  induction n with
  | zero => rfl
  | succ n ih =>
    rw [List.replicate_succ, flatP, ih, show (n + 1) * 2 = n * 2 + 1 + 1 by omega, List.replicate_succ, List.replicate_succ]
    rfl
theorem made2 (n : Nat) : (madeCells #[.string ⟨#[]⟩, .string ⟨#[]⟩] n).toList = List.replicate n (Value.string ⟨#[]⟩) := by
  unfold madeCells
  refine List.ext_getElem (by simp) fun i h1 h2 => ?_
  rw [List.getElem_replicate]
  simp only [Array.getElem_toList, Array.getElem_map]
  have : ∀ j, j < 2 → (#[Value.string ⟨#[]⟩, .string ⟨#[]⟩])[j]! = .string ⟨#[]⟩ := fun j hj => by
    match j, hj with
    | 0, _ => rfl
    | 1, _ => rfl
  exact this _ (Nat.mod_lt _ (by simp))
theorem Row.parg {w : World} {base g c n : Nat} {ps : List PairT} (h : Row w base g n c (flatP ps)) (hs : SmallP ps) : PArg (some ⟨g, 0, none⟩) ps w := by
  refine ⟨hs.1, hs.2, fun _ => ⟨g, 0, rfl, h.lt, fun j hj => ?_⟩⟩
  have hn := h.len
  rw [flatP_len] at hn
  obtain ⟨e0, e1⟩ := flatP_get ps j hj
  rw [Nat.zero_add]
  exact ⟨(h.cell _ (by omega)).trans e0, (h.cell _ (by omega)).trans e1⟩
/-- The first k, and zeros. -/
def partP (ps : List PairT) (k : Nat) : List PairT := ps.take k ++ List.replicate (ps.length - k) noPair
theorem partP_zero (ps : List PairT) : partP ps 0 = List.replicate ps.length noPair := by simp [partP]
theorem partP_all (ps : List PairT) : partP ps ps.length = ps := by simp [partP]
theorem partP_len (ps : List PairT) (k : Nat) (h : k ≤ ps.length) : (partP ps k).length = ps.length := by simp [partP]; omega
theorem partP_set (ps : List PairT) (k : Nat) (h : k < ps.length) : (partP ps k).set k (ps.getD k noPair) = partP ps (k + 1) := by
  have e : ps.take (k + 1) = ps.take k ++ [ps[k]] := by rw [List.take_add_one, List.getElem?_eq_getElem h]; rfl
  unfold partP
  rw [show ps.length - k = (ps.length - (k + 1)) + 1 by omega, List.replicate_succ, List.set_append_right _ _ (by rw [List.length_take]; omega), List.length_take, show k - min k ps.length = 0 by omega, List.set_cons_zero, e, List.getD_eq_getElem?_getD, List.getElem?_eq_getElem h, List.append_assoc]
  rfl
theorem info37 : (Tryd.prog.info? 68).map (fun i => (i.zero, i.size, i.bytes)) = some (some (.agg #[.string ⟨#[]⟩, .string ⟨#[]⟩]), 2, 32) := by kernel_rfl
theorem info_parts2 {i : Option TypeInfo} {a : Option Value} {b c : Nat} (h : i.map (fun i => (i.zero, i.size, i.bytes)) = some (a, b, c)) : ∃ j, i = some j ∧ j.zero = a ∧ j.size = b ∧ j.bytes = c := by
  cases i with
  | none => cases h
  | some j => simp only [Option.map_some, Option.some.injEq, Prod.mk.injEq] at h; exact ⟨j, rfl, h.1, h.2.1, h.2.2⟩
theorem make25 (n : Nat) (hn : n ≤ 1048576) (W : World) : (Instr.makeSlice 43 (.int .i64 (n : Int)) (.int .i64 (n : Int))).run Tryd.prog W = .ok (.slice (some ⟨W.heap.size, 0, none⟩) n n) (W.alloc (.cells (flatP (List.replicate n noPair)).toArray 68)) := by
  obtain ⟨i0, hi, hz0, hz1, hz2⟩ := info_parts2 info37
  have e : madeCells (Value.agg #[.string ⟨#[]⟩, .string ⟨#[]⟩]).cells (((n : Nat) : Int).toNat * i0.size) = (flatP (List.replicate n noPair)).toArray := by
    rw [hz1, Int.toNat_natCast, flatP_rep]
    show madeCells #[.string ⟨#[]⟩, .string ⟨#[]⟩] (n * 2) = _
    rw [← Array.toList_inj, made2]
  have h := run_make (P := Tryd.prog) W 43 68 i0 (.agg #[.string ⟨#[]⟩, .string ⟨#[]⟩]) Tryd.underlying43 hi hz0 .i64 .i64 (n : Int) (n : Int) (by omega) (by omega) (by rw [hz2]; omega) (by omega)
  rw [e] at h
  simpa using h
theorem toPair_any (k v : ByteArray) (w : World) : Calls Tryd.prog 42 #[.agg #[.string k, .string v]] w fun e w' => e = .returned (.agg #[.string k, .string v]) ∧ Below w.heap.size w w' := by
  have hb : Below w.heap.size w (((w.alloc (.cells #[.string k, .string v] 63)).alloc (.cells #[.string k, .string v] 68)).alloc (.cells #[.string k, .string v] 68)) := (((Below.refl _ _).alloc (Nat.le_refl _) _).alloc (by simp) _).alloc (by simp; omega) _
  go_enter Tryd.func42, Tryd.ntmps42
  go_wp2_with fail
  exact bodyPost_ret (v := .agg #[.string k, .string v]) (by simp [results, Tryd.results42, go_sem]) rfl ⟨rfl, hb⟩

set_option maxRecDepth 100000 in
set_option maxHeartbeats 1000000 in
theorem toPairS_any (a : Option Addr) (ps : List PairT) (c : Nat) (w : World) (h : PArg a ps w) :
    Calls Tryd.prog 19 #[.slice a ps.length c] w fun e w' => ∃ g, e = .returned (.slice (some ⟨g, 0, none⟩) ps.length ps.length) ∧ w.heap.size ≤ g ∧ PArg (some ⟨g, 0, none⟩) ps w' ∧ Below w.heap.size w w' := by
  have hn := h.le
  have hsm : SmallP ps := ⟨h.le, h.sz⟩
  have hmk := make25 ps.length hn
  obtain ⟨N, hN⟩ : ∃ N, ps.length = N := ⟨_, rfl⟩
  have hrow0 : Row (w.alloc (.cells (flatP (List.replicate ps.length noPair)).toArray 68)) w.heap.size w.heap.size (N * 2) (N * 2) (flatP (partP ps 0)) := by
    have hl : (flatP (List.replicate ps.length noPair)).toArray.size = N * 2 := by rw [List.size_toArray, flatP_len, List.length_replicate, hN]
    have := Row.of_block (Nat.le_refl w.heap.size) (heap_alloc_new w (.cells (flatP (List.replicate ps.length noPair)).toArray 68)) (N * 2) (by rw [hl]; exact Nat.le_refl _) (.inl rfl)
    rw [hl] at this
    have e : (flatP (List.replicate ps.length noPair)).toArray.toList.take (N * 2) = flatP (partP ps 0) := by
      rw [partP_zero, List.toList_toArray, List.take_of_length_le (by rw [flatP_len, List.length_replicate, hN]; exact Nat.le_refl _)]
    rw [e] at this
    exact this
  have hb0 : Below w.heap.size w (w.alloc (.cells (flatP (List.replicate ps.length noPair)).toArray 68)) := (Below.refl _ _).alloc (Nat.le_refl _) _
  obtain ⟨o, ho⟩ : ∃ o, (.cells (flatP (List.replicate ps.length noPair)).toArray 68 : Obj) = o := ⟨_, rfl⟩
  rw [ho] at hrow0 hb0 hmk
  clear ho
  rw [hN] at hmk hn ⊢
  have hNl : Hid (ps.length = N) := hN
  clear hN
  go_enter Tryd.func19, Tryd.ntmps19
  go_wp2_with fail
  obtain ⟨g, hg⟩ : ∃ g, w.heap.size = g := ⟨_, rfl⟩
  rw [hg] at hrow0 hb0 ⊢
  generalize w.alloc o = W0 at hrow0 hb0 ⊢
  go_loopw [4] (fun t wr => ∃ k : Nat, k ≤ N ∧ t = .int .i64 (k : Int) ∧ Row wr g g (N * 2) (N * 2) (flatP (partP ps k)) ∧ Below g w wr) (fun t _ => N - (intOf t).toNat)
  case atStart => exact ⟨0, Nat.zero_le _, rfl, hrow0, hb0⟩
  case round =>
    clear hrow0 hb0 hmk
    obtain ⟨k, hk, rfl, hrow, hbel⟩ := hrel
    by_cases hlt : k < N
    · have z1 : decide ((k : Int) < (N : Int)) = true := by simp; omega
      have hx0 : (0 : Int) ≤ (k : Int) := Int.natCast_nonneg _
      have hx1 : (k : Int) < (N : Int) := by omega
      obtain ⟨b, off, rfl, hbl, hc⟩ := (h.below (by rw [hg]; exact hbel)).at_ (by rw [hNl.out]; omega)
      obtain ⟨hc1, hc2⟩ := hc k (by rw [hNl.out]; exact hlt)
      have hbg : b < w.heap.size := by
        obtain ⟨b', off', he, hb', _⟩ := h.at_ (by rw [hNl.out]; omega)
        obtain ⟨rfl, rfl⟩ : b = b' ∧ off = off' := by simpa using he
        exact hb'
      have hkl : k < ps.length := by rw [hNl.out]; exact hlt
      have hstep := flatP_set (partP ps k) k (ps.getD k noPair).1 (ps.getD k noPair).2 (by rw [partP_len ps k (by omega)]; exact hkl)
      rw [show ((ps.getD k noPair).1, (ps.getD k noPair).2) = ps.getD k noPair from rfl, partP_set ps k hkl] at hstep
      generalize (ps.getD k noPair).1 = pk at hc1 hstep
      generalize (ps.getD k noPair).2 = pv at hc2 hstep
      have hstep' : Hid (((flatP (partP ps k)).set (k * 2) (.string pk)).set (k * 2 + 1) (.string pv) = flatP (partP ps (k + 1))) := hstep
      have hgl := hrow.lt
      have HT := fun w' => toPair_any pk pv w'
      have hset := fun w' (hr : Row w' g g (N * 2) (N * 2) (flatP (partP ps k))) => (hr.set (k * 2) (by omega) (.string pk)).set (k * 2 + 1) (by omega) (.string pv)
      rw [hstep] at hset
      replace hset : Hid _ := hset
      clear hc hstep hkl
      generalize flatP (partP ps k) = L at hrow hset
      go_wp2_with (go_at_call 42; refine (HT _).mono ?_; rintro e w1 ⟨rfl, hb1⟩; have hrow1 := hrow.below hb1; obtain ⟨y0, hy0⟩ := Option.isSome_iff_exists.1 (hrow1.room (k * 2) (by omega)); obtain ⟨y1, hy1⟩ := Option.isSome_iff_exists.1 (hrow1.room (k * 2 + 1) (by omega)); have hf0 := hrow1.free (k * 2) (by omega); have hf1 := hrow1.free (k * 2 + 1) (by omega))
      go_roundw
      case rel =>
        have hb1' : Below g w w1 := hbel.trans (hb1.mono (by omega))
        exact ⟨k + 1, hlt, by go_num, hset.out _ hrow1, (hb1'.setCell (Nat.le_refl _) _).setCell (Nat.le_refl _) _⟩
      case measure => simp [intOf]; omega
    · obtain rfl : k = N := by omega
      have z1 : decide ((k : Int) < (k : Int)) = false := by simp
      have hall : partP ps k = ps := by rw [← hNl.out]; exact partP_all ps
      rw [hall] at hrow
      go_wp2_with fail
      go_ret
      exact ⟨g, rfl, by omega, Row.parg hrow hsm, by rw [hg]; exact hbel⟩
theorem eqPair_any (k v : ByteArray) (w : World) : Calls Tryd.prog 47 #[.agg #[.string k, .string v], .agg #[.string k, .string v]] w fun e w' => e = .returned (.bool true) ∧ Below w.heap.size w w' := by
  have hb : Below w.heap.size w ((w.alloc (.cells #[.string k, .string v] 68)).alloc (.cells #[.string k, .string v] 68)) := ((Below.refl _ _).alloc (Nat.le_refl _) _).alloc (by simp) _
  go_enter Tryd.func47, Tryd.ntmps47
  go_wp2_with fail
  go_ret
  exact ⟨rfl, hb⟩

set_option maxRecDepth 100000 in
set_option maxHeartbeats 1000000 in
theorem eqPairS_any (a b : Option Addr) (ps : List PairT) (c d : Nat) (w : World) (h : PArg a ps w) (h' : PArg b ps w) :
    Calls Tryd.prog 21 #[.slice a ps.length c, .slice b ps.length d] w fun e w' => e = .returned (.bool true) ∧ Below w.heap.size w w' := by
  have hn := h.le
  obtain ⟨N, hN⟩ : ∃ N, ps.length = N := ⟨_, rfl⟩
  rw [hN] at hn ⊢
  have hNl : Hid (ps.length = N) := hN
  clear hN
  go_enter Tryd.func21, Tryd.ntmps21
  go_wp2_with fail
  go_loopw [5] (fun t wr => ∃ k : Nat, k ≤ N ∧ t = .int .i64 (k : Int) ∧ Below w.heap.size w wr) (fun t _ => N - (intOf t).toNat)
  case atStart => exact ⟨0, Nat.zero_le _, rfl, Below.refl _ _⟩
  case round =>
    obtain ⟨k, hk, rfl, hbw⟩ := hrel
    by_cases hlt : k < N
    · have z1 : decide ((k : Int) < (N : Int)) = true := by simp; omega
      have hx0 : (0 : Int) ≤ (k : Int) := Int.natCast_nonneg _
      have hx1 : (k : Int) < (N : Int) := by omega
      obtain ⟨b1, off1, rfl, hbl1, hc⟩ := (h.below hbw).at_ (by rw [hNl.out]; omega)
      obtain ⟨b2, off2, rfl, hbl2, hd⟩ := (h'.below hbw).at_ (by rw [hNl.out]; omega)
      obtain ⟨hc1, hc2⟩ := hc k (by rw [hNl.out]; exact hlt)
      obtain ⟨hd1, hd2⟩ := hd k (by rw [hNl.out]; exact hlt)
      generalize (ps.getD k noPair).1 = pk at hc1 hd1
      generalize (ps.getD k noPair).2 = pv at hc2 hd2
      have HE := fun w' => eqPair_any pk pv w'
      have HC : Hid (∀ W, Below wr.heap.size wr W → W.cell? ⟨b1, off1 + k * 2, none⟩ = some (.string pk) ∧ W.cell? ⟨b1, off1 + k * 2 + 1, none⟩ = some (.string pv) ∧ W.cell? ⟨b2, off2 + k * 2, none⟩ = some (.string pk) ∧ W.cell? ⟨b2, off2 + k * 2 + 1, none⟩ = some (.string pv)) := fun W hW => ⟨(hW.cell (p := ⟨b1, _, none⟩) hbl1).trans hc1, (hW.cell (p := ⟨b1, _, none⟩) hbl1).trans hc2, (hW.cell (p := ⟨b2, _, none⟩) hbl2).trans hd1, (hW.cell (p := ⟨b2, _, none⟩) hbl2).trans hd2⟩
      clear hc hd hc1 hc2 hd1 hd2
      go_wp2_with fail
      go_region_held3 (fun W => W.cell? ⟨b1, off1 + k * 2, none⟩ = some (.string pk) ∧ W.cell? ⟨b1, off1 + k * 2 + 1, none⟩ = some (.string pv) ∧ W.cell? ⟨b2, off2 + k * 2, none⟩ = some (.string pk) ∧ W.cell? ⟨b2, off2 + k * 2 + 1, none⟩ = some (.string pv)) (first | exact HC.out _ (Below.refl _ _).drew | exact HC.out _ hb1) (first | (go_at_call 47; refine (HE _).mono ?_; rintro e w1 ⟨rfl, hb1'⟩; have hb1 : Below wr.heap.size wr w1 := (Below.refl wr.heap.size wr).drew.trans hb1'))
      go_wp2_with fail
      go_roundw
      case rel => exact ⟨k + 1, hlt, by go_num, hbw.trans (hb1.mono hbw.size)⟩
      case measure => simp [intOf]; omega
    · obtain rfl : k = N := by omega
      have z1 : decide ((k : Int) < (k : Int)) = false := by simp
      go_wp2_with fail
      go_ret
      exact ⟨rfl, hbw⟩
end Go.Proofs.YtofglikppppjoacDoor
