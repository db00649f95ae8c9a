import Derived.Test.YtmfhfehemoeeeaaGreatDoorZsbi
import Derived.Deep.AppendLies
import Derived.Test.YtmfhfehemoeeeaaGreatDoorZsbc
import Derived.Deep.RegionLaw
import Derived.Test.YtmfhfehemoeeeaaGreatDoorZsbh
import Derived.Test.YtmfhfehemoeeeaaGreatDoorZsbf
import Derived.Test.YtmfhfehemoeeeaaGreatDoorZsae
set_option maxRecDepth 100000
set_option maxHeartbeats 4000000
namespace Go.Proofs.YtmfhfehemoeeeaaGreatDoor
open Go.RowKit Go.Proofs.Sha

/-- The encodings of a tree, subtrees first. -/
def encsT (m : Nat) : Tr PairT → List ByteArray
  | .nil => []
  | .node l x r => encsT m l ++ encsT m r ++ [encT m (.node l x r)]
theorem encsT_len (m : Nat) : ∀ t : Tr PairT, (encsT m t).length = t.size
  | .nil => rfl
  | .node l x r => by simp only [encsT, List.length_append, encsT_len m l, encsT_len m r, Tr.size]; rfl
theorem Tr.inord_len : ∀ t : Tr PairT, t.inord.length = t.size
  | .nil => rfl
  | .node l x r => by simp only [Tr.inord, List.length_append, List.length_cons, Tr.inord_len l, Tr.inord_len r, Tr.size]; omega
theorem cutTree_size (ps : List PairT) : (cutTree ps).size = ps.length := by rw [← Tr.inord_len, cutTree_inord]
theorem PArg.take {a : Option Addr} {ps : List PairT} {w : World} (h : PArg a ps w) (t : Nat) : PArg a (ps.take t) w := by
  have hl : (ps.take t).length ≤ ps.length := by rw [List.length_take]; omega
  have hg : ∀ j, j < (ps.take t).length → (ps.take t).getD j noPair = ps.getD j noPair := fun j hj => by
    rw [List.length_take] at hj
    rw [List.getD_eq_getElem?_getD, List.getD_eq_getElem?_getD, List.getElem?_take, if_pos (by omega)]
  refine ⟨Nat.le_trans hl h.le, fun j => ?_, fun hn => ?_⟩
  · by_cases hj : j < (ps.take t).length
    · rw [hg j hj]; exact h.sz j
    · rw [List.getD_eq_getElem?_getD, List.getElem?_eq_none (by omega)]; exact ⟨Nat.zero_le _, Nat.zero_le _⟩
  · obtain ⟨b, off, ha, hlt, hc⟩ := h.at_ (by omega)
    exact ⟨b, off, ha, hlt, fun j hj => by rw [hg j hj]; exact hc j (by omega)⟩
theorem PArg.drop {b off : Nat} {ps : List PairT} {w : World} (h : PArg (some ⟨b, off, none⟩) ps w) (t : Nat) : PArg (some ⟨b, off + t * 2, none⟩) (ps.drop t) w := by
  have hl : (ps.drop t).length = ps.length - t := List.length_drop
  have hg : ∀ j, (ps.drop t).getD j noPair = ps.getD (t + j) noPair := fun j => by
    rw [List.getD_eq_getElem?_getD, List.getD_eq_getElem?_getD, List.getElem?_drop]
  refine ⟨by have := h.le; omega, fun j => by rw [hg]; exact h.sz _, fun hn => ?_⟩
  obtain ⟨b', off', ha, hlt, hc⟩ := h.at_ (by omega)
  obtain ⟨rfl, rfl⟩ : b = b' ∧ off = off' := by simpa using ha
  refine ⟨b, _, rfl, hlt, fun j hj => ?_⟩
  have := hc (t + j) (by omega)
  rw [hg, show off + t * 2 + j * 2 = off + (t + j) * 2 by omega]
  exact this
theorem PArg.empty (a : Option Addr) (w : World) : PArg a [] w := ⟨Nat.zero_le _, fun _ => ⟨Nat.zero_le _, Nat.zero_le _⟩, fun h => absurd h (Nat.lt_irrefl _)⟩
def Okp (x : PairT) : Prop := okKey x.1 = true ∧ okVal x.2 = true
/-- What the model's encodings say. -/
def EncsAt (m : Nat) (ps : List PairT) (w : World) (e : Ending) (w' : World) : Prop := ∃ g c, e = .returned (.tuple #[.slice (some ⟨g, 0, none⟩) ps.length c, .string (rootT m (cutTree ps))]) ∧ Row w' w.heap.size g ps.length c ((encsT m (cutTree ps)).map Value.string) ∧ Below w.heap.size w w'
theorem encsinfo9 : (Tryz.prog.info? 9).map (fun i => (i.zero, i.size, i.bytes)) = some (some (.string ⟨#[]⟩), 1, 16) := by kernel_rfl
theorem encs_nil (m : Nat) (a : Option Addr) (c : Nat) (w : World) : Calls Tryz.prog 20 #[.slice a 0 c, .int .i64 (m : Int)] w (EncsAt m [] w) := by
  have hr : Row (w.alloc (.cells #[] 9)) w.heap.size w.heap.size 0 0 [] := by
    have := Row.of_block (base := w.heap.size) (g := w.heap.size) (Nat.le_refl _) (heap_alloc_new w (.cells #[] 9)) 0 (Nat.zero_le _) (.inl rfl)
    simpa using this
  have hb : Below w.heap.size w (w.alloc (.cells #[] 9)) := (Below.refl _ _).alloc (Nat.le_refl _) _
  have hn : cutTree [] = .nil := by rw [cutTree]; rfl
  unfold EncsAt
  rw [hn]
  clear hn
  go_enter Tryz.func20, Tryz.ntmps20
  go_wp2_with fail
  go_ret2
  exact ⟨w.heap.size, 0, rfl, hr, hb⟩

theorem hashS_dig (k v l r : ByteArray) (m : Nat) (h1 : 1 ≤ m) (h2 : m ≤ 32) (hk : okKey k = true) (hv : okVal v = true) (hl : l.size = 0 ∨ l.size = m) (hr : r.size = 0 ∨ r.size = m) : hashS k v l r m = digB (encS k v l r m) m := by
  have hok : nodeOk k.size v.size l.size r.size (m : Int) = true := by
    unfold okKey at hk
    unfold okVal at hv
    rw [decide_eq_true_eq] at hk hv
    unfold nodeOk hashOk
    rw [Bool.and_eq_true, Bool.and_eq_true, decide_eq_true_eq]
    refine ⟨by omega, ?_, ?_⟩
    · rw [Bool.or_eq_true, decide_eq_true_eq, decide_eq_true_eq]; omega
    · rw [Bool.or_eq_true, decide_eq_true_eq, decide_eq_true_eq]; omega
  have hne : ¬ (encS k v l r (m : Int)).size = 0 := by
    unfold encS
    rw [if_pos hok]
    show ¬ (encL _ _ _ _).toArray.size = 0
    rw [List.size_toArray]
    simp [encL]
  unfold hashS
  rw [if_neg hne]
  rfl

theorem encs_step (m : Nat) (h1 : 1 ≤ m) (h2 : m ≤ 32) (b off : Nat) (ps : List PairT) (c : Nat) (w : World) (h : PArg (some ⟨b, off, none⟩) ps w) (hc : ps.length ≤ c) (h0 : 0 < ps.length) (hok : ∀ x ∈ ps, Okp x)
    (ih : ∀ (a : Option Addr) (qs : List PairT) (c' : Nat) (w' : World), qs.length < ps.length → (∀ x ∈ qs, x ∈ ps) → qs.length ≤ c' → PArg a qs w' → Calls Tryz.prog 20 #[.slice a qs.length c', .int .i64 (m : Int)] w' (EncsAt m qs w')) :
    Calls Tryz.prog 20 #[.slice (some ⟨b, off, none⟩) ps.length c, .int .i64 (m : Int)] w (EncsAt m ps w) := by
  have hn := h.le
  have HT := top_any (some ⟨b, off, none⟩) ps c w h h0
  obtain ⟨T, hT⟩ : ∃ T, topTo ps (ps.length - 1) = T := ⟨_, rfl⟩
  have hTl : T < ps.length := by have := topTo_le ps (ps.length - 1); omega
  rw [hT] at HT
  have hcut : cutTree ps = .node (cutTree (ps.take T)) (ps.getD T noPair) (cutTree (ps.drop (T + 1))) := by rw [cutTree, dif_pos h0, hT]
  clear hT
  have l1 : (ps.take T).length = T := by rw [List.length_take]; omega
  have l2 : (ps.drop (T + 1)).length = ps.length - (T + 1) := List.length_drop
  have HL := fun w' (hb : Below w.heap.size w w') => ih (some ⟨b, off, none⟩) (ps.take T) c w' (by omega) (fun x hx => List.mem_of_mem_take hx) (by omega) ((h.below hb).take T)
  obtain ⟨A, hA⟩ : ∃ A : Option Addr, (if c = T + 1 then some ⟨b, off, none⟩ else some ⟨b, off + (T + 1) * 2, none⟩) = A := ⟨_, rfl⟩
  have hPA : ∀ w', Below w.heap.size w w' → PArg A (ps.drop (T + 1)) w' := fun w' hb => by
    rw [← hA]
    by_cases e : c = T + 1
    · rw [if_pos e, List.drop_of_length_le (by omega)]; exact PArg.empty _ _
    · rw [if_neg e]; exact (h.below hb).drop (T + 1)
  have HR := fun w' (hb : Below w.heap.size w w') => ih A (ps.drop (T + 1)) (c - (T + 1)) w' (by omega) (fun x hx => List.mem_of_mem_drop hx) (by omega) (hPA w' hb)
  clear hPA
  unfold EncsAt at HL HR ⊢
  rw [l1] at HL
  rw [l2] at HR
  obtain ⟨n, hnn⟩ : ∃ n, ps.length = n := ⟨_, rfl⟩
  have hxm : ps.getD T noPair ∈ ps := by rw [getD_lt _ _ hTl]; exact List.getElem_mem _
  have hx := hok _ hxm
  obtain ⟨b', off', he, hbl, hcs⟩ := h.at_ h0
  obtain ⟨rfl, rfl⟩ : b = b' ∧ off = off' := by simpa using he
  have hcell := hcs T hTl
  have hxsz := h.sz T
  rw [hnn] at hn hc h0 hTl HT HR ⊢
  clear hok ih hcs he h l1 l2
  rw [hcut]
  generalize cutTree (ps.take T) = tl at HL ⊢
  generalize cutTree (ps.drop (T + 1)) = tr at HR ⊢
  generalize ps.getD T noPair = x at hx hcell hxsz ⊢
  obtain ⟨n2, hn2⟩ : ∃ n2, n - (T + 1) = n2 := ⟨_, rfl⟩
  rw [hn2] at HR
  have HL' : Hid _ := HL
  have HR' : Hid _ := HR
  clear HL HR hcut hxm hnn
  have z0 : ((n : Int) == 0) = false := by simp; omega
  have z1 : (0 : Int) ≤ (T : Int) := Int.natCast_nonneg _
  have z2 : (T : Int) < (n : Int) := by omega
  have z3 : (n : Int) ≤ (c : Int) := by omega
  have z4 : (T : Int) ≤ (c : Int) := by omega
  go_enter Tryz.func20, Tryz.ntmps20
  go_upto_region 6 with (first | (go_at_call 44; refine HT.mono ?_; rintro e w1 ⟨rfl, hb1⟩) | (go_at_call_of 20 (Value.slice (some ⟨b, off, none⟩) T c); refine (HL'.out _ hb1).mono ?_; rintro e w2 ⟨g1, c1, rfl, hr1, hb2'⟩; have hb2 : Below w.heap.size w w2 := hb1.trans (hb2'.mono hb1.size)) | (go_at_call 20; refine (HR'.out _ hb2).mono ?_; rintro e w3 ⟨g2, c2, rfl, hr2, hb3'⟩; have hb3 : Below w.heap.size w w3 := hb2.trans (hb3'.mono hb2.size)))
  have hr1' := hr1.below hb3'
  have hs1 := hb1.size
  have hs2 := hb2.size
  have hs3 := hb3.size
  have hg1 := hr1.lt
  have hg2 := hr2.ge
  have hge1 := hr1.ge
  have hd1 := (hb3.cell hbl).trans hcell.1
  have hd2 := (hb3.cell hbl).trans hcell.2
  clear hr1 hb1 hb2' hb2 HL' HR' HT hb3' hcell
  obtain ⟨xk, xv⟩ := x
  dsimp only at hd1 hd2 hxsz
  have HD : Hid (∀ W, Below w3.heap.size w3 W → W.cell? ⟨b, off + T * 2, none⟩ = some (.string xk) ∧ W.cell? ⟨b, off + T * 2 + 1, none⟩ = some (.string xv)) := fun W hW => ⟨(hW.cell (p := ⟨b, off + T * 2, none⟩) (by show b < _; omega)).trans hd1, (hW.cell (p := ⟨b, off + T * 2 + 1, none⟩) (by show b < _; omega)).trans hd2⟩
  generalize hRl : rootT m tl = Rl
  generalize hRr : rootT m tr = Rr
  have hbA : Below w3.heap.size w3 (w3.drew.alloc (.cells #[.string ⟨#[]⟩, .string ⟨#[]⟩, .string ⟨#[]⟩, .string ⟨#[]⟩] 88)) := ((Below.refl _ _).drew).alloc (Nat.le_refl _) _
  have hbF : Below w3.heap.size w3 ((w3.alloc (.cells #[.string xk, .string xv, .string Rl, .string Rr] 88)).drew) := ((Below.refl _ _).alloc (Nat.le_refl _) _).drew
  go_region_held3 (fun W => W.cell? ⟨b, off + T * 2, none⟩ = some (.string xk) ∧ W.cell? ⟨b, off + T * 2 + 1, none⟩ = some (.string xv)) (first | exact HD.out _ (Below.refl _ _).drew | exact HD.out _ hbA | exact HD.out _ hbF) (fail)
  have hN4 : ((w3.alloc (.cells #[.string xk, .string xv, .string Rl, .string Rr] 88)).drew).heap[w3.heap.size]? = some (.cells #[.string xk, .string xv, .string Rl, .string Rr] 88) := heap_alloc_new w3 _
  have hb4 : Below w.heap.size w ((w3.alloc (.cells #[.string xk, .string xv, .string Rl, .string Rr] 88)).drew) := hb3.trans (hbF.mono hs3)
  have hR1 := (hr1'.below hbF).mono hs1
  have hR2 := (hr2.below hbF).mono hs2
  have hlt2 := hr2.lt
  obtain ⟨gn, hgn⟩ : ∃ gn, w3.heap.size = gn := ⟨_, rfl⟩
  rw [hgn] at hN4 hlt2 ⊢
  clear hbF hbA HD hd1 hd2 hr1' hr2
  generalize (w3.alloc (.cells #[.string xk, .string xv, .string Rl, .string Rr] 88)).drew = w4 at hN4 hb4 hR1 hR2 ⊢
  have hgne : g1 ≠ g2 ∧ g1 ≠ gn := ⟨by omega, by omega⟩
  have hRl' : Hid (rootT m tl = Rl) := hRl
  have hRr' : Hid (rootT m tr = Rr) := hRr
  have hw3 : w.heap.size ≤ gn := by omega
  clear hRl hRr hgn hs1 hs2 hs3 hge1 hg2 hb3 hA
  obtain ⟨i0, hi0, hz0, hz1, hz2⟩ := info_parts encsinfo9
  obtain ⟨E1, hE1⟩ : ∃ E1, encsT m tl = E1 := ⟨_, rfl⟩
  obtain ⟨E2, hE2⟩ : ∃ E2, encsT m tr = E2 := ⟨_, rfl⟩
  have hE1' : Hid (encsT m tl = E1) := hE1
  have hE2' : Hid (encsT m tr = E2) := hE2
  rw [hE1] at hR1
  rw [hE2] at hR2
  have hl2 : Hid (E2.length = n2) := by have := hR2.len; rw [List.length_map] at this; exact this
  have hn2' : n2 ≤ 1048576 := by omega
  have hT2 : T ≤ 1048576 := by omega
  have hnT : Hid (n = T + n2 + 1) := by show n = _; omega
  clear hE1 hE2 hn2
  go_upto_region 7 with fail
  go_wp2_with fail
  go_loopw [7, 12] (fun t7 t12 wr => ∃ k g c' : Nat, k ≤ n2 ∧ t12 = .int .i64 (k : Int) ∧ t7 = .slice (some ⟨g, 0, none⟩) (T + k) c' ∧ Row wr w.heap.size g (T + k) c' ((E1 ++ E2.take k).map Value.string) ∧ Row wr w.heap.size g2 n2 c2 (E2.map Value.string) ∧ wr.heap[gn]? = some (.cells #[.string xk, .string xv, .string Rl, .string Rr] 88) ∧ (g ≠ g2 ∧ g ≠ gn) ∧ Below w.heap.size w wr) (fun _ t12 _ => n2 - (intOf t12).toNat)
  case atStart => exact ⟨0, g1, c1, Nat.zero_le _, rfl, rfl, by rw [List.take_zero, List.append_nil]; exact hR1, hR2, hN4, hgne, hb4⟩
  case round =>
    clear hR1 hR2 hN4 hgne hb4
    obtain ⟨k, g, c', hk, rfl, rfl, hrow, hrow2, hnb, hne, hbw⟩ := hrel
    have hgl := hrow.ge
    have hglt := hrow.lt
    have hg2lt := hrow2.lt
    have hnlt : gn < wr.heap.size := (Array.getElem?_eq_some_iff.1 hnb).1
    by_cases hlt : k < n2
    · have y1 : decide ((k : Int) < (n2 : Int)) = true := by simp; omega
      have hx0 : (0 : Int) ≤ (k : Int) := Int.natCast_nonneg _
      have hx1 : (k : Int) < (n2 : Int) := by omega
      have hkl : k < E2.length := by rw [hl2.out]; exact hlt
      obtain ⟨y, hy⟩ : ∃ y, E2[k] = y := ⟨_, rfl⟩
      have hcx : wr.cell? ⟨g2, k, none⟩ = some (.string y) := by rw [hrow2.cell k hlt, List.getElem?_map, List.getElem?_eq_getElem hkl, hy]; rfl
      have hstep : Hid ((E1 ++ E2.take (k + 1)).map Value.string = (E1 ++ E2.take k).map Value.string ++ [.string y]) := by
        show _ = _
        rw [List.take_succ_eq_append_getElem hkl, hy]
        simp
      clear hkl hy
      generalize (E1 ++ E2.take k).map Value.string = L at hrow hstep
      go_wp2_with (first | (at_builtin; refine wpList_append_row _ rfl (.tmp 55) (.tmp 60) 27 rfl 9 i0 (.string ⟨#[]⟩) 16 Tryz.underlying27 hi0 hz0 hz1 hz2 rfl w.heap.size g (T + k) c' L rfl (hrow.alloc _) ⟨wr.heap.size, 0, none⟩ 1 1 [.string y] rfl rfl (World.news_of_block (heap_alloc_new wr _)) (by simp [Value.oneCell']) (by unfold maxLen; omega) (by omega) (by simp; omega) (wr.heap.size + 1) (by simp) ?_; intro g5 c5 w5 hrow5 hgrow5 hg5 hkeep5))
      have hgw : wr.grownBy w5 (some g) := grownBy_trans (World.grownBy_alloc _ _ _) hgrow5
      have hnb5 : w5.heap[gn]? = some (.cells #[.string xk, .string xv, .string Rl, .string Rr] 88) := (hgw.block gn hnlt (by simp; omega)).trans hnb
      have hrow25 := hrow2.kept hgw (by simp; omega)
      have hbw5 : Below w.heap.size w w5 := hbw.trans (below_of_grown hgw hgl hbw.size)
      go_roundw
      case rel => exact ⟨k + 1, g5, c5, hlt, by go_num, rfl, by rw [hstep.out]; exact hrow5, hrow25, hnb5, ⟨by rcases hg5 with q | q <;> omega, by rcases hg5 with q | q <;> omega⟩, hbw5⟩
      case measure => simp [intOf]; omega
    · obtain rfl : k = n2 := by omega
      have y1 : decide ((k : Int) < (k : Int)) = false := by simp
      have htk : E2.take k = E2 := List.take_of_length_le (by rw [hl2.out]; exact Nat.le_refl _)
      rw [htk] at hrow
      have hEn : encT m (.node tl (xk, xv) tr) = encS xk xv Rl Rr m := by rw [← hRl'.out, ← hRr'.out]; rfl
      have hRn : rootT m (.node tl (xk, xv) tr) = hashS xk xv Rl Rr m := by
        have e : rootT m (.node tl (xk, xv) tr) = digB (encS xk xv Rl Rr m) m := by rw [← hRl'.out, ← hRr'.out]; rfl
        rw [e]
        exact (hashS_dig xk xv Rl Rr m h1 h2 hx.1 hx.2 (by rw [← hRl'.out]; exact rootT_size m h2 tl) (by rw [← hRr'.out]; exact rootT_size m h2 tr)).symm
      have hfin : Hid ((encsT m (.node tl (xk, xv) tr)).map Value.string = (E1 ++ E2).map Value.string ++ [.string (encT m (.node tl (xk, xv) tr))]) := by
        show _ = _
        rw [encsT, hE1'.out, hE2'.out]
        simp
      have hsl : Rl.size ≤ 1048576 := by have := rootT_size m h2 tl; rw [hRl'.out] at this; omega
      have hsr : Rr.size ≤ 1048576 := by have := rootT_size m h2 tr; rw [hRr'.out] at this; omega
      have HE := fun w' => enc_any xk xv Rl Rr (m : Int) w' hxsz.1 hxsz.2 hsl hsr
      have HH := fun w' => shash_any xk xv Rl Rr (m : Int) w' hxsz.1 hxsz.2 hsl hsr
      rw [← hEn] at HE
      rw [← hRn] at HH
      unfold nodeV at HE
      clear hEn hRn hsl hsr hRl' hRr' hE1' hE2' hl2 htk hx hxsz
      generalize encT m (.node tl (xk, xv) tr) = En at HE hfin
      obtain ⟨Rn, hRn⟩ : ∃ Rn, rootT m (.node tl (xk, xv) tr) = Rn := ⟨_, rfl⟩
      rw [hRn] at HH
      have HRn : Hid (rootT m (.node tl (xk, xv) tr) = Rn) := hRn
      clear hRn
      generalize (E1 ++ E2).map Value.string = L at hrow hfin
      replace HE : Hid _ := HE
      replace HH : Hid _ := HH
      have HN : Hid (∀ W : World, W.heap[gn]? = some (.cells #[.string xk, .string xv, .string Rl, .string Rr] 88) → W.cell? ⟨gn, 0, none⟩ = some (.string xk) ∧ W.cell? ⟨gn, 1, none⟩ = some (.string xv) ∧ W.cell? ⟨gn, 2, none⟩ = some (.string Rl) ∧ W.cell? ⟨gn, 3, none⟩ = some (.string Rr)) := fun W hW => ⟨Lib.cell_of_heap hW 0, Lib.cell_of_heap hW 1, Lib.cell_of_heap hW 2, Lib.cell_of_heap hW 3⟩
      go_upto_region 11 with fail
      go_region_held3 (fun W => W.cell? ⟨gn, 0, none⟩ = some (.string xk) ∧ W.cell? ⟨gn, 1, none⟩ = some (.string xv) ∧ W.cell? ⟨gn, 2, none⟩ = some (.string Rl) ∧ W.cell? ⟨gn, 3, none⟩ = some (.string Rr)) (first | exact HN.out _ hnb | exact HN.out _ hN5 | exact HN.out _ hN5a | exact HN.out _ hN6 | exact HN.out _ hN7) (first | (go_at_call 45; refine (HE.out _).mono ?_; rintro e w5 ⟨t, rfl, ht, hb5'⟩; have hb5 : Below wr.heap.size wr w5 := (Below.refl wr.heap.size wr).drew.trans hb5'; have hN5 := (hb5.block gn hnlt).trans hnb; have hrow5 := hrow.below hb5; have hN5a : (w5.alloc (.cells #[.string t] 9)).heap[gn]? = _ := (Below.heap_alloc w5 _ gn (by have := hb5.size; omega)).trans hN5) | (refine step_append_row _ (by rfl) (.tmp 62) (.tmp 66) 27 (by rfl) 9 i0 (.string ⟨#[]⟩) 16 Tryz.underlying27 hi0 hz0 hz1 hz2 (by rfl) w.heap.size g (T + k) c' L (by rfl) (hrow5.alloc _) ⟨w5.heap.size, 0, none⟩ 1 1 [.string t] (by rfl) rfl (World.news_of_block (heap_alloc_new w5 _)) (by simp [Value.oneCell']) (by unfold maxLen; omega) (by omega) (by simp; have := hb5.size; omega) (w5.heap.size + 1) (by simp) ?_; intro g6 c6 w6 hrow6 hgrow6 hg6 hkeep6; have hN6 := (hgrow6.block gn (by simp; have := hb5.size; omega) (by simp; omega)).trans hN5a) | (go_at_call 46; refine (HH.out _).mono ?_; rintro e w7 ⟨t2, rfl, ht2, hb7⟩; have hN7 := (hb7.block gn (Array.getElem?_eq_some_iff.1 hN6).1).trans hN6))
      have hb6 : Below w.heap.size w w6 := (hbw.trans (hb5.mono hbw.size)).trans (((Below.refl _ _).alloc (Nat.le_refl w5.heap.size) _ |>.mono (by have := hb5.size; have := hbw.size; omega)).trans (below_of_grown hgrow6 hgl (by simp; have := hb5.size; have := hbw.size; omega)))
      have hb8 : Below w.heap.size w w7 := hb6.trans (hb7.mono hb6.size)
      have hrow7 := hrow6.below hb7
      rw [ht.out, ← hfin.out] at hrow7
      go_wp2_with fail
      go_ret2
      rw [HRn.out, hnT.out]
      exact ⟨g6, c6, by rw [ht2.out]; rfl, hrow7, hb8⟩
theorem encs_any (m : Nat) (h1 : 1 ≤ m) (h2 : m ≤ 32) (n : Nat) : ∀ (a : Option Addr) (ps : List PairT) (c : Nat) (w : World), ps.length ≤ n → ps.length ≤ c → PArg a ps w → (∀ x ∈ ps, Okp x) → Calls Tryz.prog 20 #[.slice a ps.length c, .int .i64 (m : Int)] w (EncsAt m ps w) := by
  induction n with
  | zero =>
    intro a ps c w hn _ _ _
    obtain rfl : ps = [] := List.length_eq_zero_iff.1 (by omega)
    exact encs_nil m a c w
  | succ n ih =>
    intro a ps c w hn hc h hok
    by_cases h0 : 0 < ps.length
    · obtain ⟨b, off, rfl, _, _⟩ := h.at_ h0
      exact encs_step m h1 h2 b off ps c w h hc h0 hok (fun a qs c' w' hl hs hc' hP => ih a qs c' w' (by omega) hc' hP (fun x hx => hok x (hs x hx)))
    · obtain rfl : ps = [] := List.length_eq_zero_iff.1 (by omega)
      exact encs_nil m a c w
theorem isMapT_ok (ps : List PairT) (h : isMapT ps = true) : ∀ x ∈ ps, Okp x := by
  intro x hx
  unfold isMapT at h
  rw [Bool.and_eq_true] at h
  obtain ⟨i, hi, rfl⟩ := List.getElem_of_mem hx
  have hg := mapTo_good ps ps.length h.2 i hi
  unfold goodAt at hg
  rw [Bool.and_eq_true, Bool.and_eq_true, getD_lt ps i hi] at hg
  exact ⟨hg.1, hg.2.1⟩
theorem rootSpec_any (a : Option Addr) (ps : List PairT) (c : Nat) (n : Int) (w : World) (h : PArg a ps w) (hc : ps.length ≤ c) :
    Calls Tryz.prog 5 #[.slice a ps.length c, .int .i64 n] w fun e w' => e = .returned (.string (rootS ps n)) ∧ Below w.heap.size w w' := by
  have HM := mapOk_any a ps c w h
  have HI := fun w' => isW_spec n w'
  obtain ⟨R, hR⟩ : ∃ R, rootS ps n = R := ⟨_, rfl⟩
  rw [hR]
  cases hm : isMapT ps with
  | false =>
    have HR : Hid (R = ⟨#[]⟩) := by show _ = _; rw [← hR]; unfold rootS; rw [hm]; rfl
    rw [hm] at HM
    clear hR hm h hc
    generalize ps.length = n at HM ⊢
    go_enter Tryz.func5, Tryz.ntmps5
    go_wp2_with (first | (go_at_call 18; refine HM.mono ?_; rintro e w1 ⟨rfl, hb1⟩))
    go_ret
    exact ⟨by rw [HR.out]; rfl, hb1⟩
  | true =>
    cases hw : isW n with
    | false =>
      have HR : Hid (R = ⟨#[]⟩) := by show _ = _; rw [← hR]; unfold rootS; rw [hm, hw]; rfl
      rw [hm] at HM
      rw [hw] at HI
      clear hR hm h hw hc
      generalize ps.length = n at HM ⊢
      go_enter Tryz.func5, Tryz.ntmps5
      go_wp2_with (first | (go_at_call 18; refine HM.mono ?_; rintro e w1 ⟨rfl, hb1⟩) | (go_at_call 19; refine (HI _).mono ?_; rintro e w2 ⟨rfl, rfl⟩))
      go_ret
      exact ⟨by rw [HR.out]; rfl, hb1⟩
    | true =>
      obtain ⟨m, rfl, q1, q2⟩ := isW_out hw
      have HR : Hid (R = rootT m (cutTree ps)) := by show _ = _; rw [← hR]; unfold rootS; rw [hm, hw]; rfl
      rw [hw] at HI
      have HT : Hid (∀ w1, Below w.heap.size w w1 → Calls Tryz.prog 20 #[.slice a ps.length c, .int .i64 (m : Int)] w1 fun e w' => ∃ g c', e = .returned (.tuple #[.slice (some ⟨g, 0, none⟩) ps.length c', .string (rootT m (cutTree ps))]) ∧ Below w1.heap.size w1 w') := fun w1 hb => (encs_any m q1 q2 _ a ps c w1 (Nat.le_refl _) hc (h.below hb) (isMapT_ok ps hm)).mono (by
        rintro e w' ⟨g, c', he, _, hb'⟩
        exact ⟨g, c', he, hb'⟩)
      rw [hm] at HM
      clear hR hm h hw hc
      generalize rootT m (cutTree ps) = G at HT HR
      generalize ps.length = n at HM HT ⊢
      go_enter Tryz.func5, Tryz.ntmps5
      go_wp2_with (first | (go_at_call 18; refine HM.mono ?_; rintro e w1 ⟨rfl, hb1⟩) | (go_at_call 19; refine (HI _).mono ?_; rintro e w2 ⟨rfl, rfl⟩) | (go_at_call 20; refine (HT.out _ hb1).mono ?_; rintro e w3 ⟨g, c', rfl, hb3⟩))
      go_ret
      exact ⟨by rw [HR.out]; rfl, hb1.trans (hb3.mono hb1.size)⟩
/-- All below 'base' but 'c' is as it was. -/
abbrev Ub (base c : Nat) : World → World → Prop := Upd (fun k => k = c ∨ base ≤ k)
theorem isThere_any (t : Tr PairT) (f : Tr PairT → ByteArray × ByteArray) (p : Option Addr) (w : World) {n0 : Nat} (h : TA n0 f t p w) : Calls Tryz.prog 71 #[.pointer p] w fun e w' => e = .returned (.bool (someT t)) ∧ w' = w := by
  have hp := h.ptr
  cases t with
  | nil =>
    obtain rfl : p = none := h
    have q : (binOp .neq 61 (.pointer none) (.pointer none)).run Tryz.prog w = .ok (.bool false) w := by
      have := ptr_nil w
      simp only [binOp] at this ⊢
      cases hq : (Op.equal 61 (.pointer none) (.pointer none)).run Tryz.prog w <;> simp_all
    have hs : someT .nil = false := rfl
    rw [hs]
    clear hp hs
    go_enter Tryz.func71, Tryz.ntmps71
    go_wp2_with fail
    go_ret
    exact ⟨rfl, rfl⟩
  | node l x r =>
    obtain ⟨b, pl, pr, rfl, _, hb, _, _⟩ := h
    have q : (binOp .neq 61 (.pointer (some ⟨b, 0, none⟩)) (.pointer none)).run Tryz.prog w = .ok (.bool true) w := by
      have := ptr_some _ w hp
      simp only [binOp] at this ⊢
      cases hq : (Op.equal 61 (.pointer (some ⟨b, 0, none⟩)) (.pointer none)).run Tryz.prog w <;> simp_all
    have hs : someT (.node l x r) = true := rfl
    rw [hs]
    clear hp hb hs
    go_enter Tryz.func71, Tryz.ntmps71
    go_wp2_with fail
    go_ret
    exact ⟨rfl, rfl⟩
theorem hitB_left (wd : Nat) (ss ad : List ByteArray) (h : ByteArray) (i : Nat) (hi : i < ss.length) : hitB wd (ss ++ ad) h i = hitB wd ss h i := by
  unfold hitB
  rw [List.getD_eq_getElem?_getD, List.getD_eq_getElem?_getD, List.getElem?_append_left hi]
theorem hitB_right (wd : Nat) (ss ad : List ByteArray) (h : ByteArray) (i : Nat) : hitB wd (ss ++ ad) h (ss.length + i) = hitB wd ad h i := by
  unfold hitB
  rw [List.getD_eq_getElem?_getD, List.getD_eq_getElem?_getD, List.getElem?_append_right (by omega), Nat.add_sub_cancel_left]
/-- What a saving holds after some encodings: what is added, or what is wrong. -/
inductive SvR
  | go (added : List ByteArray)
  | full
  | clash (first enc : ByteArray)
/-- One encoding is taken. -/
def svStep (wd : Nat) (ss : List ByteArray) : SvR → ByteArray → SvR
  | .go ad, e => match firstI (hitB wd (ss ++ ad) (hashT wd e)) (ss.length + ad.length) with
    | some i => if (ss ++ ad).getD i ⟨#[]⟩ = e then .go ad else .clash ((ss ++ ad).getD i ⟨#[]⟩) e
    | none => if 20000 ≤ ss.length + ad.length then .full else .go (ad ++ [e])
  | r, _ => r
def svAll (wd : Nat) (ss es : List ByteArray) : SvR := es.foldl (svStep wd ss) (.go [])
/-- The first hit in two lists, one behind the other: in the first, or else in the second. -/
theorem firstI_two (wd : Nat) (ss ad : List ByteArray) (h : ByteArray) : firstI (hitB wd (ss ++ ad) h) (ss.length + ad.length) = match firstI (hitB wd ss h) ss.length with
    | some i => some i
    | none => (firstI (hitB wd ad h) ad.length).map (ss.length + ·) := by
  have h1 : firstI (hitB wd (ss ++ ad) h) ss.length = firstI (hitB wd ss h) ss.length := firstI_congr fun j hj => hitB_left wd ss ad h j hj
  cases hf : firstI (hitB wd ss h) ss.length with
  | some i => exact firstI_up (h1.trans hf) _
  | none =>
    have h0 : firstI (hitB wd (ss ++ ad) h) ss.length = none := h1.trans hf
    have key : ∀ m, firstI (hitB wd (ss ++ ad) h) (ss.length + m) = (firstI (hitB wd ad h) m).map (ss.length + ·) := fun m => by
      induction m with
      | zero => exact h0
      | succ m ih =>
        rw [← Nat.add_assoc, firstI, ih, firstI, hitB_right]
        cases firstI (hitB wd ad h) m with
        | some i => rfl
        | none => simp only [Option.map_none]; split <;> rfl
    exact key _
end Go.Proofs.YtmfhfehemoeeeaaGreatDoor
