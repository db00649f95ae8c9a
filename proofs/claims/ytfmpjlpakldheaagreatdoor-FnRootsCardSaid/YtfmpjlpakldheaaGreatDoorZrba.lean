import Derived.Test.YtfmpjlpakldheaaGreatDoorZraz
import Derived.Deep.AppendLies
import Derived.Test.YtfmpjlpakldheaaGreatDoorZral
import Derived.Test.YtfmpjlpakldheaaGreatDoorZrak
import Derived.Deep.RegionLaw
set_option maxRecDepth 100000
set_option maxHeartbeats 4000000
namespace Go.Proofs.YtfmpjlpakldheaaGreatDoor
open Go.RowKit Go.Proofs.Sha Tryz
def encsT (m : Nat) : Tr PairT -> List ByteArray
 | .nil => []
 | .node l x r => encsT m l ++ encsT m r ++ [encT m (.node l x r)]
theorem encsT_len (m : Nat) : ∀ t : Tr PairT, (encsT m t).length = t.size
 | .nil => rfl
 | .node l x r => by simp only [encsT, List.length_append, encsT_len m l, encsT_len m r, Tr.size]; rfl
theorem Tr.inord_len : ∀ t : Tr PairT, t.inord.length = t.size
 | .nil => rfl
 | .node l x r => by simp only [Tr.inord, List.length_append, List.length_cons, Tr.inord_len l, Tr.inord_len r, Tr.size]; omega
theorem cutTree_size (ps : List PairT) : (cutTree ps).size = ps.length := by rw [<- Tr.inord_len, cutTree_inord]
theorem PArg.take {a : Option Addr} {ps : List PairT} {w : World} (h : PArg a ps w) (t : Nat) : PArg a (ps.take t) w := by
 have hl : (ps.take t).length <= ps.length := by rw [List.length_take]; omega
 have hg : ∀ j, j < (ps.take t).length -> (ps.take t).getD j noPair = ps.getD j noPair := fun j hj => by
  rw [List.length_take] at hj
  rw [List.getD_eq_getElem?_getD, List.getD_eq_getElem?_getD, List.getElem?_take, if_pos (by omega)]
 refine ⟨Nat.le_trans hl h.le, fun j => ?_, fun hn => ?_⟩
 · by_cases hj : j < (ps.take t).length
   · rw [hg j hj]; exact h.sz j
   · rw [List.getD_eq_getElem?_getD, List.getElem?_eq_none (by omega)]; exact ⟨Nat.zero_le _, Nat.zero_le _⟩
 · obtain ⟨b, off, ha, hlt, hc⟩ := h.at_ (by omega)
   exact ⟨b, off, ha, hlt, fun j hj => by rw [hg j hj]; exact hc j (by omega)⟩
theorem PArg.drop {b off : Nat} {ps : List PairT} {w : World} (h : PArg (some ⟨b, off, none⟩) ps w) (t : Nat) : PArg (some ⟨b, off + t * 2, none⟩) (ps.drop t) w := by
 have hl : (ps.drop t).length = ps.length - t := List.length_drop
 have hg : ∀ j, (ps.drop t).getD j noPair = ps.getD (t + j) noPair := fun j => by
  rw [List.getD_eq_getElem?_getD, List.getD_eq_getElem?_getD, List.getElem?_drop]
 refine ⟨by have := h.le; omega, fun j => by rw [hg]; exact h.sz _, fun hn => ?_⟩
 obtain ⟨b', off', ha, hlt, hc⟩ := h.at_ (by omega)
 obtain ⟨rfl, rfl⟩ : b = b' /\ off = off' := by simpa using ha
 refine ⟨b, _, rfl, hlt, fun j hj => ?_⟩
 have := hc (t + j) (by omega)
 rw [hg, show off + t * 2 + j * 2 = off + (t + j) * 2 by omega]
 exact this
theorem PArg.empty (a : Option Addr) (w : World) : PArg a [] w := ⟨Nat.zero_le _, fun _ => ⟨Nat.zero_le _, Nat.zero_le _⟩, fun h => absurd h (Nat.lt_irrefl _)⟩
def Okp (x : PairT) : Prop := okKey x.1 = true /\ okVal x.2 = true
def EncsAt (m : Nat) (ps : List PairT) (w : World) (e : Ending) (w' : World) : Prop := ∃ g c, e = .returned (.tuple #[.slice (some ⟨g, 0, none⟩) ps.length c, .string (rootT m (cutTree ps))]) /\ Row w' w.heap.size g ps.length c ((encsT m (cutTree ps)).map Value.string) /\ Below w.heap.size w w'
theorem encsinfo9 : (prog.info? 9).map (fun i => (i.zero, i.size, i.bytes)) = some (some (.string ⟨#[]⟩), 1, 16) := by kernel_rfl
theorem encs_nil (m : Nat) (a : Option Addr) (c : Nat) (w : World) : Calls prog 52 #[.slice a 0 c, .int .i64 (m : Int)] w (EncsAt m [] w) := by
 have hr : Row (w.alloc (.cells #[] 9)) w.heap.size w.heap.size 0 0 [] := by
  have := Row.of_block (base := w.heap.size) (g := w.heap.size) (Nat.le_refl _) (heap_alloc_new w (.cells #[] 9)) 0 (Nat.zero_le _) (.inl rfl)
  simpa using this
 have hb : Below w.heap.size w (w.alloc (.cells #[] 9)) := (Below.refl _ _).alloc (Nat.le_refl _) _
 have hn : cutTree [] = .nil := by rw [cutTree]; rfl
 unfold EncsAt
 rw [hn]
 clear hn
 go_enter func52, ntmps52
 go_wp2_with fail
 go_ret2
 exact ⟨w.heap.size, 0, rfl, hr, hb⟩
theorem hashS_dig (k v l r : ByteArray) (m : Nat) (h1 : 1 <= m) (h2 : m <= 32) (hk : okKey k = true) (hv : okVal v = true) (hl : l.size = 0 \/ l.size = m) (hr : r.size = 0 \/ r.size = m) : hashS k v l r m = digB (encS k v l r m) m := by
 have hok : nodeOk k.size v.size l.size r.size (m : Int) = true := by
  unfold okKey at hk
  unfold okVal at hv
  rw [decide_eq_true_eq] at hk hv
  unfold nodeOk hashOk
  rw [Bool.and_eq_true, Bool.and_eq_true, decide_eq_true_eq]
  refine ⟨by omega, ?_, ?_⟩
  · rw [Bool.or_eq_true, decide_eq_true_eq, decide_eq_true_eq]; omega
  · rw [Bool.or_eq_true, decide_eq_true_eq, decide_eq_true_eq]; omega
 have hne : ¬ (encS k v l r (m : Int)).size = 0 := by
  unfold encS
  rw [if_pos hok]
  show ¬ (encL _ _ _ _).toArray.size = 0
  rw [List.size_toArray]
  simp [encL]
 unfold hashS
 rw [if_neg hne]
 rfl
theorem encs_step (m : Nat) (h1 : 1 <= m) (h2 : m <= 32) (b off : Nat) (ps : List PairT) (c : Nat) (w : World) (h : PArg (some ⟨b, off, none⟩) ps w) (hc : ps.length <= c) (h0 : 0 < ps.length) (hok : ∀ x ∈ ps, Okp x)
 (ih : ∀ (a : Option Addr) (qs : List PairT) (c' : Nat) (w' : World), qs.length < ps.length -> (∀ x ∈ qs, x ∈ ps) -> qs.length <= c' -> PArg a qs w' -> Calls prog 52 #[.slice a qs.length c', .int .i64 (m : Int)] w' (EncsAt m qs w')) :
 Calls prog 52 #[.slice (some ⟨b, off, none⟩) ps.length c, .int .i64 (m : Int)] w (EncsAt m ps w) := by
 have hn := h.le
 have HT := top_any (some ⟨b, off, none⟩) ps c w h h0
 obtain ⟨T, hT⟩ : ∃ T, topTo ps (ps.length - 1) = T := ⟨_, rfl⟩
 have hTl : T < ps.length := by have := topTo_le ps (ps.length - 1); omega
 rw [hT] at HT
 have hcut : cutTree ps = .node (cutTree (ps.take T)) (ps.getD T noPair) (cutTree (ps.drop (T + 1))) := by rw [cutTree, dif_pos h0, hT]
 clear hT
 have l1 : (ps.take T).length = T := by rw [List.length_take]; omega
 have l2 : (ps.drop (T + 1)).length = ps.length - (T + 1) := List.length_drop
 have HL := fun w' (hb : Below w.heap.size w w') => ih (some ⟨b, off, none⟩) (ps.take T) c w' (by omega) (fun x hx => List.mem_of_mem_take hx) (by omega) ((h.below hb).take T)
 obtain ⟨A, hA⟩ : ∃ A : Option Addr, (if c = T + 1 then some ⟨b, off, none⟩ else some ⟨b, off + (T + 1) * 2, none⟩) = A := ⟨_, rfl⟩
 have hPA : ∀ w', Below w.heap.size w w' -> PArg A (ps.drop (T + 1)) w' := fun w' hb => by
  rw [<- hA]
  by_cases e : c = T + 1
  · rw [if_pos e, List.drop_of_length_le (by omega)]; exact PArg.empty _ _
  · rw [if_neg e]; exact (h.below hb).drop (T + 1)
 have HR := fun w' (hb : Below w.heap.size w w') => ih A (ps.drop (T + 1)) (c - (T + 1)) w' (by omega) (fun x hx => List.mem_of_mem_drop hx) (by omega) (hPA w' hb)
 clear hPA
 unfold EncsAt at HL HR ⊢
 rw [l1] at HL
 rw [l2] at HR
 obtain ⟨n, hnn⟩ : ∃ n, ps.length = n := ⟨_, rfl⟩
 have hxm : ps.getD T noPair ∈ ps := by rw [getD_lt _ _ hTl]; exact List.getElem_mem _
 have hx := hok _ hxm
 obtain ⟨b', off', he, hbl, hcs⟩ := h.at_ h0
 obtain ⟨rfl, rfl⟩ : b = b' /\ off = off' := by simpa using he
 have hcell := hcs T hTl
 have hxsz := h.sz T
 rw [hnn] at hn hc h0 hTl HT HR ⊢
 clear hok ih hcs he h l1 l2
 rw [hcut]
 generalize cutTree (ps.take T) = tl at HL ⊢
 generalize cutTree (ps.drop (T + 1)) = tr at HR ⊢
 generalize ps.getD T noPair = x at hx hcell hxsz ⊢
 obtain ⟨n2, hn2⟩ : ∃ n2, n - (T + 1) = n2 := ⟨_, rfl⟩
 rw [hn2] at HR
 have HL' : Hid _ := HL
 have HR' : Hid _ := HR
 clear HL HR hcut hxm hnn
 have z0 : ((n : Int) == 0) = false := by simp; omega
 have z1 : (0 : Int) <= (T : Int) := Int.natCast_nonneg _
 have z2 : (T : Int) < (n : Int) := by omega
 have z3 : (n : Int) <= (c : Int) := by omega
 have z4 : (T : Int) <= (c : Int) := by omega
 go_enter func52, ntmps52
 go_upto_region 6 with (first | (go_at_call 51; refine HT.mono ?_; rintro e w1 ⟨rfl, hb1⟩) | (go_at_call_of 52 (Value.slice (some ⟨b, off, none⟩) T c); refine (HL'.out _ hb1).mono ?_; rintro e w2 ⟨g1, c1, rfl, hr1, hb2'⟩; have hb2 : Below w.heap.size w w2 := hb1.trans (hb2'.mono hb1.size)) | (go_at_call 52; refine (HR'.out _ hb2).mono ?_; rintro e w3 ⟨g2, c2, rfl, hr2, hb3'⟩; have hb3 : Below w.heap.size w w3 := hb2.trans (hb3'.mono hb2.size)))
 have hr1' := hr1.below hb3'
 have hs1 := hb1.size
 have hs2 := hb2.size
 have hs3 := hb3.size
 have hg1 := hr1.lt
 have hg2 := hr2.ge
 have hge1 := hr1.ge
 have hd1 := (hb3.cell hbl).trans hcell.1
 have hd2 := (hb3.cell hbl).trans hcell.2
 clear hr1 hb1 hb2' hb2 HL' HR' HT hb3' hcell
 obtain ⟨xk, xv⟩ := x
 dsimp only at hd1 hd2 hxsz
 have HD : Hid (∀ W, Below w3.heap.size w3 W -> W.cell? ⟨b, off + T * 2, none⟩ = some (.string xk) /\ W.cell? ⟨b, off + T * 2 + 1, none⟩ = some (.string xv)) := fun W hW => ⟨(hW.cell (p := ⟨b, off + T * 2, none⟩) (by show b < _; omega)).trans hd1, (hW.cell (p := ⟨b, off + T * 2 + 1, none⟩) (by show b < _; omega)).trans hd2⟩
 generalize hRl : rootT m tl = Rl
 generalize hRr : rootT m tr = Rr
 have hbA : Below w3.heap.size w3 (w3.drew.alloc (.cells #[.string ⟨#[]⟩, .string ⟨#[]⟩, .string ⟨#[]⟩, .string ⟨#[]⟩] 128)) := ((Below.refl _ _).drew).alloc (Nat.le_refl _) _
 have hbF : Below w3.heap.size w3 ((w3.alloc (.cells #[.string xk, .string xv, .string Rl, .string Rr] 128)).drew) := ((Below.refl _ _).alloc (Nat.le_refl _) _).drew
 go_region_held3 (fun W => W.cell? ⟨b, off + T * 2, none⟩ = some (.string xk) /\ W.cell? ⟨b, off + T * 2 + 1, none⟩ = some (.string xv)) (first | exact HD.out _ (Below.refl _ _).drew | exact HD.out _ hbA | exact HD.out _ hbF) (fail)
 have hN4 : ((w3.alloc (.cells #[.string xk, .string xv, .string Rl, .string Rr] 128)).drew).heap[w3.heap.size]? = some (.cells #[.string xk, .string xv, .string Rl, .string Rr] 128) := heap_alloc_new w3 _
 have hb4 : Below w.heap.size w ((w3.alloc (.cells #[.string xk, .string xv, .string Rl, .string Rr] 128)).drew) := hb3.trans (hbF.mono hs3)
 have hR1 := (hr1'.below hbF).mono hs1
 have hR2 := (hr2.below hbF).mono hs2
 have hlt2 := hr2.lt
 obtain ⟨gn, hgn⟩ : ∃ gn, w3.heap.size = gn := ⟨_, rfl⟩
 rw [hgn] at hN4 hlt2 ⊢
 clear hbF hbA HD hd1 hd2 hr1' hr2
 generalize (w3.alloc (.cells #[.string xk, .string xv, .string Rl, .string Rr] 128)).drew = w4 at hN4 hb4 hR1 hR2 ⊢
 have hgne : g1 ≠ g2 /\ g1 ≠ gn := ⟨by omega, by omega⟩
 have hRl' : Hid (rootT m tl = Rl) := hRl
 have hRr' : Hid (rootT m tr = Rr) := hRr
 have hw3 : w.heap.size <= gn := by omega
 clear hRl hRr hgn hs1 hs2 hs3 hge1 hg2 hb3 hA
 obtain ⟨i0, hi0, hz0, hz1, hz2⟩ := info_parts encsinfo9
 obtain ⟨E1, hE1⟩ : ∃ E1, encsT m tl = E1 := ⟨_, rfl⟩
 obtain ⟨E2, hE2⟩ : ∃ E2, encsT m tr = E2 := ⟨_, rfl⟩
 have hE1' : Hid (encsT m tl = E1) := hE1
 have hE2' : Hid (encsT m tr = E2) := hE2
 rw [hE1] at hR1
 rw [hE2] at hR2
 have hl2 : Hid (E2.length = n2) := by have := hR2.len; rw [List.length_map] at this; exact this
 have hn2' : n2 <= 1048576 := by omega
 have hT2 : T <= 1048576 := by omega
 have hnT : Hid (n = T + n2 + 1) := by show n = _; omega
 clear hE1 hE2 hn2
 go_upto_region 7 with fail
 go_wp2_with fail
 go_loopw [7, 12] (fun t7 t12 wr => ∃ k g c' : Nat, k <= n2 /\ t12 = .int .i64 (k : Int) /\ t7 = .slice (some ⟨g, 0, none⟩) (T + k) c' /\ Row wr w.heap.size g (T + k) c' ((E1 ++ E2.take k).map Value.string) /\ Row wr w.heap.size g2 n2 c2 (E2.map Value.string) /\ wr.heap[gn]? = some (.cells #[.string xk, .string xv, .string Rl, .string Rr] 128) /\ (g ≠ g2 /\ g ≠ gn) /\ Below w.heap.size w wr) (fun _ t12 _ => n2 - (intOf t12).toNat)
 case atStart => exact ⟨0, g1, c1, Nat.zero_le _, rfl, rfl, by rw [List.take_zero, List.append_nil]; exact hR1, hR2, hN4, hgne, hb4⟩
 case round =>
  clear hR1 hR2 hN4 hgne hb4
  obtain ⟨k, g, c', hk, rfl, rfl, hrow, hrow2, hnb, hne, hbw⟩ := hrel
  have hgl := hrow.ge
  have hglt := hrow.lt
  have hg2lt := hrow2.lt
  have hnlt : gn < wr.heap.size := (Array.getElem?_eq_some_iff.1 hnb).1
  by_cases hlt : k < n2
  · have y1 : decide ((k : Int) < (n2 : Int)) = true := by simp; omega
    have hx0 : (0 : Int) <= (k : Int) := Int.natCast_nonneg _
    have hx1 : (k : Int) < (n2 : Int) := by omega
    have hkl : k < E2.length := by rw [hl2.out]; exact hlt
    obtain ⟨y, hy⟩ : ∃ y, E2[k] = y := ⟨_, rfl⟩
    have hcx : wr.cell? ⟨g2, k, none⟩ = some (.string y) := by rw [hrow2.cell k hlt, List.getElem?_map, List.getElem?_eq_getElem hkl, hy]; rfl
    have hstep : Hid ((E1 ++ E2.take (k + 1)).map Value.string = (E1 ++ E2.take k).map Value.string ++ [.string y]) := by
     show _ = _
     rw [List.take_succ_eq_append_getElem hkl, hy]
     simp
    clear hkl hy
    generalize (E1 ++ E2.take k).map Value.string = L at hrow hstep
    go_wp2_with (first | (at_builtin; refine wpList_append_row _ rfl (.tmp 55) (.tmp 60) 35 rfl 9 i0 (.string ⟨#[]⟩) 16 Tryz.underlying35 hi0 hz0 hz1 hz2 rfl w.heap.size g (T + k) c' L rfl (hrow.alloc _) ⟨wr.heap.size, 0, none⟩ 1 1 [.string y] rfl rfl (World.news_of_block (heap_alloc_new wr _)) (by simp [Value.oneCell']) (by unfold maxLen; omega) (by omega) (by simp; omega) (wr.heap.size + 1) (by simp) ?_; intro g5 c5 w5 hrow5 hgrow5 hg5 hkeep5))
    have hgw : wr.grownBy w5 (some g) := grownBy_trans (World.grownBy_alloc _ _ _) hgrow5
    have hnb5 : w5.heap[gn]? = some (.cells #[.string xk, .string xv, .string Rl, .string Rr] 128) := (hgw.block gn hnlt (by simp; omega)).trans hnb
    have hrow25 := hrow2.kept hgw (by simp; omega)
    have hbw5 : Below w.heap.size w w5 := hbw.trans (below_of_grown hgw hgl hbw.size)
    go_roundw
    case rel => exact ⟨k + 1, g5, c5, hlt, by go_num, rfl, by rw [hstep.out]; exact hrow5, hrow25, hnb5, ⟨by rcases hg5 with q | q <;> omega, by rcases hg5 with q | q <;> omega⟩, hbw5⟩
    case measure => simp [intOf]; omega
  · obtain rfl : k = n2 := by omega
    have y1 : decide ((k : Int) < (k : Int)) = false := by simp
    have htk : E2.take k = E2 := List.take_of_length_le (by rw [hl2.out]; exact Nat.le_refl _)
    rw [htk] at hrow
    have hEn : encT m (.node tl (xk, xv) tr) = encS xk xv Rl Rr m := by rw [<- hRl'.out, <- hRr'.out]; rfl
    have hRn : rootT m (.node tl (xk, xv) tr) = hashS xk xv Rl Rr m := by
     have e : rootT m (.node tl (xk, xv) tr) = digB (encS xk xv Rl Rr m) m := by rw [<- hRl'.out, <- hRr'.out]; rfl
     rw [e]
     exact (hashS_dig xk xv Rl Rr m h1 h2 hx.1 hx.2 (by rw [<- hRl'.out]; exact rootT_size m h2 tl) (by rw [<- hRr'.out]; exact rootT_size m h2 tr)).symm
    have hfin : Hid ((encsT m (.node tl (xk, xv) tr)).map Value.string = (E1 ++ E2).map Value.string ++ [.string (encT m (.node tl (xk, xv) tr))]) := by
     show _ = _
     rw [encsT, hE1'.out, hE2'.out]
     simp
    have hsl : Rl.size <= 1048576 := by have := rootT_size m h2 tl; rw [hRl'.out] at this; omega
    have hsr : Rr.size <= 1048576 := by have := rootT_size m h2 tr; rw [hRr'.out] at this; omega
    have HE := fun w' => enc_any xk xv Rl Rr (m : Int) w' hxsz.1 hxsz.2 hsl hsr
    have HH := fun w' => shash_any xk xv Rl Rr (m : Int) w' hxsz.1 hxsz.2 hsl hsr
    rw [<- hEn] at HE
    rw [<- hRn] at HH
    unfold nodeV at HE
    clear hEn hRn hsl hsr hRl' hRr' hE1' hE2' hl2 htk hx hxsz
    generalize encT m (.node tl (xk, xv) tr) = En at HE hfin
    obtain ⟨Rn, hRn⟩ : ∃ Rn, rootT m (.node tl (xk, xv) tr) = Rn := ⟨_, rfl⟩
    rw [hRn] at HH
    have HRn : Hid (rootT m (.node tl (xk, xv) tr) = Rn) := hRn
    clear hRn
    generalize (E1 ++ E2).map Value.string = L at hrow hfin
    replace HE : Hid _ := HE
    replace HH : Hid _ := HH
    have HN : Hid (∀ W : World, W.heap[gn]? = some (.cells #[.string xk, .string xv, .string Rl, .string Rr] 128) -> W.cell? ⟨gn, 0, none⟩ = some (.string xk) /\ W.cell? ⟨gn, 1, none⟩ = some (.string xv) /\ W.cell? ⟨gn, 2, none⟩ = some (.string Rl) /\ W.cell? ⟨gn, 3, none⟩ = some (.string Rr)) := fun W hW => ⟨ZC hW 0, ZC hW 1, ZC hW 2, ZC hW 3⟩
    go_upto_region 11 with fail
    go_region_held3 (fun W => W.cell? ⟨gn, 0, none⟩ = some (.string xk) /\ W.cell? ⟨gn, 1, none⟩ = some (.string xv) /\ W.cell? ⟨gn, 2, none⟩ = some (.string Rl) /\ W.cell? ⟨gn, 3, none⟩ = some (.string Rr)) (first | exact HN.out _ hnb | exact HN.out _ hN5 | exact HN.out _ hN5a | exact HN.out _ hN6 | exact HN.out _ hN7) (first | (go_at_call 98; refine (HE.out _).mono ?_; rintro e w5 ⟨t, rfl, ht, hb5'⟩; have hb5 : Below wr.heap.size wr w5 := (Below.refl wr.heap.size wr).drew.trans hb5'; have hN5 := (hb5.block gn hnlt).trans hnb; have hrow5 := hrow.below hb5; have hN5a : (w5.alloc (.cells #[.string t] 9)).heap[gn]? = _ := (Below.heap_alloc w5 _ gn (by have := hb5.size; omega)).trans hN5) | (refine step_append_row _ (by rfl) (.tmp 62) (.tmp 66) 35 (by rfl) 9 i0 (.string ⟨#[]⟩) 16 Tryz.underlying35 hi0 hz0 hz1 hz2 (by rfl) w.heap.size g (T + k) c' L (by rfl) (hrow5.alloc _) ⟨w5.heap.size, 0, none⟩ 1 1 [.string t] (by rfl) rfl (World.news_of_block (heap_alloc_new w5 _)) (by simp [Value.oneCell']) (by unfold maxLen; omega) (by omega) (by simp; have := hb5.size; omega) (w5.heap.size + 1) (by simp) ?_; intro g6 c6 w6 hrow6 hgrow6 hg6 hkeep6; have hN6 := (hgrow6.block gn (by simp; have := hb5.size; omega) (by simp; omega)).trans hN5a) | (go_at_call 97; refine (HH.out _).mono ?_; rintro e w7 ⟨t2, rfl, ht2, hb7⟩; have hN7 := (hb7.block gn (Array.getElem?_eq_some_iff.1 hN6).1).trans hN6))
    have hb6 : Below w.heap.size w w6 := (hbw.trans (hb5.mono hbw.size)).trans (((Below.refl _ _).alloc (Nat.le_refl w5.heap.size) _ |>.mono (by have := hb5.size; have := hbw.size; omega)).trans (below_of_grown hgrow6 hgl (by simp; have := hb5.size; have := hbw.size; omega)))
    have hb8 : Below w.heap.size w w7 := hb6.trans (hb7.mono hb6.size)
    have hrow7 := hrow6.below hb7
    rw [ht.out, <- hfin.out] at hrow7
    go_wp2_with fail
    go_ret2
    rw [HRn.out, hnT.out]
    exact ⟨g6, c6, by rw [ht2.out]; rfl, hrow7, hb8⟩
theorem encs_any (m : Nat) (h1 : 1 <= m) (h2 : m <= 32) (n : Nat) : ∀ (a : Option Addr) (ps : List PairT) (c : Nat) (w : World), ps.length <= n -> ps.length <= c -> PArg a ps w -> (∀ x ∈ ps, Okp x) -> Calls prog 52 #[.slice a ps.length c, .int .i64 (m : Int)] w (EncsAt m ps w) := by
 induction n with
 | zero =>
  intro a ps c w hn _ _ _
  obtain rfl : ps = [] := List.length_eq_zero_iff.1 (by omega)
  exact encs_nil m a c w
 | succ n ih =>
  intro a ps c w hn hc h hok
  by_cases h0 : 0 < ps.length
  · obtain ⟨b, off, rfl, _, _⟩ := h.at_ h0
    exact encs_step m h1 h2 b off ps c w h hc h0 hok (fun a qs c' w' hl hs hc' hP => ih a qs c' w' (by omega) hc' hP (fun x hx => hok x (hs x hx)))
  · obtain rfl : ps = [] := List.length_eq_zero_iff.1 (by omega)
    exact encs_nil m a c w
theorem isMapT_ok (ps : List PairT) (h : isMapT ps = true) : ∀ x ∈ ps, Okp x := by
 intro x hx
 unfold isMapT at h
 rw [Bool.and_eq_true] at h
 obtain ⟨i, hi, rfl⟩ := List.getElem_of_mem hx
 have hg := mapTo_good ps ps.length h.2 i hi
 unfold goodAt at hg
 rw [Bool.and_eq_true, Bool.and_eq_true, getD_lt ps i hi] at hg
 exact ⟨hg.1, hg.2.1⟩
theorem rootSpec_any (a : Option Addr) (ps : List PairT) (c : Nat) (n : Int) (w : World) (h : PArg a ps w) (hc : ps.length <= c) :
 Calls prog 11 #[.slice a ps.length c, .int .i64 n] w fun e w' => e = .returned (.string (rootS ps n)) /\ Below w.heap.size w w' := by
 have HM := mapOk_any a ps c w h
 have HI := fun w' => isW_spec n w'
 obtain ⟨R, hR⟩ : ∃ R, rootS ps n = R := ⟨_, rfl⟩
 rw [hR]
 cases hm : isMapT ps with
 | false =>
  have HR : Hid (R = ⟨#[]⟩) := by show _ = _; rw [<- hR]; unfold rootS; rw [hm]; rfl
  rw [hm] at HM
  clear hR hm h hc
  generalize ps.length = n at HM ⊢
  go_enter func11, ntmps11
  go_wp2_with (first | (go_at_call 45; refine HM.mono ?_; rintro e w1 ⟨rfl, hb1⟩))
  go_ret
  exact ⟨by rw [HR.out]; rfl, hb1⟩
 | true =>
  cases hw : isW n with
  | false =>
   have HR : Hid (R = ⟨#[]⟩) := by show _ = _; rw [<- hR]; unfold rootS; rw [hm, hw]; rfl
   rw [hm] at HM
   rw [hw] at HI
   clear hR hm h hw hc
   generalize ps.length = n at HM ⊢
   go_enter func11, ntmps11
   go_wp2_with (first | (go_at_call 45; refine HM.mono ?_; rintro e w1 ⟨rfl, hb1⟩) | (go_at_call 47; refine (HI _).mono ?_; rintro e w2 ⟨rfl, rfl⟩))
   go_ret
   exact ⟨by rw [HR.out]; rfl, hb1⟩
  | true =>
   obtain ⟨m, rfl, q1, q2⟩ := isW_out hw
   have HR : Hid (R = rootT m (cutTree ps)) := by show _ = _; rw [<- hR]; unfold rootS; rw [hm, hw]; rfl
   rw [hw] at HI
   have HT : Hid (∀ w1, Below w.heap.size w w1 -> Calls prog 52 #[.slice a ps.length c, .int .i64 (m : Int)] w1 fun e w' => ∃ g c', e = .returned (.tuple #[.slice (some ⟨g, 0, none⟩) ps.length c', .string (rootT m (cutTree ps))]) /\ Below w1.heap.size w1 w') := fun w1 hb => (encs_any m q1 q2 _ a ps c w1 (Nat.le_refl _) hc (h.below hb) (isMapT_ok ps hm)).mono (by
    rintro e w' ⟨g, c', he, _, hb'⟩
    exact ⟨g, c', he, hb'⟩)
   rw [hm] at HM
   clear hR hm h hw hc
   generalize rootT m (cutTree ps) = G at HT HR
   generalize ps.length = n at HM HT ⊢
   go_enter func11, ntmps11
   go_wp2_with (first | (go_at_call 45; refine HM.mono ?_; rintro e w1 ⟨rfl, hb1⟩) | (go_at_call 47; refine (HI _).mono ?_; rintro e w2 ⟨rfl, rfl⟩) | (go_at_call 52; refine (HT.out _ hb1).mono ?_; rintro e w3 ⟨g, c', rfl, hb3⟩))
   go_ret
   exact ⟨by rw [HR.out]; rfl, hb1.trans (hb3.mono hb1.size)⟩
theorem IsEnc.inj {s : ByteArray} {n : Int} {k v l r k2 v2 l2 r2 : ByteArray} (h : IsEnc s n k v l r) (h2 : IsEnc s n k2 v2 l2 r2) : k = k2 /\ v = v2 /\ l = l2 /\ r = r2 := by
 obtain ⟨_, e1, p1⟩ := h.parts
 obtain ⟨_, e2, p2⟩ := h2.parts
 obtain ⟨_, e3, p3⟩ := p1 _ rfl
 obtain ⟨_, e4, p4⟩ := p2 _ rfl
 obtain ⟨e5, e6⟩ := p3 _ rfl
 obtain ⟨e7, e8⟩ := p4 _ rfl
 obtain ⟨s1, s2⟩ := h.sides e5 e6
 obtain ⟨s3, s4⟩ := h2.sides e7 e8
 refine ⟨e1.trans e2.symm, e3.trans e4.symm, ?_⟩
 by_cases hf : (s.data.toList.getD (0 + 2 + szAt s 0 + 2 + szAt s (0 + 2 + szAt s 0)) 0).toNat % 2 = 1
 · exact ⟨(s1 hf).2.1.trans (s3 hf).2.1.symm, (s1 hf).2.2.trans (s3 hf).2.2.symm⟩
 · exact ⟨(s2 hf).1.trans (s4 hf).1.symm, (s2 hf).2.trans (s4 hf).2.symm⟩
structure PS (c base : Nat) (ps : List PairT) (a : Option Addr) (cap : Nat) (w : World) : Prop where
 blk : w.heap[c]? = some (.cells #[.slice a ps.length cap] 23)
 own : w.ownsRow base 34 2 (.slice a ps.length cap) ps.length (flatP ps)
 hc : c < base
 hb : base <= w.heap.size
theorem PS.below {c base : Nat} {ps : List PairT} {a : Option Addr} {cap : Nat} {w w' : World} (h : PS c base ps a cap w) (hb : Below w.heap.size w w') : PS c base ps a cap w' :=
 ⟨(hb.block c (Nat.lt_of_lt_of_le h.hc h.hb)).trans h.blk, own2_kept h.own (fun g _ hg => hb.block g hg), h.hc, Nat.le_trans h.hb hb.size⟩
abbrev Ub (base c : Nat) : World -> World -> Prop := Upd (fun k => k = c \/ base <= k)
theorem Upd.of_grown {M : Nat -> Prop} {w w' : World} {row : Option Nat} (h : w.grownBy w' row) (hM : ∀ g, row = some g -> M g) : Upd M w w' :=
 ⟨h.os, h.tape, h.output, h.size, fun k hk hn => h.block k hk (fun e => hn (hM k e.symm))⟩
theorem isThere_any (t : Tr PairT) (f : Tr PairT -> ByteArray × ByteArray) (p : Option Addr) (w : World) {n0 : Nat} (h : TA n0 f t p w) : Calls prog 138 #[.pointer p] w fun e w' => e = .returned (.bool (someT t)) /\ w' = w := by
 have hp := h.ptr
 cases t with
 | nil =>
  obtain rfl : p = none := h
  have q : (binOp .neq 79 (.pointer none) (.pointer none)).run prog w = .ok (.bool false) w := by
   have := ptr_nil w
   simp only [binOp] at this ⊢
   cases hq : (Op.equal 79 (.pointer none) (.pointer none)).run prog w <;> simp_all
  have hs : someT .nil = false := rfl
  rw [hs]
  clear hp hs
  go_enter func138, ntmps138
  go_wp2_with fail
  go_ret
  exact ⟨rfl, rfl⟩
 | node l x r =>
  obtain ⟨b, pl, pr, rfl, _, hb, _, _⟩ := h
  have q : (binOp .neq 79 (.pointer (some ⟨b, 0, none⟩)) (.pointer none)).run prog w = .ok (.bool true) w := by
   have := ptr_some _ w hp
   simp only [binOp] at this ⊢
   cases hq : (Op.equal 79 (.pointer (some ⟨b, 0, none⟩)) (.pointer none)).run prog w <;> simp_all
  have hs : someT (.node l x r) = true := rfl
  rw [hs]
  clear hp hb hs
  go_enter func138, ntmps138
  go_wp2_with fail
  go_ret
  exact ⟨rfl, rfl⟩
theorem cpo_no (c : Nat) (p : Option Addr) (i : Int) (hi : i = 0 \/ i = 2) (w : World) : Calls prog 139 #[.pointer p, .int .i64 i, .pointer (some ⟨c, 0, none⟩)] w fun e w' => e = .returned (.bool true) /\ w' = w := by
 have hz : (i == 1) = false := by rcases hi with rfl | rfl <;> rfl
 go_enter func139, ntmps139
 go_wp2_with fail
 go_ret
 exact ⟨rfl, rfl⟩
theorem cpo_yes (c base b : Nat) (ps : List PairT) (a : Option Addr) (cap : Nat) (x : PairT) (l r : Option Addr) (e0 : ByteArray × ByteArray) (w : World) (h : PS c base ps a cap w) (hT : TB b x l r e0 w) (_hbc : b ≠ c) (hbb : b < base) (hlen : ps.length <= 100000) :
 Calls prog 139 #[.pointer (some ⟨b, 0, none⟩), .int .i64 1, .pointer (some ⟨c, 0, none⟩)] w fun e w' => e = .returned (.bool true) /\ (∃ a' cap', PS c base (ps ++ [x]) a' cap' w') /\ Ub base c w w' := by
 obtain ⟨i0, hi0, hz0, hz1, hz2⟩ := info_parts2 info37
 have hblk := h.blk
 have own := h.own
 have hc := h.hc
 have hb := h.hb
 have c0 := hT.c0
 have c1 := hT.c1
 have cc := ZC hblk 0
 obtain ⟨xk, xv⟩ := x
 obtain ⟨n, hn⟩ : ∃ n, ps.length = n := ⟨_, rfl⟩
 rw [hn] at hblk own cc hlen
 have hfl : Hid (flatP (ps ++ [(xk, xv)]) = flatP ps ++ [.string xk, .string xv]) := flatP_app _ _
 have hln : Hid ((ps ++ [(xk, xv)]).length = n + 1) := by show _ = _; rw [List.length_append, hn]; rfl
 have hbB : Below w.heap.size w (w.drew.alloc (.cells #[.string xk, .string xv] 34)) := (Below.refl _ _).drew.alloc (Nat.le_refl _) _
 have hca : ∀ o, (w.alloc o).cell? ⟨c, 0, none⟩ = some (.slice a n cap) := fun o => (World.cell?_alloc_lt _ _ _ (by show c < _; omega)).trans cc
 have hcb : ∀ o, (w.alloc o).cell? ⟨b, 0, none⟩ = some (.string xk) /\ (w.alloc o).cell? ⟨b, 1, none⟩ = some (.string xv) := fun o => ⟨(World.cell?_alloc_lt _ _ _ (by show b < _; omega)).trans c0, (World.cell?_alloc_lt _ _ _ (by show b < _; omega)).trans c1⟩
 clear hT h
 go_enter func139, ntmps139
 go_upto_region 2 with fail
 go_region_law ((refine step_append_lies _ (by rfl) (.tmp 8) (.tmp 13) 23 (by rfl) base 34 i0 (.agg #[.string ⟨#[]⟩, .string ⟨#[]⟩]) 2 32 Tryz.underlying23 hi0 hz0 hz1 hz2 (by rfl) (by decide) (.slice a n cap) n (flatP ps) (by rfl) (own.alloc _) ⟨w.heap.size, 0, none⟩ 1 1 [.string xk, .string xv] (by rfl) (by rfl) (World.news_of_block (heap_alloc_new w.drew _)) (by simp [Value.oneCell']) (by decide) (by unfold maxLen; omega) (by omega) (by simp; omega) (w.heap.size + 1) (by simp) ?_; intro g4 c4 w4 hown4 hgrow4 hat4 hlt4; have hlb4 := (hgrow4.block c (by simp; omega) (fun e => by have := (own2_cells own e.symm).1; omega)).trans ((hbB.block c (by omega)).trans hblk); have k1 := ZC hlb4 0; have f1 : w4.frozen? ⟨c, 0, none⟩ = false := by rw [World.frozen?, hlb4]; rfl))
 all_goals
  have hs4 := hgrow4.size
  have hbd : Below w.heap.size w ((w.alloc (.cells #[.string xk, .string xv] 34)).drew) := ((Below.refl _ _).alloc (Nat.le_refl _) _).drew
  have hu : Ub base c w (w4.setCell ⟨c, 0, none⟩ (.slice (some ⟨g4, 0, none⟩) (n + 1) c4)) := ((Upd.of_below hbd).trans (Upd.of_grown hgrow4 (fun g e => .inr (own2_cells own e).1))).setCell c 0 _ (.inl rfl)
  go_wp2_with fail
  go_ret
  refine ⟨rfl, ⟨some ⟨g4, 0, none⟩, c4, by rw [hln.out]; exact heap_setCell_same w4 c 0 _ 23 _ hlb4, by rw [hln.out, hfl.out]; exact own2_kept hown4 (fun g hv _ => Below.heap_setCell _ _ _ _ (by have e : g4 = g := Option.some.inj hv; have hg4 : base <= g4 := (own2_cells hown4 rfl).1; show g ≠ c; omega)), hc, Nat.le_trans hb hu.size⟩, hu⟩
def TAb (base c : Nat) (f : Tr PairT -> ByteArray × ByteArray) (t : Tr PairT) (p : Option Addr) (w : World) : Prop := ∃ bs, TAL 0 f t p bs w /\ ∀ b ∈ bs, b < base /\ b ≠ c
theorem TAb.upd {base c : Nat} {f : Tr PairT -> ByteArray × ByteArray} {t : Tr PairT} {p : Option Addr} {w w' : World} (h : TAb base c f t p w) (hu : Ub base c w w') : TAb base c f t p w' := by
 obtain ⟨bs, h1, h2⟩ := h
 exact ⟨bs, h1.upd hu (fun b hb q => by have := h2 b hb; omega), h2⟩
theorem TAb.ta {base c : Nat} {f : Tr PairT -> ByteArray × ByteArray} {t : Tr PairT} {p : Option Addr} {w : World} (h : TAb base c f t p w) : TA 0 f t p w := by
 obtain ⟨bs, h1, h2⟩ := h
 exact h1.ta
theorem walk_pairs (f : Tr PairT -> ByteArray × ByteArray) (c base : Nat) : ∀ (t : Tr PairT) (p : Option Addr) (ps : List PairT) (a : Option Addr) (cap : Nat) (w : World), TAb base c f t p w -> PS c base ps a cap w -> ps.length + t.size <= 100000 →
 Calls prog 134 #[.pointer p, .func (.func 138) #[] #[], .func (.func 139) #[] #[.pointer (some ⟨c, 0, none⟩)]] w fun e w' => e = .returned (.bool true) /\ (∃ a' cap', PS c base (ps ++ t.inord) a' cap' w') /\ Ub base c w w' := by
 intro t
 induction t with
 | nil =>
  intro p ps a cap w ht hp hn
  have HU := isThere_any .nil f p w ht.ta
  have hs : someT .nil = false := rfl
  rw [hs] at HU
  have HP : Hid (∃ a' cap', PS c base (ps ++ Tr.nil.inord) a' cap' w) := ⟨a, cap, by rw [Tr.inord, List.append_nil]; exact hp⟩
  clear hs ht hp hn
  go_enter func134, ntmps134
  go_wp2_with (go_at_call 138; refine HU.mono ?_; rintro e w1 ⟨rfl, rfl⟩)
  go_ret
  exact ⟨rfl, HP.out, Upd.refl _ _⟩
 | node l x r ihl ihr =>
  intro p ps a cap w ht hp hn
  have HU := isThere_any (.node l x r) f p w ht.ta
  have hs : someT (.node l x r) = true := rfl
  rw [hs] at HU
  clear hs
  obtain ⟨bs, ⟨b, pl, pr, bl, br, rfl, rfl, _, hb, hl, hr⟩, hbs⟩ := ht
  have hbb := hbs b (by simp)
  have tl : TAb base c f l pl w := ⟨bl, hl, fun k hk => hbs k (by simp [hk])⟩
  have tr : TAb base c f r pr w := ⟨br, hr, fun k hk => hbs k (by simp [hk])⟩
  have hm : ∀ w' : World, (method 388 79 (.pointer (some ⟨b, 0, none⟩)) "loop.example/s03048/impl.subtrees").run prog w' = .ok (204, .pointer (some ⟨b, 0, none⟩)) w' := fun _ => by kernel_rfl
  have H0 := fun w' => cpo_no c (some ⟨b, 0, none⟩) 0 (.inl rfl) w'
  have H2 := fun w' => cpo_no c (some ⟨b, 0, none⟩) 2 (.inr rfl) w'
  have HS := subs_any b x pl pr _ w hb
  simp only [Tr.size] at hn
  have hll := Tr.inord_len l
  have HL : Hid (∀ w0, Below w.heap.size w w0 -> Calls prog 134 #[.pointer pl, .func (.func 138) #[] #[], .func (.func 139) #[] #[.pointer (some ⟨c, 0, none⟩)]] w0 fun e w' => e = .returned (.bool true) /\ (∃ a' cap', PS c base (ps ++ l.inord) a' cap' w') /\ Ub base c w w') := fun w0 hb0 => by
   refine (ihl pl ps a cap w0 (tl.upd (Upd.of_below hb0)) (hp.below hb0) (by omega)).mono ?_
   rintro e w' ⟨he, hT, hU⟩
   exact ⟨he, hT, (Upd.of_below hb0).trans hU⟩
  have H1 : Hid (∀ w1, Ub base c w w1 -> (∃ a' cap', PS c base (ps ++ l.inord) a' cap' w1) -> Calls prog 139 #[.pointer (some ⟨b, 0, none⟩), .int .i64 1, .pointer (some ⟨c, 0, none⟩)] w1 fun e w' => e = .returned (.bool true) /\ (∃ a' cap', PS c base (ps ++ l.inord ++ [x]) a' cap' w') /\ Ub base c w w') := fun w1 hu1 ⟨a1, c1, hp1⟩ => by
   refine (cpo_yes c base b _ a1 c1 x pl pr _ w1 hp1 (hb.upd hu1 (fun q => by omega)) hbb.2 hbb.1 (by rw [List.length_append]; omega)).mono ?_
   rintro e w' ⟨he, hp2, hu2⟩
   exact ⟨he, hp2, hu1.trans hu2⟩
  have HR : Hid (∀ w1, Ub base c w w1 -> (∃ a' cap', PS c base (ps ++ l.inord ++ [x]) a' cap' w1) -> Calls prog 134 #[.pointer pr, .func (.func 138) #[] #[], .func (.func 139) #[] #[.pointer (some ⟨c, 0, none⟩)]] w1 fun e w' => e = .returned (.bool true) /\ (∃ a' cap', PS c base (ps ++ (Tr.node l x r).inord) a' cap' w') /\ Ub base c w w') := fun w1 hu1 ⟨a1, c1, hp1⟩ => by
   refine (ihr pr _ a1 c1 w1 (tr.upd hu1) hp1 (by simp only [List.length_append, List.length_cons, List.length_nil]; omega)).mono ?_
   rintro e w' ⟨he, hT, hU⟩
   refine ⟨he, ?_, hu1.trans hU⟩
   have e2 : ps ++ l.inord ++ [x] ++ r.inord = ps ++ (Tr.node l x r).inord := by simp [Tr.inord]
   rw [<- e2]; exact hT
  clear hb hl hr hbs hbb tl tr ihl ihr hp hn hll
  go_enter func134, ntmps134
  go_wp2_with (first | (go_at_call 138; refine HU.mono ?_; rintro e w1 ⟨rfl, rfl⟩) | (go_at_call_of 139 (Value.int .i64 0); refine (H0 _).mono ?_; rintro e w1 ⟨rfl, rfl⟩) | (go_at_call_of 139 (Value.int .i64 1); refine (H1.out _ hu1 hp1).mono ?_; rintro e w2 ⟨rfl, hp2, hu2⟩) | (go_at_call 204; refine HS.mono ?_; rintro e w0 ⟨rfl, hb0⟩) | (go_at_call_of 134 (Value.pointer pl); refine (HL.out _ hb0).mono ?_; rintro e w1 ⟨rfl, hp1, hu1⟩) | (go_at_call_of 134 (Value.pointer pr); refine (HR.out _ hu2 hp2).mono ?_; rintro e w3 ⟨rfl, hp3, hu3⟩) | (go_at_call_of 139 (Value.int .i64 2); refine (H2 _).mono ?_; rintro e w4 ⟨rfl, rfl⟩))
  go_ret
  exact ⟨rfl, hp3, hu3⟩
theorem own2_parg {w : World} {base cap : Nat} {a : Option Addr} {ps : List PairT} (h : w.ownsRow base 34 2 (.slice a ps.length cap) ps.length (flatP ps)) (hs : SmallP ps) : PArg a ps w := by
 refine ⟨hs.1, hs.2, fun hn => ?_⟩
 rcases h.2 with ⟨e, h0⟩ | ⟨g, cap', cur, e, hb, hg, q1, q2, q3, q4⟩
 · omega
 · simp only [Value.slice.injEq] at e
   obtain ⟨rfl, _, _⟩ := e
   refine ⟨g, 0, rfl, (Array.getElem?_eq_some_iff.1 hg).1, fun j hj => ?_⟩
   obtain ⟨e0, e1⟩ := flatP_get ps j hj
   rw [<- q4] at e0 e1
   rw [List.getElem?_take, if_pos (by omega)] at e0 e1
   rw [Nat.zero_add]
   exact ⟨(ZC hg _).trans (by simpa using e0), (ZC hg _).trans (by simpa using e1)⟩
theorem pairsOf_any (f : Tr PairT -> ByteArray × ByteArray) (t : Tr PairT) (p : Option Addr) (w : World) (ht : TA 0 f t p w) (hn : t.size <= 100000) (hsm : SmallP t.inord) :
 Calls prog 104 #[.pointer p] w fun e w' => (∃ a cap, e = .returned (.slice a t.inord.length cap) /\ PArg a t.inord w') /\ Below w.heap.size w w' := by
 obtain ⟨bs, hb⟩ := ht.list
 have hlt := fun k hk => hb.lt k hk
 have hbA : Below w.heap.size w (w.alloc (.cells #[.slice none 0 0] 23)) := (Below.refl _ _).alloc (Nat.le_refl _) _
 have hP : PS w.heap.size (w.heap.size + 1) [] none 0 (w.alloc (.cells #[.slice none 0 0] 23)) := ⟨heap_alloc_new w _, ⟨rfl, .inl ⟨rfl, rfl⟩⟩, Nat.lt_succ_self _, by simp⟩
 have hT : TAb (w.heap.size + 1) w.heap.size f t p (w.alloc (.cells #[.slice none 0 0] 23)) := ⟨bs, hb.upd (M := fun _ => False) (Upd.of_below hbA) (fun _ _ q => q), fun k hk => by have := hlt k hk; omega⟩
 have HW := walk_pairs f w.heap.size (w.heap.size + 1) t p [] none 0 _ hT hP (by simp; omega)
 rw [List.nil_append] at HW
 have hmf : ∀ (fn : Fn) (first cap : Array Value) (w : World), (Instr.makeFunc fn first cap).run prog w = .ok (.func fn first cap) w := fun _ _ _ _ => rfl
 clear hlt hb ht hP hT
 go_enter func104, ntmps104
 go_wp2_with (go_at_call 134; refine HW.mono ?_; rintro e w1 ⟨rfl, ⟨a1, c1, hp1⟩, hu1⟩; have hcell := ZC hp1.blk 0)
 go_ret
 exact ⟨⟨a1, c1, rfl, own2_parg hp1.own hsm⟩, hbA.trans (hu1.below (by simp) (fun k hk => by omega))⟩
end Go.Proofs.YtfmpjlpakldheaaGreatDoor
