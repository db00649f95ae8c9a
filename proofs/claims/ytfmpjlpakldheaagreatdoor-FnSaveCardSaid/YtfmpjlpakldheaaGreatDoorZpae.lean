import Derived.Test.YtfmpjlpakldheaaGreatDoorZpad
import Derived.Laws.MakeOwn
import Derived.Laws.OwnMore
import Derived.Deep.AppendLies
set_option maxRecDepth 100000
set_option maxHeartbeats 2000000
namespace Go.Proofs.YtfmpjlpakldheaaGreatDoor
open Go.RowKit Go.Proofs.Sha Tryz
theorem strNe {t s : ByteArray} (h : ¬ t = s) : (t.toList == s.toList) = false := by
 rw [beq_eq_false_iff_ne]
 intro he
 rw [ByteArray.toList_eq, ByteArray.toList_eq] at he
 exact h (ByteArray.ext (Array.toList_inj.1 he))
theorem firstI_step_no {p : Nat -> Bool} {k : Nat} (h : firstI p k = none) (h1 : p k = false) : firstI p (k + 1) = none := by
 rw [firstI, h, h1]; rfl
theorem firstI_step_yes {p : Nat -> Bool} {k : Nat} (h : firstI p k = none) (h1 : p k = true) : firstI p (k + 1) = some k := by
 rw [firstI, h, h1]; rfl
theorem firstI_up {p : Nat -> Bool} {k i : Nat} (h : firstI p k = some i) (m : Nat) : firstI p (k + m) = some i := by
 induction m with
 | zero => exact h
 | succ m ih => rw [<- Nat.add_assoc, firstI, ih]
theorem firstI_congr {p q : Nat -> Bool} {k : Nat} (h : ∀ j, j < k -> p j = q j) : firstI p k = firstI q k := by
 induction k with
 | zero => rfl
 | succ k ih => rw [firstI, firstI, ih (fun j hj => h j (by omega)), h k (Nat.lt_succ_self k)]
theorem lfind_any (D : Dec) (wd : Nat) (HDd : Hid (DecSaid 148 wd D)) (a : Option Addr) (ss : List ByteArray) (c : Nat) (g c' : Nat) (hs : List ByteArray) (hash : ByteArray) (w : World) (h : SArg a ss w) (_hl : hs.length = ss.length) (hg : g < w.heap.size) (hh : ∀ j, j < ss.length -> w.cell? ⟨g, j, none⟩ = some (.string (hs.getD j ⟨#[]⟩))) :
 Calls prog 116 #[.agg #[.int .i64 (wd : Int), .slice a ss.length c], .slice (some ⟨g, 0, none⟩) ss.length c', .string hash] w fun e w' => e = .returned (nodeT (foundR D ss (firstI (fun i => decide (hs.getD i ⟨#[]⟩ = hash)) ss.length))) /\ Below w.heap.size w w' := by
 have hn := h.le
 obtain ⟨p, hp⟩ : ∃ p : Nat -> Bool, (fun i => decide (hs.getD i ⟨#[]⟩ = hash)) = p := ⟨_, rfl⟩
 obtain ⟨fx, hfx⟩ : ∃ fx, firstI p ss.length = fx := ⟨_, rfl⟩
 obtain ⟨N, hN⟩ : ∃ N, ss.length = N := ⟨_, rfl⟩
 rw [hp, hfx]
 rw [hN] at hn hfx hh
 rw [hN]
 obtain ⟨R, hR⟩ : ∃ R, foundR D ss fx = R := ⟨_, rfl⟩
 rw [hR]
 have hS0 := P2.mk0 w (wd : Int) a N c
 go_enter func116, ntmps116
 go_wp2_with fail
 obtain ⟨ga, hga⟩ : ∃ ga, w.heap.size = ga := ⟨_, rfl⟩
 obtain ⟨gb, hgb⟩ : ∃ gb, w.heap.size + 1 = gb := ⟨_, rfl⟩
 generalize (w.alloc (.cells #[.int .i64 (wd : Int), .slice a N c] 37)).alloc (.cells #[.string ⟨#[]⟩, .string ⟨#[]⟩, .string ⟨#[]⟩, .string ⟨#[]⟩] 128) = W0 at hS0 ⊢
 rw [hgb, hga] at hS0 ⊢
 clear hgb
 replace hga : Hid _ := hga
 go_loopw [8] (fun t8 wr => ∃ k : Nat, k <= N /\ t8 = .int .i64 (k : Int) /\ firstI p k = none /\ P2 w ga gb (wd : Int) a N c wr) (fun t8 _ => N - (intOf t8).toNat)
 case atStart => exact ⟨0, Nat.zero_le _, rfl, rfl, hS0⟩
 case round =>
  clear hS0
  obtain ⟨k, hk, rfl, hf, hS⟩ := hrel
  by_cases hlt : k < N
  · have z1 : decide ((k : Int) < (N : Int)) = true := by simp; omega
    have hx0 : (0 : Int) <= (k : Int) := Int.natCast_nonneg _
    have hx1 : (k : Int) < (N : Int) := by omega
    obtain ⟨x, hx⟩ : ∃ x, hs.getD k ⟨#[]⟩ = x := ⟨_, rfl⟩
    have hcy := (hS.bw.cell hg).trans (hh k hlt)
    rw [hx] at hcy
    have hpk : p k = decide (x = hash) := by rw [<- hp, <- hx]
    by_cases he : x = hash
    · have z2 : (x.toList == hash.toList) = true := by rw [he]; simp
      have hfk : fx = some k := by
       have h1 := firstI_up (firstI_step_yes hf (hpk.trans (decide_eq_true he))) (N - (k + 1))
       rw [show k + 1 + (N - (k + 1)) = N by omega, hfx] at h1
       exact h1
      obtain ⟨b, off, rfl, hbl, hcs⟩ := h.at_ (by omega)
      obtain ⟨s, hs'⟩ : ∃ s, ss.getD k ⟨#[]⟩ = s := ⟨_, rfl⟩
      have hsz : s.size <= 1048576 := by rw [<- hs']; exact h.sz k
      have hR1 : R = if D.ok s then ((D.k s, D.v s, D.l s, D.r s), 0) else ((⟨#[]⟩, ⟨#[]⟩, ⟨#[]⟩, ⟨#[]⟩), 3) := by rw [<- hR, hfk, foundR, hs']
      have hc0 := hcs k (by omega)
      rw [hs'] at hc0
      have hC : Hid (∀ W, P2 w ga gb (wd : Int) (some ⟨b, off, none⟩) N c W -> W.cell? ⟨ga, 1, none⟩ = some (.slice (some ⟨b, off, none⟩) N c) /\ W.cell? ⟨b, off + k, none⟩ = some (.string s) /\ W.cell? ⟨ga, 0, none⟩ = some (.int .i64 (wd : Int))) := fun W hW => ⟨ZC hW.na 1, (hW.bw.cell hbl).trans hc0, ZC hW.na 0⟩
      have hcx := (hS.bw.cell hbl).trans hc0
      have hg3 : Hid (gb < wr.heap.size) := (Array.getElem?_eq_some_iff.1 hS.nb).1
      clear hcs hs' hc0 hpk hf hh hR hfk hfx hp hx _hl hN
      go_upto_region 5 with fail
      clear hcy z1 z2 he
      have d0 := ZC hS.na 0
      have d1 := ZC hS.na 1
      obtain ⟨xk, hxk⟩ : ∃ x, D.k s = x := ⟨_, rfl⟩
      obtain ⟨xv, hxv⟩ : ∃ x, D.v s = x := ⟨_, rfl⟩
      obtain ⟨xl, hxl⟩ : ∃ x, D.l s = x := ⟨_, rfl⟩
      obtain ⟨xr, hxr⟩ : ∃ x, D.r s = x := ⟨_, rfl⟩
      cases hok : D.ok s with
      | true =>
       have HD1 : Hid (∀ w', Calls prog 148 #[.string s, .int .i64 (wd : Int)] w' fun e w'' => e = .returned (.tuple #[.agg #[.string xk, .string xv, .string xl, .string xr], .bool true]) /\ Below w'.heap.size w' w'') := fun w' => by
        have := HDd.out s w' hsz
        rw [hok, hxk, hxv, hxl, hxr] at this
        exact this
       have HR : Hid (R = ((xk, xv, xl, xr), 0)) := by
        show R = _
        rw [hR1, hok, hxk, hxv, hxl, hxr]
        rfl
       clear hxk hxv hxl hxr hok hR1
       go_region_held3 (fun w' => w'.cell? ⟨ga, 1, none⟩ = some (.slice (some ⟨b, off, none⟩) N c) /\ w'.cell? ⟨b, off + k, none⟩ = some (.string s) /\ w'.cell? ⟨ga, 0, none⟩ = some (.int .i64 (wd : Int))) (first | exact ⟨d1, hcx, d0⟩ | exact hC.out _ (hS.below ((Below.refl _ wr).drew.alloc (Nat.le_refl _) _)) | exact hC.out _ hS4 | exact hC.out _ (hS4.set4 hg3.out _ _ _ _) | exact hC.out _ (hS4.below ((Below.refl _ _).alloc (Nat.le_refl _) _))) (first | (go_at_call 148; refine (HD1.out _).mono ?_; rintro e w4 ⟨rfl, hb4⟩; have n4 : NBk wr.heap.size ⟨#[]⟩ ⟨#[]⟩ ⟨#[]⟩ ⟨#[]⟩ w4 := NBk.below (show NBk wr.heap.size ⟨#[]⟩ ⟨#[]⟩ ⟨#[]⟩ ⟨#[]⟩ (wr.drew.alloc (.cells #[.string ⟨#[]⟩, .string ⟨#[]⟩, .string ⟨#[]⟩, .string ⟨#[]⟩] 128)) from heap_alloc_new wr.drew _) hb4; have hS4 := (hS.below ((Below.refl _ wr).drew.alloc (Nat.le_refl _) (.cells #[.string ⟨#[]⟩, .string ⟨#[]⟩, .string ⟨#[]⟩, .string ⟨#[]⟩] 128))).below hb4; clear hb4; obtain ⟨k0, k1, k2, k3, l0, l1, l2, l3⟩ := n4.at) | (go_at_call 148; refine (HD1.out _).mono ?_; rintro e w4 ⟨rfl, hb4⟩; have hS4 := hS.below ((Below.refl wr.heap.size wr).drew.trans hb4); clear hb4))
       all_goals (clear d0 d1 hcx)
       · have n5 : NBk w4.heap.size xk xv xl xr (w4.alloc (.cells #[.string xk, .string xv, .string xl, .string xr] 128)) := heap_alloc_new _ _
         have hS5 := hS4.below ((Below.refl _ w4).alloc (Nat.le_refl _) (.cells #[.string xk, .string xv, .string xl, .string xr] 128))
         generalize w4.alloc (.cells #[.string xk, .string xv, .string xl, .string xr] 128) = W5 at n5 hS5 ⊢
         generalize w4.heap.size = g5 at n5 ⊢
         clear hS4
         obtain ⟨k0, k1, k2, k3, l0, l1, l2, l3⟩ := n5.at
         obtain ⟨c0, c1, c2, c3, f0, f1, f2, f3⟩ := hS5.nb.at
         go_wp2_with fail
         exact retN Tryz.results116 rfl rfl rfl (hS5.nb.all _ _ _ _) ⟨by rw [HR.out], hS5.fin _ _ _ _⟩
       · have n5 := n4.all xk xv xl xr
         have hS5 := hS4.set4 hg3.out (.string xk) (.string xv) (.string xl) (.string xr)
         generalize (((w4.setCell ⟨wr.heap.size, 0, none⟩ (.string xk)).setCell ⟨wr.heap.size, 1, none⟩ (.string xv)).setCell ⟨wr.heap.size, 2, none⟩ (.string xl)).setCell ⟨wr.heap.size, 3, none⟩ (.string xr) = W5 at n5 hS5 ⊢
         generalize wr.heap.size = g5 at n5 ⊢
         clear k0 k1 k2 k3 l0 l1 l2 l3 n4 hS4
         obtain ⟨k0, k1, k2, k3, l0, l1, l2, l3⟩ := n5.at
         obtain ⟨c0, c1, c2, c3, f0, f1, f2, f3⟩ := hS5.nb.at
         go_wp2_with fail
         exact retN Tryz.results116 rfl rfl rfl (hS5.nb.all _ _ _ _) ⟨by rw [HR.out], hS5.fin _ _ _ _⟩
      | false =>
       have HD1 : Hid (∀ w', Calls prog 148 #[.string s, .int .i64 (wd : Int)] w' fun e w'' => e = .returned (.tuple #[.agg #[.string xk, .string xv, .string xl, .string xr], .bool false]) /\ Below w'.heap.size w' w'') := fun w' => by
        have := HDd.out s w' hsz
        rw [hok, hxk, hxv, hxl, hxr] at this
        exact this
       have HR : Hid (R = ((⟨#[]⟩, ⟨#[]⟩, ⟨#[]⟩, ⟨#[]⟩), 3)) := by
        show R = _
        rw [hR1, hok, hxk, hxv, hxl, hxr]
        rfl
       clear hxk hxv hxl hxr hok hR1
       go_region_held3 (fun w' => w'.cell? ⟨ga, 1, none⟩ = some (.slice (some ⟨b, off, none⟩) N c) /\ w'.cell? ⟨b, off + k, none⟩ = some (.string s) /\ w'.cell? ⟨ga, 0, none⟩ = some (.int .i64 (wd : Int))) (first | exact ⟨d1, hcx, d0⟩ | exact hC.out _ (hS.below ((Below.refl _ wr).drew.alloc (Nat.le_refl _) _)) | exact hC.out _ hS4 | exact hC.out _ (hS4.set4 hg3.out _ _ _ _) | exact hC.out _ (hS4.below ((Below.refl _ _).alloc (Nat.le_refl _) _))) (first | (go_at_call 148; refine (HD1.out _).mono ?_; rintro e w4 ⟨rfl, hb4⟩; have n4 : NBk wr.heap.size ⟨#[]⟩ ⟨#[]⟩ ⟨#[]⟩ ⟨#[]⟩ w4 := NBk.below (show NBk wr.heap.size ⟨#[]⟩ ⟨#[]⟩ ⟨#[]⟩ ⟨#[]⟩ (wr.drew.alloc (.cells #[.string ⟨#[]⟩, .string ⟨#[]⟩, .string ⟨#[]⟩, .string ⟨#[]⟩] 128)) from heap_alloc_new wr.drew _) hb4; have hS4 := (hS.below ((Below.refl _ wr).drew.alloc (Nat.le_refl _) (.cells #[.string ⟨#[]⟩, .string ⟨#[]⟩, .string ⟨#[]⟩, .string ⟨#[]⟩] 128))).below hb4; clear hb4; obtain ⟨k0, k1, k2, k3, l0, l1, l2, l3⟩ := n4.at) | (go_at_call 148; refine (HD1.out _).mono ?_; rintro e w4 ⟨rfl, hb4⟩; have hS4 := hS.below ((Below.refl wr.heap.size wr).drew.trans hb4); clear hb4))
       all_goals (clear d0 d1 hcx)
       · have n5 : NBk w4.heap.size xk xv xl xr (w4.alloc (.cells #[.string xk, .string xv, .string xl, .string xr] 128)) := heap_alloc_new _ _
         have hS5 := hS4.below ((Below.refl _ w4).alloc (Nat.le_refl _) (.cells #[.string xk, .string xv, .string xl, .string xr] 128))
         generalize w4.alloc (.cells #[.string xk, .string xv, .string xl, .string xr] 128) = W5 at n5 hS5 ⊢
         generalize w4.heap.size = g5 at n5 ⊢
         clear hS4
         obtain ⟨k0, k1, k2, k3, l0, l1, l2, l3⟩ := n5.at
         obtain ⟨c0, c1, c2, c3, f0, f1, f2, f3⟩ := hS5.nb.at
         go_wp2_with fail
         exact retN Tryz.results116 rfl rfl rfl (hS5.nb.all _ _ _ _) ⟨by rw [HR.out], hS5.fin _ _ _ _⟩
       · have n5 := n4.all xk xv xl xr
         have hS5 := hS4.set4 hg3.out (.string xk) (.string xv) (.string xl) (.string xr)
         generalize (((w4.setCell ⟨wr.heap.size, 0, none⟩ (.string xk)).setCell ⟨wr.heap.size, 1, none⟩ (.string xv)).setCell ⟨wr.heap.size, 2, none⟩ (.string xl)).setCell ⟨wr.heap.size, 3, none⟩ (.string xr) = W5 at n5 hS5 ⊢
         generalize wr.heap.size = g5 at n5 ⊢
         clear k0 k1 k2 k3 l0 l1 l2 l3 n4 hS4
         obtain ⟨k0, k1, k2, k3, l0, l1, l2, l3⟩ := n5.at
         obtain ⟨c0, c1, c2, c3, f0, f1, f2, f3⟩ := hS5.nb.at
         go_wp2_with fail
         exact retN Tryz.results116 rfl rfl rfl (hS5.nb.all _ _ _ _) ⟨by rw [HR.out], hS5.fin _ _ _ _⟩
    · have z2 : (x.toList == hash.toList) = false := strNe he
      have hf' := firstI_step_no hf (hpk.trans (decide_eq_false he))
      clear hpk hx
      go_wp2_with fail
      go_roundw
      case rel => exact ⟨k + 1, hlt, by go_num, hf', hS⟩
      case measure => simp [intOf]; omega
  · obtain rfl : k = N := by omega
    have z1 : decide ((k : Int) < (k : Int)) = false := by simp
    have HR : Hid (R = ((⟨#[]⟩, ⟨#[]⟩, ⟨#[]⟩, ⟨#[]⟩), 2)) := by
     show R = _
     rw [<- hR, <- hfx, hf]
     rfl
    clear hh hR hfx hf hp
    obtain ⟨c0, c1, c2, c3, f0, f1, f2, f3⟩ := hS.nb.at
    go_wp2_with fail
    exact retN Tryz.results116 rfl rfl rfl (hS.nb.all _ _ _ _) ⟨by rw [HR.out], hS.fin _ _ _ _⟩
theorem hashT_hit (wd : Nat) (s hash : ByteArray) : decide (hashT wd s = hash) = decide ((sha (78 :: s.data.toList)).take wd = hash.data.toList) := by
 unfold hashT
 by_cases h : (sha (78 :: s.data.toList)).take wd = hash.data.toList
 · rw [decide_eq_true h, decide_eq_true]
   rw [h]
 · rw [decide_eq_false h, decide_eq_false]
   intro he
   apply h
   rw [<- he]
theorem first_hash (wd : Nat) (ss : List ByteArray) (hash : ByteArray) : firstI (fun i => decide ((ss.map (hashT wd)).getD i ⟨#[]⟩ = hash)) ss.length = firstI (hitB wd ss hash) ss.length := by
 refine firstI_congr fun j hj => ?_
 have h1 : (ss.map (hashT wd)).getD j ⟨#[]⟩ = hashT wd (ss.getD j ⟨#[]⟩) := by
  rw [List.getD_eq_getElem?_getD, List.getElem?_map, List.getD_eq_getElem?_getD, List.getElem?_eq_getElem hj]
  rfl
 rw [h1, hitB, hashT_hit]
theorem wr_in (n : Int) (h : -9223372036854775808 <= n /\ n <= 9223372036854775807) : wrap64 n = n := by unfold wrap64; omega
theorem pblk_below {g : Nat} {o : Obj} {w w' : World} (hb : Below w.heap.size w w') (h : w.heap[g]? = some o) : w'.heap[g]? = some o := (hb.block g (Array.getElem?_eq_some_iff.1 h).1).trans h
theorem retP {fn : Func} {R : Ending -> World -> Prop} {A : Act} {p : Tmp} {gb : Nat} {n : Int} {a : Option Addr} {m c : Nat} {W : World} (hres : fn.results = #[.cell p 37]) (hp : A.tmps.getD p undef = .pointer (some ⟨gb, 0, none⟩)) (hd : A.defers = []) (hn : W.heap[gb]? = some (.cells #[.int .i64 n, .slice a m c] 37))
 (h : R (.returned (.agg #[.int .i64 n, .slice a m c])) W) : bodyPost prog fn R Exit.ret A W := by
 have c0 := ZC hn 0
 have c1 := ZC hn 1
 have hp' : A.tmps[p]?.getD undef = .pointer (some ⟨gb, 0, none⟩) := by simpa using hp
 refine bodyPost_ret (v := .agg #[.int .i64 n, .slice a m c]) ?_ hd h
 simp [results, hres, go_sem, asAddr, hp', c0, c1]
theorem own_cells {w : World} {base g n : Nat} {v : Value} {xs : List Value} (h : w.ownsRow base 9 1 v n xs) (hv : v.ownBlock = some g) : base <= g /\ g < w.heap.size /\ ∃ cur, w.heap[g]? = some (.cells cur 9 (0, 0)) := by
 rcases h.2 with ⟨rfl, _⟩ | ⟨g', cap, cur, rfl, hb, hg, _⟩
 · cases hv
 · obtain rfl : g' = g := Option.some.inj hv
   exact ⟨hb, (Array.getElem?_eq_some_iff.1 hg).1, cur, hg⟩
theorem own_kept {w w' : World} {base n : Nat} {v : Value} {xs : List Value} (h : w.ownsRow base 9 1 v n xs) (hk : ∀ g, v.ownBlock = some g -> g < w.heap.size -> w'.heap[g]? = w.heap[g]?) : w'.ownsRow base 9 1 v n xs := by
 refine ⟨h.1, ?_⟩
 rcases h.2 with ⟨h1, h2⟩ | ⟨g, cap, cur, hv, hb, hg, rest⟩
 · exact .inl ⟨h1, h2⟩
 · exact .inr ⟨g, cap, cur, hv, hb, (hk g (by rw [hv]; rfl) (Array.getElem?_eq_some_iff.1 hg).1).trans hg, rest⟩
theorem own_sarg {w : World} {base n c : Nat} {a : Option Addr} {ss : List ByteArray} (h : w.ownsRow base 9 1 (.slice a ss.length c) n (ss.map Value.string)) (hl : ss.length <= 1048576) (hs : ∀ j, (ss.getD j ⟨#[]⟩).size <= 1048576) : SArg a ss w := by
 refine ⟨hl, hs, fun hn => ?_⟩
 rcases h.2 with ⟨e, h0⟩ | ⟨g, cap, cur, e, hb, hg, q1, q2, q3, q4⟩
 · simp only [Value.slice.injEq] at e; omega
 · simp only [Value.slice.injEq] at e
   obtain ⟨rfl, e2, rfl⟩ := e
   refine ⟨g, 0, rfl, (Array.getElem?_eq_some_iff.1 hg).1, fun j hj => ?_⟩
   rw [Nat.zero_add, cell_of_row w g j cur 9 (0, 0) hg]
   have hx : (ss.map Value.string)[j]? = some (.string (ss.getD j ⟨#[]⟩)) := by
    rw [List.getElem?_map, List.getElem?_eq_getElem hj, List.getD_eq_getElem?_getD, List.getElem?_eq_getElem hj]; rfl
   rw [<- q4, List.getElem?_take, if_pos (by omega)] at hx
   simpa using hx
theorem wrapI_in (x : Int) (h : -9223372036854775808 <= x /\ x <= 9223372036854775807) : IntKind.i64.wrap x = x := by rw [IntKind.wrap_i64]; omega
theorem placesF_app (wd : Nat) (es : List ByteArray) (e : ByteArray) (k : Nat) (hk : k <= es.length) : placesF wd (es ++ [e]) k = placesF wd es k := by
 induction k with
 | zero => rfl
 | succ k ih =>
  rw [placesF, placesF, ih (by omega)]
  congr 2
  rw [List.getD_eq_getElem?_getD, List.getD_eq_getElem?_getD, List.getElem?_append_left (by omega)]
theorem placesF_snoc (wd : Nat) (es : List ByteArray) (e : ByteArray) : placesF wd (es ++ [e]) (es ++ [e]).length = addF (placesF wd es es.length) (cutW wd (sha (78 :: e.data.toList))) (es.length : Int) := by
 rw [List.length_append, List.length_singleton, placesF, placesF_app wd es e es.length (Nat.le_refl _)]
 congr 1
 rw [List.getD_eq_getElem?_getD, List.getElem?_append_right (Nat.le_refl _), Nat.sub_self]
 rfl
structure StockAt (sb r base wd : Nat) (es : List ByteArray) (a : Option Addr) (c : Nat) (w : World) : Prop where
 blk : w.heap[sb]? = some (.cells #[.slice a es.length c, .int .i64 (wd : Int), .map (some r)] 178)
 own : w.ownsRow base 9 1 (.slice a es.length c) es.length (es.map Value.string)
 map : MapF (placesF wd es es.length) r w
 hl : sb < base
 hr : r < base
 hne : sb ≠ r
 hb : base <= w.heap.size
theorem StockAt.below {sb r base wd : Nat} {es : List ByteArray} {a : Option Addr} {c : Nat} {w w' : World} (h : StockAt sb r base wd es a c w) (hb : Below w.heap.size w w') : StockAt sb r base wd es a c w' := by
 have h1 := h.hl
 have h2 := h.hb
 exact ⟨(hb.block sb (by omega)).trans h.blk, own_kept h.own (fun g _ hg => hb.block g hg), h.map.below hb, h1, h.hr, h.hne, Nat.le_trans h2 hb.size⟩
theorem newStock_any (wd : Nat) (w : World) : Calls prog 111 #[.int .i64 (wd : Int)] w fun e w' => ∃ sb r, e = .returned (.pointer (some ⟨sb, 0, none⟩)) /\ StockAt sb r (sb + 1) wd [] none 0 w' /\ Below w.heap.size w w' /\ w.heap.size <= r /\ r < sb := by
 go_enter func111, ntmps111
 go_wp2_with fail
 refine (newP_any (wd : Int) w).mono ?_
 rintro e w1 ⟨r, rfl, hr, hM, hb⟩
 have hrl : r < w1.heap.size := by
  obtain ⟨es, cl, hg, _, _⟩ := hM.is
  exact (Array.getElem?_eq_some_iff.1 hg).1
 have hbA : Below w1.heap.size w1 (w1.alloc (.cells #[.slice none 0 0, .int .i64 (wd : Int), .map (some r)] 178)) := (Below.refl _ _).alloc (Nat.le_refl _) _
 have nA := heap_alloc_new w1 (.cells #[.slice none 0 0, .int .i64 (wd : Int), .map (some r)] 178)
 go_wp2_with fail
 go_ret
 exact ⟨w1.heap.size, r, rfl, ⟨nA, World.ownsRow_nil _ _ _ _, hM.below hbA, by omega, by omega, by omega, by simp⟩, hb.trans (hbA.mono hb.size), hr, hrl⟩
theorem stockAdd_all {K : World -> Prop} (HH : Hid (HashSaid K)) (keep : Hid (∀ w1 w2, K w1 -> Below w1.heap.size w1 w2 -> K w2)) (sb r base wd : Nat) (es : List ByteArray) (a : Option Addr) (c : Nat) (enc : ByteArray) (w : World) (h : StockAt sb r base wd es a c w) (hK : K w) (hs : enc.size <= 1048576) (h1 : wd <= 32) (hlen : es.length <= 1048576) :
 Calls prog 112 #[.pointer (some ⟨sb, 0, none⟩), .string enc] w fun e w' => ∃ a' c', e = .returned (.tuple #[]) /\ StockAt sb r base wd (es ++ [enc]) a' c' w' /\ (∀ n, n <= sb -> n <= r -> Below n w w') /\ ∀ q, q < base -> q ≠ sb -> q ≠ r -> w'.heap[q]? = w.heap[q]? := by
 obtain ⟨F, hF⟩ : ∃ F, placesF wd es es.length = F := ⟨_, rfl⟩
 have HF : Hid (placesF wd (es ++ [enc]) (es ++ [enc]).length = addF F (cutW wd (sha (78 :: enc.data.toList))) (es.length : Int)) := by
  show _ = _
  rw [placesF_snoc, hF]
 obtain ⟨i0, hi0, hz0, hz1, hz2⟩ := info_parts info9
 have hM := h.map
 rw [hF] at hM
 obtain ⟨m, hm⟩ : ∃ m, es.length = m := ⟨_, rfl⟩
 have HAdd : Hid (∀ w', Below w.heap.size w w' -> Calls prog 146 #[.agg #[.int .i64 (wd : Int), .map (some r)], .string enc, .int .i64 (m : Int)] w' fun e w'' => e = .returned (.tuple #[]) /\ MapF (addF F (cutW wd (sha (78 :: enc.data.toList))) (m : Int)) r w'' /\ w'.grownBy w'' (some r)) := fun w' hb => add_any HH wd r F enc _ w' (hM.below hb) (keep.out _ _ hK hb) keep hs h1
 have hblk := h.blk
 have hlb := h.hl
 have hrb := h.hr
 have hne := h.hne
 have hbs := h.hb
 have oA := h.own
 rw [hm] at hblk oA hlen
 have HX : Hid (∀ w5 g4 c4, w5.heap[sb]? = some (.cells #[.slice (some ⟨g4, 0, none⟩) (m + 1) c4, .int .i64 (wd : Int), .map (some r)] 178) →
  w5.ownsRow base 9 1 (.slice (some ⟨g4, 0, none⟩) (m + 1) c4) (m + 1) (es.map Value.string ++ [.string enc]) -> MapF (addF F (cutW wd (sha (78 :: enc.data.toList))) (m : Int)) r w5 -> base <= w5.heap.size →
  StockAt sb r base wd (es ++ [enc]) (some ⟨g4, 0, none⟩) c4 w5) := by
  intro w5 g4 c4 q1 q2 q3 q4
  have hl : (es ++ [enc]).length = m + 1 := by rw [List.length_append, hm]; rfl
  refine ⟨by rw [hl]; exact q1, by rw [hl, List.map_append]; exact q2, ?_, hlb, hrb, hne, q4⟩
  rw [HF.out, hm]; exact q3
 generalize addF F (cutW wd (sha (78 :: enc.data.toList))) (m : Int) = G at HX HAdd
 clear HF hM hF HH keep hK hs h1
 have HC : Hid (∀ W : World, W.heap[sb]? = w.heap[sb]? -> W.cell? ⟨sb, 0, none⟩ = some (.slice a m c) /\ W.cell? ⟨sb, 1, none⟩ = some (.int .i64 (wd : Int)) /\ W.cell? ⟨sb, 2, none⟩ = some (.map (some r))) := fun W hW => by
  have hb := hW.trans hblk
  exact ⟨ZC hb 0, ZC hb 1, ZC hb 2⟩
 have hlt : sb < w.heap.size := by omega
 replace oA : Hid _ := oA
 replace hblk : Hid _ := hblk
 replace hi0 : Hid _ := hi0
 replace hz0 : Hid _ := hz0
 replace hz1 : Hid _ := hz1
 replace hz2 : Hid _ := hz2
 clear h hm
 go_enter func112, ntmps112
 go_wp2_with fail
 go_region_held3 (fun W => W.cell? ⟨sb, 0, none⟩ = some (.slice a m c) /\ W.cell? ⟨sb, 1, none⟩ = some (.int .i64 (wd : Int)) /\ W.cell? ⟨sb, 2, none⟩ = some (.map (some r))) (first | exact HC.out _ rfl | exact HC.out _ hlb1) (first | (go_at_call 146; refine (HAdd.out _ (Below.refl w.heap.size w).drew).mono ?_; rintro e w1 ⟨rfl, hM1, hg1'⟩; have hg1 : w.grownBy w1 (some r) := grownBy_trans (grownBy_of_below (Below.refl w.heap.size w).drew _) hg1'; have hlb1 : w1.heap[sb]? = w.heap[sb]? := hg1.block sb hlt (fun e => hne (Option.some.inj e)); clear hg1'))
 have hb1 := hlb1.trans hblk.out
 have oA1 : w1.ownsRow base 9 1 (.slice a m c) m (es.map Value.string) := own_kept oA.out (fun g hv hg => hg1.block g hg (fun e => by have := Option.some.inj e; have := (own_cells oA.out hv).1; omega))
 have hs1 := hg1.size
 have c3 := ZC hb1 0
 have hbA : Below w1.heap.size w1 (w1.alloc (.cells #[.string enc] 9)) := (Below.refl _ _).alloc (Nat.le_refl _) _
 clear HAdd HC
 go_wp2_with (first | (refine wpList_append_lies _ rfl (.tmp 19) (.tmp 21) 35 rfl base 9 i0 (.string ⟨#[]⟩) 1 16 Tryz.underlying35 hi0.out hz0.out hz1.out hz2.out rfl (by decide) _ m (es.map Value.string) rfl (oA1.alloc _) ⟨w1.heap.size, 0, none⟩ 1 1 [.string enc] rfl rfl (World.news_of_block (heap_alloc_new w1 _)) (by simp [Value.oneCell']) (by decide) (by unfold maxLen; omega) (by omega) (by simp; omega) (w1.heap.size + 1) (by simp) ?_; intro g4 c4 w4 hown4 hgrow4 hat4 hlt4; have hb4 := (hgrow4.block sb (by simp; omega) (fun e => by have := (own_cells oA1 e.symm).1; omega)).trans ((hbA.block sb (by omega)).trans hb1); have k3 := ZC hb4 0; have f3 : w4.frozen? ⟨sb, 0, none⟩ = false := by rw [World.frozen?, hb4]; rfl))
 go_end0
 obtain ⟨w5, hw5⟩ : ∃ w5, w5 = w4.setCell ⟨sb, 0, none⟩ (.slice (some ⟨g4, 0, none⟩) (m + 1) c4) := ⟨_, rfl⟩
 have hs4 := hgrow4.size
 simp at hs4
 have hg5 := grownBy_setCell w4 sb 0 (.slice (some ⟨g4, 0, none⟩) (m + 1) c4)
 have hs5 := hg5.size
 have hg4b : base <= g4 := (own_cells hown4 rfl).1
 rw [<- hw5] at hg5 hs5
 refine ⟨some ⟨g4, 0, none⟩, c4, rfl, ?_, ?_, ?_⟩
 · rw [<- hw5]
   refine HX.out w5 g4 c4 (by rw [hw5]; exact heap_setCell_same w4 sb 0 _ 178 _ hb4) (own_kept hown4 (fun g hv hg => by have e : g4 = g := Option.some.inj hv; exact hg5.block g hg (fun e' => by have := Option.some.inj e'; omega))) ?_ (by omega)
   have hMa := hM1.below hbA
   have hMb : MapF G r w4 := by
    obtain ⟨es', cl, hh, q1, q2⟩ := hMa.is
    exact ⟨es', cl, (hgrow4.block r (Array.getElem?_eq_some_iff.1 hh).1 (fun e => by have := (own_cells oA1 e.symm).1; omega)).trans hh, q1, q2⟩
   exact hMb.kept hg5 (fun e => hne e.symm)
 · rw [<- hw5]
   intro n hn1 hn2
   have b1 : Below n w w1 := below_of_grown hg1 hn2 (by omega)
   have b2 : Below n w1 (w1.alloc (.cells #[.string enc] 9)) := hbA.mono (by omega)
   have b3 : Below n (w1.alloc (.cells #[.string enc] 9)) w4 := ⟨hgrow4.os, hgrow4.tape, hgrow4.output, hgrow4.size, fun k hk => hgrow4.block k (by simp; omega) (fun e => by have := (own_cells oA1 e.symm).1; omega)⟩
   have b4 : Below n w4 w5 := below_of_grown hg5 hn1 (by omega)
   exact ((b1.trans b2).trans b3).trans b4
 · rw [<- hw5]
   intro q hq hq1 hq2
   have e1 := hg1.block q (by omega) (fun e => hq2 (Option.some.inj e))
   have e2 := hbA.block q (by omega)
   have e3 := hgrow4.block q (by simp; omega) (fun e => by have := (own_cells oA1 e.symm).1; omega)
   have e4 := hg5.block q (by omega) (fun e => hq1 (Option.some.inj e))
   exact ((e4.trans e3).trans e2).trans e1
theorem stockAdd_any {K : World -> Prop} (HH : Hid (HashSaid K)) (keep : Hid (∀ w1 w2, K w1 -> Below w1.heap.size w1 w2 -> K w2)) (sb r base wd : Nat) (es : List ByteArray) (a : Option Addr) (c : Nat) (enc : ByteArray) (w : World) (h : StockAt sb r base wd es a c w) (hK : K w) (hs : enc.size <= 1048576) (h1 : wd <= 32) (hlen : es.length <= 1048576) :
 Calls prog 112 #[.pointer (some ⟨sb, 0, none⟩), .string enc] w fun e w' => ∃ a' c', e = .returned (.tuple #[]) /\ StockAt sb r base wd (es ++ [enc]) a' c' w' /\ ∀ n, n <= sb -> n <= r -> Below n w w' :=
 (stockAdd_all HH keep sb r base wd es a c enc w h hK hs h1 hlen).mono (by rintro e w' ⟨a', c', he, q1, q2, _⟩; exact ⟨a', c', he, q1, q2⟩)
end Go.Proofs.YtfmpjlpakldheaaGreatDoor
