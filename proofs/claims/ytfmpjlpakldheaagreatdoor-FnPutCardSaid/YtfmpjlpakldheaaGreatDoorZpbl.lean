import Derived.Test.YtfmpjlpakldheaaGreatDoorZpbk
import Derived.Test.YtfmpjlpakldheaaGreatDoorZpbj
import Derived.Test.YtfmpjlpakldheaaGreatDoorZpbb
set_option maxRecDepth 100000
set_option maxHeartbeats 2000000
namespace Go.Proofs.YtfmpjlpakldheaaGreatDoor
open Tryz
open Go.RowKit Go.Proofs.Sha
theorem chgP_any (HH : Hid (HashSaid KTab)) (D : Dec) (n : Int) (HD : Hid (∀ wd : Nat, (wd : Int) = n -> 1 <= wd -> wd <= 32 -> DecSaid 181 wd D)) (hdo : ∀ wd : Nat, (wd : Int) = n -> DecOk wd D) (a : Option Addr) (ss : List ByteArray) (c : Nat) (root : ByteArray) (ck cv : Nat) (w : World) (h : SArg a ss w) (hK : KTab w) (hr : root.size <= 1048576) (cf : List PairT -> Int) (tf : List PairT -> List PairT)
 (HC : Hid (∀ (wd : Nat) ps, (wd : Int) = n -> KeysUp (keys ps) -> ps.length <= 500 -> SmallP ps -> (∀ p ∈ ps, okKey p.1 = true /\ okVal p.2 = true) -> (cf ps = 0 -> Apart (tf ps) /\ ∀ x ∈ tf ps, x.1.size <= 1048576 /\ x.2.size <= 1048576) /\ ∀ n0 p w1, Below w.heap.size w w1 -> n0 <= w1.heap.size -> TA n0 bare (cutTree ps) p w1 -> Calls prog 62 #[.pointer p, .pointer (some ⟨ck, 0, none⟩), .pointer (some ⟨cv, 0, none⟩)] w1 fun e w2 => ∃ q, e = .returned (.tuple #[.pointer q, .int .i64 (cf ps)]) /\ (cf ps = 0 -> TA n0 bare (cutTree (tf ps)) q w2) /\ Below w1.heap.size w1 w2)) :
 Calls prog 61 #[.agg #[.int .i64 n, .slice a ss.length c], .string root, .func (.func 62) #[] #[.pointer (some ⟨ck, 0, none⟩), .pointer (some ⟨cv, 0, none⟩)]] w (SavedIs (chgO n ss (rangeM (fndD D n.toNat ss) n ss.length root ⟨#[]⟩ ⟨#[]⟩) (cf (rangeM (fndD D n.toNat ss) n ss.length root ⟨#[]⟩ ⟨#[]⟩).1) (tf (rangeM (fndD D n.toNat ss) n ss.length root ⟨#[]⟩ ⟨#[]⟩).1)) w) := by
 have HV : Hid (∀ w', Calls prog 68 #[.agg #[.int .i64 n, .slice a ss.length c]] w' fun e w'' => e = .returned (.bool (poolOk n ss.length)) /\ Below w'.heap.size w' w'') := fun w' => validPool_any n a ss.length c w' h.le
 have hbA : Below w.heap.size w ((w.alloc (.cells #[.int .i64 n, .slice a ss.length c] 37)).alloc (.cells #[.int .i64 0, .int .i64 0, .slice none 0 0, .string ⟨#[]⟩, .string ⟨#[]⟩, .string ⟨#[]⟩] 40)) := ((Below.refl _ _).alloc (Nat.le_refl _) _).alloc (by simp) _
 have nB := heap_alloc_new (w.alloc (.cells #[.int .i64 n, .slice a ss.length c] 37)) (.cells #[.int .i64 0, .int .i64 0, .slice none 0 0, .string ⟨#[]⟩, .string ⟨#[]⟩, .string ⟨#[]⟩] 40)
 have nA := (Below.heap_alloc (w.alloc (.cells #[.int .i64 n, .slice a ss.length c] 37)) (.cells #[.int .i64 0, .int .i64 0, .slice none 0 0, .string ⟨#[]⟩, .string ⟨#[]⟩, .string ⟨#[]⟩] 40) w.heap.size (by simp)).trans (heap_alloc_new w _)
 rw [World.size_alloc] at nB
 obtain ⟨gp, hgp⟩ : ∃ g, w.heap.size = g := ⟨_, rfl⟩
 have hge' : w.heap.size <= gp + 1 := by omega
 obtain ⟨X, hX⟩ : ∃ X, rangeM (fndD D n.toNat ss) n ss.length root ⟨#[]⟩ ⟨#[]⟩ = X := ⟨_, rfl⟩
 rw [hX]
 obtain ⟨O, hO⟩ : ∃ O, chgO n ss X (cf X.1) (tf X.1) = O := ⟨_, rfl⟩
 rw [hO]
 have HO : Hid (chgO n ss X (cf X.1) (tf X.1) = O) := hO
 clear hO
 go_enter func61, ntmps61
 go_upto_region 1 with fail
 generalize ((w.alloc (.cells #[.int .i64 n, .slice a ss.length c] 37)).alloc (.cells #[.int .i64 0, .int .i64 0, .slice none 0 0, .string ⟨#[]⟩, .string ⟨#[]⟩, .string ⟨#[]⟩] 40)) = wA at hbA nA nB ⊢
 try rw [hgp]
 rw [hgp] at nA nB
 have p0 := ZC nA 0
 have p1 := ZC nA 1
 have HB : Hid (∀ W, Below wA.heap.size wA W -> Below w.heap.size w W /\ SB (gp + 1) 0 0 none 0 0 ⟨#[]⟩ ⟨#[]⟩ ⟨#[]⟩ W /\ W.cell? ⟨gp, 0, none⟩ = some (.int .i64 n) /\ W.cell? ⟨gp, 1, none⟩ = some (.slice a ss.length c)) := fun W hW => ⟨hbA.trans (hW.mono hbA.size), pblk_below hW nB, ZC (pblk_below hW nA) 0, ZC (pblk_below hW nA) 1⟩
 cases hp : poolOk n ss.length with
 | false =>
  have ho : Hid (O = codeO 1) := by
   show _ = _
   rw [<- HO.out, <- hX, rangeM_bad (by rw [hp]; rfl)]
   rfl
  rw [hp] at HV
  clear h hK HH HC HD HO hX
  go_wp2_with (first | (go_at_call 68; refine (HV.out _).mono ?_; rintro e w1 ⟨rfl, hb1⟩; obtain ⟨hbw, hB1, _, _⟩ := HB.out _ hb1; obtain ⟨d0, d1, d2, d3, d4, d5, df⟩ := hB1.at))
  exact retS Tryz.results61 rfl rfl (hB1.all 1 0 none 0 0 ⟨#[]⟩ ⟨#[]⟩ ⟨#[]⟩) (by rw [ho.out]; exact SavedIs.code hbw hB1 hge')
 | true =>
  rw [hp] at HV
  have hp' : 1 <= n /\ n <= 32 /\ ss.length <= 20000 := of_decide_eq_true hp
  obtain ⟨wd, rfl⟩ : ∃ wd : Nat, n = (wd : Int) := ⟨n.toNat, by omega⟩
  have hfo : FndOk wd (fndD D wd ss) := fndD_ok D wd ss (hdo wd rfl)
  have hup : KeysUp (keys X.1) := by rw [<- hX]; exact rangeM_up (wd := wd) (by rw [Int.toNat_natCast]; exact hfo) _ _ _ _ _
  have hsm : X.1.length <= 500 /\ SmallP X.1 := by rw [<- hX]; exact rangeM_small (wd := wd) (by rw [Int.toNat_natCast]; exact hfo) _ _ _ _ _
  have hok : ∀ p ∈ X.1, okKey p.1 = true /\ okVal p.2 = true := by
   intro p hpm
   rw [<- hX, Int.toNat_natCast] at hpm
   unfold rangeM at hpm
   split at hpm
   · split at hpm
     · exact goF_ok hfo _ _ _ _ _ _ p hpm
     · cases hpm
   · cases hpm
  obtain ⟨hap, HCr⟩ := HC.out wd X.1 rfl hup hsm.1 hsm.2 hok
  have hrM : X = (if hashOk root.size (wd : Int) = true then (if (goF (fndD D wd ss) hgW ⟨#[]⟩ ⟨#[]⟩ 501 root ⟨#[]⟩ ⟨#[]⟩ ⟨#[]⟩ 0).1 = 0 then ((goF (fndD D wd ss) hgW ⟨#[]⟩ ⟨#[]⟩ 501 root ⟨#[]⟩ ⟨#[]⟩ ⟨#[]⟩ 0).2.2, (0 : Int)) else ([], (goF (fndD D wd ss) hgW ⟨#[]⟩ ⟨#[]⟩ 501 root ⟨#[]⟩ ⟨#[]⟩ ⟨#[]⟩ 0).1)) else ([], 1)) := by
   rw [<- hX]
   unfold rangeM
   rw [hp, Bool.true_and, Int.toNat_natCast]
  have HS : Hid (∀ w', Below w.heap.size w w' -> Calls prog 70 #[.agg #[.int .i64 (wd : Int), .slice a ss.length c]] w' fun e w'' => ∃ sb r a' c', e = .returned (.pointer (some ⟨sb, 0, none⟩)) /\ StockAt sb r (sb + 1) wd ss a' c' w'' /\ Below w'.heap.size w' w'') := fun w' hb => stockOf_any HH (fun w1 w2 h1 hb => KTab.below h1 hb) wd a ss c w' (h.below hb) (hK.below hb) (by omega)
  have HL : Hid (∀ w1 sb r a' c', Below w.heap.size w w1 -> StockAt sb r (sb + 1) wd ss a' c' w1 -> Calls prog 69 #[.pointer (some ⟨sb, 0, none⟩), .string root] w1 fun e w2 => ∃ a3 c3, e = .returned (.tuple #[.slice a3 X.1.length c3, .int .i64 X.2]) /\ PArg a3 X.1 w2 /\ Below w1.heap.size w1 w2) := fun w1 sb r a' c' hb1 hs => by
   have := ld_any (fndD D wd ss) wd hfo sb root _ _ w1 hs.blk hr (fun hash w' hh hb' => stockFind_any D sb r (sb + 1) wd (HD.out wd rfl (by omega) (by omega)) ss a' c' hash w' (hs.below hb') h.sz (by have := h.le; omega) (by omega) hh) (fun k w' hk hb' => rank_any k w' (by unfold okKey at hk; have := of_decide_eq_true hk; omega) ((hK.below hb1).below hb'))
   rw [<- hrM] at this
   refine this.mono ?_
   rintro e w2 ⟨⟨a3, c3, he, ho⟩, hb2⟩
   exact ⟨a3, c3, he, own_parg ho hsm.2, hb2⟩
  have HT : Hid (∀ a3 c3 w', Below w.heap.size w w' -> PArg a3 X.1 w' -> Calls prog 82 #[.slice a3 X.1.length c3] w' fun e w'' => ∃ p, e = .returned (.pointer p) /\ TA w'.heap.size bare (cutTree X.1) p w'' /\ Below w'.heap.size w' w'') := fun a3 c3 w' hb hpa => by
   have := treeOf_any rank_said (fun w1 w2 k hb => KTab.below k hb) a3 X.1 c3 w' hpa (hK.below hb)
   rw [merged_cut X.1 (ku_apart hup)] at this
   exact this
  have HX : Hid (cf X.1 = 0 -> ∀ w3 w5 sb r a' c' q, Below w.heap.size w w3 -> SB (gp + 1) 0 0 none 0 0 ⟨#[]⟩ ⟨#[]⟩ ⟨#[]⟩ w3 -> StockAt sb r (sb + 1) wd ss a' c' w3 -> TA w3.heap.size bare (cutTree (tf X.1)) q w5 -> Below w3.heap.size w3 w5 -> Calls prog 81 #[.pointer (some ⟨sb, 0, none⟩), .pointer q] w5 fun e W => ∃ a m c, e = .returned (svV (savO wd ss (cutTree (tf X.1))).cd (savO wd ss (cutTree (tf X.1))).n a m c (savO wd ss (cutTree (tf X.1))).root (savO wd ss (cutTree (tf X.1))).x (savO wd ss (cutTree (tf X.1))).y) /\ SB (gp + 1) 0 0 none 0 0 ⟨#[]⟩ ⟨#[]⟩ ⟨#[]⟩ W /\ SavedIs (savO wd ss (cutTree (tf X.1))) w (.returned (svV (savO wd ss (cutTree (tf X.1))).cd (savO wd ss (cutTree (tf X.1))).n a m c (savO wd ss (cutTree (tf X.1))).root (savO wd ss (cutTree (tf X.1))).x (savO wd ss (cutTree (tf X.1))).y)) (set6 W (gp + 1) (savO wd ss (cutTree (tf X.1))).cd (savO wd ss (cutTree (tf X.1))).n a m c (savO wd ss (cutTree (tf X.1))).root (savO wd ss (cutTree (tf X.1))).x (savO wd ss (cutTree (tf X.1))).y)) := fun hcf w3 w5 sb r a' c' q hb3 hB3 hS3 hT5 hb5 => by
   obtain ⟨ha, hsz⟩ := hap hcf
   have hin := cutTree_inord (tf X.1)
   refine (saved_any HH sb r (sb + 1) wd ss a' c' (cutTree (tf X.1)) q w3.heap.size w3 w5 hb5 (Nat.le_refl _) (fun W hW => hS3.below (hb5.trans hW)) (fun W hW => (hK.below hb3).below (hb5.trans hW)) hb5.size hT5 (by rw [hin]; exact ha) (by rw [hin]; exact hsz) hp'.2.2 h.sz (by omega) (by omega)).mono ?_
   intro e W hE
   exact SavedIs.put hE hb3 hB3 (by omega)
  have HCc : Hid _ := HCr
  clear HCr
  obtain ⟨qs, hqs⟩ : ∃ qs, tf X.1 = qs := ⟨_, rfl⟩
  obtain ⟨cd, hcd⟩ : ∃ cd, cf X.1 = cd := ⟨_, rfl⟩
  rw [hqs, hcd] at HX HCc HO
  obtain ⟨ps, xc⟩ := X
  dsimp only at HX HCc HO HL HT
  obtain ⟨K, hKK⟩ : ∃ K, ps.length = K := ⟨_, rfl⟩
  rw [hKK] at HL HT
  clear h hK HH HC HD hX hrM hup hsm hok hap hqs hcd hKK hp'
  by_cases hx : xc = 0
  · subst hx
    by_cases hc0 : cd = 0
    · subst hc0
      have ho : Hid (O = savO wd ss (cutTree qs)) := by
       show _ = _
       rw [<- HO.out]
       rfl
      have HX' := HX.out rfl
      generalize savO wd ss (cutTree qs) = O' at HX' ho
      obtain ⟨od, on, oxs, oroot, ox, oy⟩ := O'
      dsimp only at HX'
      have HX'' : Hid _ := HX'
      clear HX HX' HO
      go_wp2_with (first | (go_at_call 68; refine (HV.out _).mono ?_; rintro e w1 ⟨rfl, hb1⟩; obtain ⟨hbw1, hB1, q0, q1⟩ := HB.out _ hb1) | (go_at_call 70; refine (HS.out _ hbw1).mono ?_; rintro e w2 ⟨sb, r, a2, c2, rfl, hS2, hb2⟩; have hB2 : SB (gp + 1) 0 0 none 0 0 ⟨#[]⟩ ⟨#[]⟩ ⟨#[]⟩ w2 := pblk_below hb2 hB1; have hbw2 := hbw1.trans (hb2.mono hbw1.size); clear q0 q1) | (go_at_call 69; refine (HL.out _ _ _ _ _ hbw2 hS2).mono ?_; rintro e w3 ⟨a3, c3, rfl, hP3, hb3⟩; have hB3 : SB (gp + 1) 0 0 none 0 0 ⟨#[]⟩ ⟨#[]⟩ ⟨#[]⟩ w3 := pblk_below hb3 hB2; have hbw3 := hbw2.trans (hb3.mono hbw2.size); have hS3 := hS2.below hb3) | (go_at_call 82; refine (HT.out _ _ _ hbw3 hP3).mono ?_; rintro e w4 ⟨p4, rfl, hT4, hb4⟩; have hbw4 := hbw3.trans (hb4.mono hbw3.size); have hs4 := hb4.size) | (go_at_call 62; refine (HCc.out _ _ _ hbw4 hs4 hT4).mono ?_; rintro e w5 ⟨q5, rfl, hT5, hb5⟩; have hb35 := hb4.trans (hb5.mono hs4)) | (go_at_call 81; refine (HX''.out _ _ _ _ _ _ _ hbw3 hB3 hS3 (hT5 (by trivial)) hb35).mono ?_; rintro e w6 ⟨a6, m6, c6, rfl, hB6, hF6⟩; obtain ⟨d0, d1, d2, d3, d4, d5, df⟩ := hB6.at))
      exact retS Tryz.results61 rfl rfl (hB6.all od on a6 m6 c6 oroot ox oy) (by rw [ho.out]; exact hF6)
    · have ho : Hid (O = codeO cd) := by
       show _ = _
       rw [<- HO.out]
       unfold chgO
       rw [if_neg (by simp), if_pos hc0]
      have zc : (cd != 0) = true := by simp [hc0]
      clear HX HO hc0
      go_wp2_with (first | (go_at_call 68; refine (HV.out _).mono ?_; rintro e w1 ⟨rfl, hb1⟩; obtain ⟨hbw1, hB1, q0, q1⟩ := HB.out _ hb1) | (go_at_call 70; refine (HS.out _ hbw1).mono ?_; rintro e w2 ⟨sb, r, a2, c2, rfl, hS2, hb2⟩; have hB2 : SB (gp + 1) 0 0 none 0 0 ⟨#[]⟩ ⟨#[]⟩ ⟨#[]⟩ w2 := pblk_below hb2 hB1; have hbw2 := hbw1.trans (hb2.mono hbw1.size); clear q0 q1) | (go_at_call 69; refine (HL.out _ _ _ _ _ hbw2 hS2).mono ?_; rintro e w3 ⟨a3, c3, rfl, hP3, hb3⟩; have hB3 : SB (gp + 1) 0 0 none 0 0 ⟨#[]⟩ ⟨#[]⟩ ⟨#[]⟩ w3 := pblk_below hb3 hB2; have hbw3 := hbw2.trans (hb3.mono hbw2.size)) | (go_at_call 82; refine (HT.out _ _ _ hbw3 hP3).mono ?_; rintro e w4 ⟨p4, rfl, hT4, hb4⟩; have hbw4 := hbw3.trans (hb4.mono hbw3.size); have hs4 := hb4.size) | (go_at_call 62; refine (HCc.out _ _ _ hbw4 hs4 hT4).mono ?_; rintro e w5 ⟨q5, rfl, _, hb5⟩; have hB5 : SB (gp + 1) 0 0 none 0 0 ⟨#[]⟩ ⟨#[]⟩ ⟨#[]⟩ w5 := pblk_below hb5 (pblk_below hb4 hB3); have hbw5 := hbw4.trans (hb5.mono hbw4.size); obtain ⟨d0, d1, d2, d3, d4, d5, df⟩ := hB5.at))
      exact retS Tryz.results61 rfl rfl (hB5.all cd 0 none 0 0 ⟨#[]⟩ ⟨#[]⟩ ⟨#[]⟩) (by rw [ho.out]; exact SavedIs.code hbw5 hB5 hge')
  · have ho : Hid (O = codeO xc) := by
     show _ = _
     rw [<- HO.out]
     unfold chgO
     rw [if_pos hx]
    have zc : (xc != 0) = true := by simp [hx]
    clear HX HO HCc HT
    go_wp2_with (first | (go_at_call 68; refine (HV.out _).mono ?_; rintro e w1 ⟨rfl, hb1⟩; obtain ⟨hbw1, hB1, q0, q1⟩ := HB.out _ hb1) | (go_at_call 70; refine (HS.out _ hbw1).mono ?_; rintro e w2 ⟨sb, r, a2, c2, rfl, hS2, hb2⟩; have hB2 : SB (gp + 1) 0 0 none 0 0 ⟨#[]⟩ ⟨#[]⟩ ⟨#[]⟩ w2 := pblk_below hb2 hB1; have hbw2 := hbw1.trans (hb2.mono hbw1.size); clear q0 q1) | (go_at_call 69; refine (HL.out _ _ _ _ _ hbw2 hS2).mono ?_; rintro e w3 ⟨a3, c3, rfl, hP3, hb3⟩; have hB3 : SB (gp + 1) 0 0 none 0 0 ⟨#[]⟩ ⟨#[]⟩ ⟨#[]⟩ w3 := pblk_below hb3 hB2; have hbw3 := hbw2.trans (hb3.mono hbw2.size); obtain ⟨d0, d1, d2, d3, d4, d5, df⟩ := hB3.at))
    exact retS Tryz.results61 rfl rfl (hB3.all xc 0 none 0 0 ⟨#[]⟩ ⟨#[]⟩ ⟨#[]⟩) (by rw [ho.out]; exact SavedIs.code hbw3 hB3 hge')
theorem wout_mem {ps : List PairT} {k : ByteArray} {p : PairT} (h : p ∈ wout ps k) : p ∈ ps := (List.mem_filter.1 h).1
theorem ins_mem {k v : ByteArray} : ∀ {ps : List PairT} {p : PairT}, p ∈ ins k v ps -> p = (k, v) \/ p ∈ ps
 | [], p, h => .inl (List.mem_singleton.1 h)
 | q :: qs, p, h => by
  rw [ins] at h
  split at h
  · exact List.mem_cons.1 h
  · rcases List.mem_cons.1 h with h | h
    · exact .inr (by rw [h]; exact List.mem_cons_self ..)
    · rcases ins_mem h with h | h
      · exact .inl h
      · exact .inr (List.mem_cons_of_mem _ h)
theorem ins_len (k v : ByteArray) : ∀ (ps : List PairT), (ins k v ps).length = ps.length + 1
 | [] => rfl
 | q :: qs => by
  rw [ins]
  split
  · rfl
  · rw [List.length_cons, ins_len k v qs]; rfl
theorem wth_mem {ps : List PairT} {k v : ByteArray} {p : PairT} (h : p ∈ wth ps k v) : p = (k, v) \/ p ∈ ps := by
 rcases ins_mem h with h | h
 · exact .inl h
 · exact .inr (wout_mem h)
theorem wthLen (ps : List PairT) (k v : ByteArray) : (wth ps k v).length <= ps.length + 1 := by
 unfold wth
 rw [ins_len]
 have := wout_le ps k
 omega
theorem smallP_of {ps : List PairT} (h : ps.length <= 1048576) (hs : ∀ p ∈ ps, p.1.size <= 1048576 /\ p.2.size <= 1048576) : SmallP ps := by
 refine ⟨h, fun j => ?_⟩
 by_cases hj : j < ps.length
 · rw [getD_lt ps j hj]
   exact hs _ (List.getElem_mem _)
 · rw [pget_out ps j (by omega)]
   exact noP_small
theorem smallP_mem {ps : List PairT} (h : SmallP ps) : ∀ p ∈ ps, p.1.size <= 1048576 /\ p.2.size <= 1048576 := fun p hp => by
 obtain ⟨i, hi, rfl⟩ := List.getElem_of_mem hp
 have := h.2 i
 rw [getD_lt ps i hi] at this
 exact this
def delO (D : Dec) (n : Int) (ss : List ByteArray) (root key : ByteArray) : SvO := chgO n ss (rangeM (fndD D n.toNat ss) n ss.length root ⟨#[]⟩ ⟨#[]⟩) (if okKey key = true then 0 else 1) (wout (rangeM (fndD D n.toNat ss) n ss.length root ⟨#[]⟩ ⟨#[]⟩).1 key)
def putO (D : Dec) (n : Int) (ss : List ByteArray) (root key val : ByteArray) : SvO := chgO n ss (rangeM (fndD D n.toNat ss) n ss.length root ⟨#[]⟩ ⟨#[]⟩) (putCd key val (rangeM (fndD D n.toNat ss) n ss.length root ⟨#[]⟩ ⟨#[]⟩).1) (wth (rangeM (fndD D n.toNat ss) n ss.length root ⟨#[]⟩ ⟨#[]⟩).1 key val)
theorem chgD (HH : Hid (HashSaid KTab)) (D : Dec) (n : Int) (HD : Hid (∀ wd : Nat, (wd : Int) = n -> 1 <= wd -> wd <= 32 -> DecSaid 181 wd D)) (hdo : ∀ wd : Nat, (wd : Int) = n -> DecOk wd D) (a : Option Addr) (ss : List ByteArray) (c : Nat) (root key : ByteArray) (ck : Nat) (w : World) (h : SArg a ss w) (hK : KTab w) (hr : root.size <= 1048576) (hk : key.size <= 1048576) (hc : w.cell? ⟨ck, 0, none⟩ = some (.string key)) :
 Calls prog 61 #[.agg #[.int .i64 n, .slice a ss.length c], .string root, .func (.func 66) #[] #[.pointer (some ⟨ck, 0, none⟩)]] w (SavedIs (delO D n ss root key) w) := by
 refine chgD_any HH D n HD hdo a ss c root ck w h hK hr (fun _ => if okKey key = true then 0 else 1) (fun ps => wout ps key) ?_
 intro wd ps _ hku hlen hsm hok
 refine ⟨fun _ => ⟨ku_apart (ku_wout hku key), fun x hx => smallP_mem hsm x (wout_mem hx)⟩, fun n0 p w1 hb h0 ht => ?_⟩
 refine (delC_any key hk ck n0 ps hku p w1 h0 ht ((hb.cell (World.block_lt_of_cell? w _ hc)).trans hc)).mono ?_
 rintro e w2 ⟨q, he, hq, hb2⟩
 refine ⟨q, he, fun q0 => hq ?_, hb2⟩
 cases ho : okKey key with
 | true => rfl
 | false => rw [ho] at q0; cases q0
theorem chgP (HH : Hid (HashSaid KTab)) (D : Dec) (n : Int) (HD : Hid (∀ wd : Nat, (wd : Int) = n -> 1 <= wd -> wd <= 32 -> DecSaid 181 wd D)) (hdo : ∀ wd : Nat, (wd : Int) = n -> DecOk wd D) (a : Option Addr) (ss : List ByteArray) (c : Nat) (root key val : ByteArray) (ck cv : Nat) (w : World) (h : SArg a ss w) (hK : KTab w) (hr : root.size <= 1048576) (hk : key.size <= 1048576) (hv : val.size <= 1048576) (hc : w.cell? ⟨ck, 0, none⟩ = some (.string key)) (hc2 : w.cell? ⟨cv, 0, none⟩ = some (.string val)) :
 Calls prog 61 #[.agg #[.int .i64 n, .slice a ss.length c], .string root, .func (.func 62) #[] #[.pointer (some ⟨ck, 0, none⟩), .pointer (some ⟨cv, 0, none⟩)]] w (SavedIs (putO D n ss root key val) w) := by
 refine chgP_any HH D n HD hdo a ss c root ck cv w h hK hr (fun ps => putCd key val ps) (fun ps => wth ps key val) ?_
 intro wd ps _ hku hlen hsm hok
 have hsz : ∀ x ∈ wth ps key val, x.1.size <= 1048576 /\ x.2.size <= 1048576 := fun x hx => by
  rcases wth_mem hx with q | q
  · rw [q]; exact ⟨hk, hv⟩
  · exact smallP_mem hsm x q
 have hl := wthLen ps key val
 refine ⟨fun _ => ⟨ku_apart (ku_wth hku key val), hsz⟩, fun n0 p w1 hb h0 ht => ?_⟩
 exact putC_any key val hk hv ck cv n0 ps hku p w1 h0 ht (hK.below hb) (by omega) (smallP_of (by omega) hsz) ((hb.cell (World.block_lt_of_cell? w _ hc)).trans hc) ((hb.cell (World.block_lt_of_cell? w _ hc2)).trans hc2)
theorem idel_any (HH : Hid (HashSaid KTab)) (D : Dec) (n : Int) (HD : Hid (∀ wd : Nat, (wd : Int) = n -> 1 <= wd -> wd <= 32 -> DecSaid 181 wd D)) (hdo : ∀ wd : Nat, (wd : Int) = n -> DecOk wd D) (a : Option Addr) (ss : List ByteArray) (c : Nat) (root key : ByteArray) (w : World) (h : SArg a ss w) (hK : KTab w) (hr : root.size <= 1048576) (hk : key.size <= 1048576) :
 Calls prog 19 #[.agg #[.int .i64 n, .slice a ss.length c], .string root, .string key] w (SavedIs (delO D n ss root key) w) := by
 have hmf : ∀ (fn : Fn) (first cap : Array Value) (w : World), (Instr.makeFunc fn first cap).run prog w = .ok (.func fn first cap) w := fun _ _ _ _ => rfl
 have hbA : Below w.heap.size w (((w.alloc (.cells #[.int .i64 n, .slice a ss.length c] 37)).alloc (.cells #[.string key] 9)).alloc (.cells #[.int .i64 0, .int .i64 0, .slice none 0 0, .string ⟨#[]⟩, .string ⟨#[]⟩, .string ⟨#[]⟩] 40)) := (((Below.refl _ _).alloc (Nat.le_refl _) _).alloc (by simp) _).alloc (by simp; omega) _
 have nB : SB (w.heap.size + 1 + 1) 0 0 none 0 0 ⟨#[]⟩ ⟨#[]⟩ ⟨#[]⟩ (((w.alloc (.cells #[.int .i64 n, .slice a ss.length c] 37)).alloc (.cells #[.string key] 9)).alloc (.cells #[.int .i64 0, .int .i64 0, .slice none 0 0, .string ⟨#[]⟩, .string ⟨#[]⟩, .string ⟨#[]⟩] 40)) := by
  have := heap_alloc_new ((w.alloc (.cells #[.int .i64 n, .slice a ss.length c] 37)).alloc (.cells #[.string key] 9)) (.cells #[.int .i64 0, .int .i64 0, .slice none 0 0, .string ⟨#[]⟩, .string ⟨#[]⟩, .string ⟨#[]⟩] 40)
  rw [World.size_alloc, World.size_alloc] at this
  exact this
 have nK : (((w.alloc (.cells #[.int .i64 n, .slice a ss.length c] 37)).alloc (.cells #[.string key] 9)).alloc (.cells #[.int .i64 0, .int .i64 0, .slice none 0 0, .string ⟨#[]⟩, .string ⟨#[]⟩, .string ⟨#[]⟩] 40)).heap[w.heap.size + 1]? = some (.cells #[.string key] 9) := by
  have := heap_alloc_new (w.alloc (.cells #[.int .i64 n, .slice a ss.length c] 37)) (.cells #[.string key] 9)
  rw [World.size_alloc] at this
  exact (Below.heap_alloc _ (.cells #[.int .i64 0, .int .i64 0, .slice none 0 0, .string ⟨#[]⟩, .string ⟨#[]⟩, .string ⟨#[]⟩] 40) _ (by simp)).trans this
 have HCh := chgD HH D n HD hdo a ss c root key (w.heap.size + 1) _ (h.below hbA) (hK.below hbA) hr hk (ZC nK 0)
 obtain ⟨O, hO⟩ : ∃ O, delO D n ss root key = O := ⟨_, rfl⟩
 rw [hO] at HCh ⊢
 clear hO
 have HCh2 := HCh.mono fun e W hE => SavedIs.put hE hbA nB (by omega)
 obtain ⟨od, on, oxs, oroot, ox, oy⟩ := O
 dsimp only at HCh2
 clear HCh
 go_enter func19, ntmps19
 go_wp2_with (first | (go_at_call 61; refine HCh2.mono ?_; rintro e w6 ⟨a6, m6, c6, rfl, hB6, hF6⟩; obtain ⟨d0, d1, d2, d3, d4, d5, df⟩ := hB6.at))
 exact retS Tryz.results19 rfl rfl (hB6.all od on a6 m6 c6 oroot ox oy) hF6
theorem iput_any (HH : Hid (HashSaid KTab)) (D : Dec) (n : Int) (HD : Hid (∀ wd : Nat, (wd : Int) = n -> 1 <= wd -> wd <= 32 -> DecSaid 181 wd D)) (hdo : ∀ wd : Nat, (wd : Int) = n -> DecOk wd D) (a : Option Addr) (ss : List ByteArray) (c : Nat) (root key val : ByteArray) (w : World) (h : SArg a ss w) (hK : KTab w) (hr : root.size <= 1048576) (hk : key.size <= 1048576) (hv : val.size <= 1048576) :
 Calls prog 17 #[.agg #[.int .i64 n, .slice a ss.length c], .string root, .string key, .string val] w (SavedIs (putO D n ss root key val) w) := by
 have hmf : ∀ (fn : Fn) (first cap : Array Value) (w : World), (Instr.makeFunc fn first cap).run prog w = .ok (.func fn first cap) w := fun _ _ _ _ => rfl
 have hbA : Below w.heap.size w ((((w.alloc (.cells #[.int .i64 n, .slice a ss.length c] 37)).alloc (.cells #[.string key] 9)).alloc (.cells #[.string val] 9)).alloc (.cells #[.int .i64 0, .int .i64 0, .slice none 0 0, .string ⟨#[]⟩, .string ⟨#[]⟩, .string ⟨#[]⟩] 40)) := ((((Below.refl _ _).alloc (Nat.le_refl _) _).alloc (by simp) _).alloc (by simp; omega) _).alloc (by simp; omega) _
 have nB : SB (w.heap.size + 1 + 1 + 1) 0 0 none 0 0 ⟨#[]⟩ ⟨#[]⟩ ⟨#[]⟩ ((((w.alloc (.cells #[.int .i64 n, .slice a ss.length c] 37)).alloc (.cells #[.string key] 9)).alloc (.cells #[.string val] 9)).alloc (.cells #[.int .i64 0, .int .i64 0, .slice none 0 0, .string ⟨#[]⟩, .string ⟨#[]⟩, .string ⟨#[]⟩] 40)) := by
  have := heap_alloc_new (((w.alloc (.cells #[.int .i64 n, .slice a ss.length c] 37)).alloc (.cells #[.string key] 9)).alloc (.cells #[.string val] 9)) (.cells #[.int .i64 0, .int .i64 0, .slice none 0 0, .string ⟨#[]⟩, .string ⟨#[]⟩, .string ⟨#[]⟩] 40)
  rw [World.size_alloc, World.size_alloc, World.size_alloc] at this
  exact this
 have nK : ((((w.alloc (.cells #[.int .i64 n, .slice a ss.length c] 37)).alloc (.cells #[.string key] 9)).alloc (.cells #[.string val] 9)).alloc (.cells #[.int .i64 0, .int .i64 0, .slice none 0 0, .string ⟨#[]⟩, .string ⟨#[]⟩, .string ⟨#[]⟩] 40)).heap[w.heap.size + 1]? = some (.cells #[.string key] 9) := by
  have := heap_alloc_new (w.alloc (.cells #[.int .i64 n, .slice a ss.length c] 37)) (.cells #[.string key] 9)
  rw [World.size_alloc] at this
  exact (Below.heap_alloc _ (.cells #[.int .i64 0, .int .i64 0, .slice none 0 0, .string ⟨#[]⟩, .string ⟨#[]⟩, .string ⟨#[]⟩] 40) _ (by simp)).trans ((Below.heap_alloc _ (.cells #[.string val] 9) _ (by simp)).trans this)
 have nV : ((((w.alloc (.cells #[.int .i64 n, .slice a ss.length c] 37)).alloc (.cells #[.string key] 9)).alloc (.cells #[.string val] 9)).alloc (.cells #[.int .i64 0, .int .i64 0, .slice none 0 0, .string ⟨#[]⟩, .string ⟨#[]⟩, .string ⟨#[]⟩] 40)).heap[w.heap.size + 1 + 1]? = some (.cells #[.string val] 9) := by
  have := heap_alloc_new ((w.alloc (.cells #[.int .i64 n, .slice a ss.length c] 37)).alloc (.cells #[.string key] 9)) (.cells #[.string val] 9)
  rw [World.size_alloc, World.size_alloc] at this
  exact (Below.heap_alloc _ (.cells #[.int .i64 0, .int .i64 0, .slice none 0 0, .string ⟨#[]⟩, .string ⟨#[]⟩, .string ⟨#[]⟩] 40) _ (by simp)).trans this
 have HCh := chgP HH D n HD hdo a ss c root key val (w.heap.size + 1) (w.heap.size + 1 + 1) _ (h.below hbA) (hK.below hbA) hr hk hv (ZC nK 0) (ZC nV 0)
 obtain ⟨O, hO⟩ : ∃ O, putO D n ss root key val = O := ⟨_, rfl⟩
 rw [hO] at HCh ⊢
 clear hO
 have HCh2 := HCh.mono fun e W hE => SavedIs.put hE hbA nB (by omega)
 obtain ⟨od, on, oxs, oroot, ox, oy⟩ := O
 dsimp only at HCh2
 clear HCh
 go_enter func17, ntmps17
 go_wp2_with (first | (go_at_call 61; refine HCh2.mono ?_; rintro e w6 ⟨a6, m6, c6, rfl, hB6, hF6⟩; obtain ⟨d0, d1, d2, d3, d4, d5, df⟩ := hB6.at))
 exact retS Tryz.results17 rfl rfl (hB6.all od on a6 m6 c6 oroot ox oy) hF6
theorem bl_nil {k : ByteArray} (h : 1 <= k.size) : Op.bytesLess (⟨#[]⟩ : ByteArray).toList k.toList = true := by
 rw [ByteArray.toList_eq, ByteArray.toList_eq]
 have : 1 <= k.data.toList.length := h
 cases hk : k.data.toList with
 | nil => rw [hk] at this; cases this
 | cons x xs => simp [Op.bytesLess]
theorem ku_at {ps : List PairT} (h : KeysUp (keys ps)) : ∀ i j, i < j -> j < ps.length -> lessB (ps.getD i noPair).1 (ps.getD j noPair).1 = true := by
 induction ps with
 | nil => intro i j _ hj; cases hj
 | cons x xs ih =>
  intro i j hij hj
  obtain ⟨h1, h2⟩ := h
  cases j with
  | zero => omega
  | succ j =>
   have hj' : j < xs.length := by simpa using hj
   have e : (x :: xs).getD (j + 1) noPair = xs.getD j noPair := by simp [List.getD_eq_getElem?_getD]
   rw [e]
   cases i with
   | zero =>
    have e0 : (x :: xs).getD 0 noPair = x := by simp [List.getD_eq_getElem?_getD]
    rw [e0]
    exact h1 _ (by rw [getD_lt xs j hj']; exact mem_keys (List.getElem_mem _))
   | succ i =>
    have e0 : (x :: xs).getD (i + 1) noPair = xs.getD i noPair := by simp [List.getD_eq_getElem?_getD]
    rw [e0]
    exact ih h2 i j (by omega) hj'
theorem isMapT_of {ps : List PairT} (h : KeysUp (keys ps)) (hok : ∀ p ∈ ps, okKey p.1 = true /\ okVal p.2 = true) (hl : ps.length <= 500) : isMapT ps = true := by
 unfold isMapT
 rw [decide_eq_true hl, Bool.true_and]
 have key : ∀ k, k <= ps.length -> mapTo ps k = true := by
  intro k
  induction k with
  | zero => intro _; rfl
  | succ k ih =>
   intro hk
   rw [mapTo, ih (by omega), Bool.true_and]
   have hm : ps.getD k noPair ∈ ps := by rw [getD_lt ps k (by omega)]; exact List.getElem_mem _
   obtain ⟨o1, o2⟩ := hok _ hm
   unfold goodAt
   rw [o1, o2, Bool.true_and, Bool.true_and]
   cases k with
   | zero =>
    unfold okKey at o1
    exact bl_nil (of_decide_eq_true o1).1
   | succ k => exact ku_at h k (k + 1) (by omega) (by omega)
 exact key _ (Nat.le_refl _)
theorem own2_le {w : World} {base n m c : Nat} {a : Option Addr} {xs : List Value} (h : w.ownsRow base 34 2 (.slice a m c) n xs) : m <= c := by
 rcases h.2 with ⟨e, h0⟩ | ⟨g, cap, cur, e, hb, hg, q1, q2, q3, q4⟩
 · simp only [Value.slice.injEq] at e; omega
 · simp only [Value.slice.injEq] at e
   omega
theorem rangeM_zero {fnd : ByteArray -> FN} {n : Int} {m : Nat} {root lo hi : ByteArray} (h : (rangeM fnd n m root lo hi).2 = 0) : poolOk n m = true := by
 unfold rangeM at h
 split at h
 · rename_i q
   exact ((Bool.and_eq_true _ _).mp q).1
 · cases h
theorem sld_any (HD : Hid DigSaid) (D : Dec) (n : Int) (HD2 : Hid (∀ wd : Nat, (wd : Int) = n -> 1 <= wd -> wd <= 32 -> DecSaid 148 wd D)) (hdo : ∀ wd : Nat, (wd : Int) = n -> DecOk wd D) (a : Option Addr) (ss : List ByteArray) (c : Nat) (root : ByteArray) (w : World) (h : SArg a ss w) (hs : Hid (∀ j, (ss.getD j ⟨#[]⟩).size <= 1048575)) (hr : root.size <= 1048576) :
 Calls prog 26 #[.agg #[.int .i64 n, .slice a ss.length c], .string root] w (RangeAt (rangeM (fndD D n.toNat ss) n ss.length root ⟨#[]⟩ ⟨#[]⟩) w) := by
 refine sload_any _ _ root w ⟨_, _, _, _, rfl⟩ fun w' hb => ?_
 have hS := h.below hb
 cases hp : (poolOk n ss.length && hashOk root.size n) with
 | false => rw [rangeM_bad hp]; exact srange_bad n _ ss.length c root ⟨#[]⟩ ⟨#[]⟩ w' hS.le hr hp
 | true =>
  have hp2 := (Bool.and_eq_true _ _).mp hp
  have hp' : 1 <= n /\ n <= 32 /\ ss.length <= 20000 := of_decide_eq_true hp2.1
  obtain ⟨wd, rfl⟩ : ∃ wd : Nat, n = (wd : Int) := ⟨n.toNat, by omega⟩
  rw [Int.toNat_natCast]
  exact srange_good HD D wd (HD2.out wd rfl (by omega) (by omega)) (hdo wd rfl) _ ss c root ⟨#[]⟩ ⟨#[]⟩ w' hS hs (by omega) (by omega) hr (Nat.zero_le _) (Nat.zero_le _) hp2.1 hp2.2
theorem less_nil (k : ByteArray) : lessB k ⟨#[]⟩ = false := by
 unfold lessB
 rw [ByteArray.toList_eq, ByteArray.toList_eq]
 cases k.data.toList <;> rfl
theorem nil_less {k : ByteArray} (h : emp k = false) : lessB ⟨#[]⟩ k = true := by
 unfold emp at h
 have h1 : ¬ k.size = 0 := of_decide_eq_false h
 unfold lessB
 rw [ByteArray.toList_eq, ByteArray.toList_eq]
 have h2 : ¬ k.data.toList.length = 0 := h1
 cases hk : k.data.toList with
 | nil => rw [hk] at h2; exact absurd rfl h2
 | cons x xs => simp [Op.bytesLess]
theorem canW_all (over under : ByteArray) : canW over under ⟨#[]⟩ ⟨#[]⟩ = true := by
 unfold canW
 have e0 : emp ⟨#[]⟩ = true := rfl
 rw [e0, Bool.true_or, Bool.true_and]
 cases h : emp under with
 | true => rfl
 | false => rw [nil_less h]; rfl
theorem hasW_all (k : ByteArray) : hasW ⟨#[]⟩ ⟨#[]⟩ k = true := by
 unfold hasW
 rw [less_nil]
 rfl
end Go.Proofs.YtfmpjlpakldheaaGreatDoor
