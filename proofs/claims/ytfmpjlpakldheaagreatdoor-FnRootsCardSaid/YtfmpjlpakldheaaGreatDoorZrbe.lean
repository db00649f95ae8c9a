import Derived.Test.YtfmpjlpakldheaaGreatDoorZrbb
import Derived.Test.YtfmpjlpakldheaaGreatDoorZrbd
set_option maxRecDepth 100000
set_option maxHeartbeats 2000000
namespace Go.Proofs.YtfmpjlpakldheaaGreatDoor
open Go.RowKit Go.Proofs.Sha Tryz
theorem delC_any (key : ByteArray) (hk : key.size <= 1048576) (ck n0 : Nat) (ps : List PairT) (hku : KeysUp (keys ps)) (p : Option Addr) (w : World) (h0 : n0 <= w.heap.size) (ht : TA n0 bare (cutTree ps) p w) (hc : w.cell? ⟨ck, 0, none⟩ = some (.string key)) :
 Calls prog 66 #[.pointer p, .pointer (some ⟨ck, 0, none⟩)] w fun e w' => ∃ q, e = .returned (.tuple #[.pointer q, .int .i64 (if okKey key = true then 0 else 1)]) /\ (okKey key = true -> TA n0 bare (cutTree (wout ps key)) q w') /\ Below w.heap.size w w' := by
 have HV := fun w' => vkey_any key w' hk
 have HDl := del_any key hk n0 (cutTree ps) p w h0 ht
 rw [del_tree key hku] at HDl
 generalize cutTree (wout ps key) = T at HDl ⊢
 clear ht
 cases ho : okKey key with
 | false =>
  rw [ho] at HV
  have hi : (if false = true then (0 : Int) else 1) = 1 := if_neg (by decide)
  rw [hi]
  clear hi
  go_enter func66, ntmps66
  go_wp2_with (first | (go_at_call 63; refine (HV _).mono ?_; rintro e w1 ⟨rfl, rfl⟩))
  go_ret2
  exact ⟨none, rfl, (fun q => by cases q), Below.refl _ _⟩
 | true =>
  rw [ho] at HV
  have hi : (if true = true then (0 : Int) else 1) = 0 := if_pos rfl
  rw [hi]
  clear hi
  go_enter func66, ntmps66
  go_wp2_with (first | (go_at_call 63; refine (HV _).mono ?_; rintro e w1 ⟨rfl, rfl⟩) | (go_at_call 67; refine HDl.mono ?_; rintro e w2 ⟨q, rfl, hq, hb2⟩))
  go_ret2
  exact ⟨q, rfl, fun _ => hq, hb2⟩
def putCd (key val : ByteArray) (ps : List PairT) : Int := if (okKey key && okVal val) = true then (if 500 < (wth ps key val).length then 6 else 0) else 1
theorem putC_any (key val : ByteArray) (hk : key.size <= 1048576) (hv : val.size <= 1048576) (ck cv n0 : Nat) (ps : List PairT) (hku : KeysUp (keys ps)) (p : Option Addr) (w : World) (h0 : n0 <= w.heap.size) (ht : TA n0 bare (cutTree ps) p w) (hK : KTab w) (hn : (wth ps key val).length <= 100000) (hsm : SmallP (wth ps key val)) (hc : w.cell? ⟨ck, 0, none⟩ = some (.string key)) (hc2 : w.cell? ⟨cv, 0, none⟩ = some (.string val)) :
 Calls prog 62 #[.pointer p, .pointer (some ⟨ck, 0, none⟩), .pointer (some ⟨cv, 0, none⟩)] w fun e w' => ∃ q, e = .returned (.tuple #[.pointer q, .int .i64 (putCd key val ps)]) /\ (putCd key val ps = 0 -> TA n0 bare (cutTree (wth ps key val)) q w') /\ Below w.heap.size w w' := by
 have HV := fun w' => vkey_any key w' hk
 have HV2 := fun w' => vval_any val w' hv
 have HR := room_any key val hk n0 ps hku p w h0 ht hK hn hsm
 have hcd : putCd key val ps = if (okKey key && okVal val) = true then (if 500 < (wth ps key val).length then 6 else 0) else 1 := rfl
 obtain ⟨L, hL⟩ : ∃ L, (wth ps key val).length = L := ⟨_, rfl⟩
 rw [hL] at HR hcd
 obtain ⟨v, hvv⟩ : ∃ v : Int, (if 500 < L then (6 : Int) else 0) = v := ⟨_, rfl⟩
 rw [hvv] at HR hcd
 have hv0 : Hid (v = 0 -> L <= 500) := fun q => by
  rw [<- hvv] at q
  split at q
  · cases q
  · omega
 generalize putCd key val ps = cd at hcd ⊢
 generalize cutTree (wth ps key val) = T at HR ⊢
 clear ht hL hvv hn hsm
 cases ho : okKey key with
 | false =>
  rw [ho] at HV hcd
  rw [Bool.false_and, if_neg (by decide)] at hcd
  subst hcd
  go_enter func62, ntmps62
  go_wp2_with (first | (go_at_call 63; refine (HV _).mono ?_; rintro e w1 ⟨rfl, rfl⟩))
  go_ret2
  exact ⟨none, rfl, (fun q => by cases q), Below.refl _ _⟩
 | true =>
  rw [ho] at HV hcd
  cases ho2 : okVal val with
  | false =>
   rw [ho2] at HV2 hcd
   rw [Bool.and_false, if_neg (by decide)] at hcd
   subst hcd
   go_enter func62, ntmps62
   go_wp2_with (first | (go_at_call 63; refine (HV _).mono ?_; rintro e w1 ⟨rfl, rfl⟩) | (go_at_call 64; refine (HV2 _).mono ?_; rintro e w2 ⟨rfl, rfl⟩))
   go_ret2
   exact ⟨none, rfl, (fun q => by cases q), Below.refl _ _⟩
  | true =>
   rw [ho2] at HV2 hcd
   rw [Bool.and_self, if_pos rfl] at hcd
   subst hcd
   go_enter func62, ntmps62
   go_wp2_with (first | (go_at_call 63; refine (HV _).mono ?_; rintro e w1 ⟨rfl, rfl⟩) | (go_at_call 64; refine (HV2 _).mono ?_; rintro e w2 ⟨rfl, rfl⟩) | (go_at_call 65; refine HR.mono ?_; rintro e w3 ⟨q, rfl, hq, hb3⟩))
   go_ret2
   exact ⟨q, rfl, fun h => hq (hv0.out h), hb3⟩
def chgO (n : Int) (ss : List ByteArray) (X : List PairT × Int) (cd : Int) (qs : List PairT) : SvO := if X.2 ≠ 0 then codeO X.2 else if cd ≠ 0 then codeO cd else savO n.toNat ss (cutTree qs)
theorem chgD_any (HH : Hid (HashSaid KTab)) (D : Dec) (n : Int) (HD : Hid (∀ wd : Nat, (wd : Int) = n -> 1 <= wd -> wd <= 32 -> DecSaid 181 wd D)) (hdo : ∀ wd : Nat, (wd : Int) = n -> DecOk wd D) (a : Option Addr) (ss : List ByteArray) (c : Nat) (root : ByteArray) (ck : Nat) (w : World) (h : SArg a ss w) (hK : KTab w) (hr : root.size <= 1048576) (cf : List PairT -> Int) (tf : List PairT -> List PairT)
 (HC : Hid (∀ (wd : Nat) ps, (wd : Int) = n -> KeysUp (keys ps) -> ps.length <= 500 -> SmallP ps -> (∀ p ∈ ps, okKey p.1 = true /\ okVal p.2 = true) -> (cf ps = 0 -> Apart (tf ps) /\ ∀ x ∈ tf ps, x.1.size <= 1048576 /\ x.2.size <= 1048576) /\ ∀ n0 p w1, Below w.heap.size w w1 -> n0 <= w1.heap.size -> TA n0 bare (cutTree ps) p w1 -> Calls prog 66 #[.pointer p, .pointer (some ⟨ck, 0, none⟩)] w1 fun e w2 => ∃ q, e = .returned (.tuple #[.pointer q, .int .i64 (cf ps)]) /\ (cf ps = 0 -> TA n0 bare (cutTree (tf ps)) q w2) /\ Below w1.heap.size w1 w2)) :
 Calls prog 61 #[.agg #[.int .i64 n, .slice a ss.length c], .string root, .func (.func 66) #[] #[.pointer (some ⟨ck, 0, none⟩)]] w (SavedIs (chgO n ss (rangeM (fndD D n.toNat ss) n ss.length root ⟨#[]⟩ ⟨#[]⟩) (cf (rangeM (fndD D n.toNat ss) n ss.length root ⟨#[]⟩ ⟨#[]⟩).1) (tf (rangeM (fndD D n.toNat ss) n ss.length root ⟨#[]⟩ ⟨#[]⟩).1)) w) := by
 have HV : Hid (∀ w', Calls prog 68 #[.agg #[.int .i64 n, .slice a ss.length c]] w' fun e w'' => e = .returned (.bool (poolOk n ss.length)) /\ Below w'.heap.size w' w'') := fun w' => validPool_any n a ss.length c w' h.le
 have hbA : Below w.heap.size w ((w.alloc (.cells #[.int .i64 n, .slice a ss.length c] 37)).alloc (.cells #[.int .i64 0, .int .i64 0, .slice none 0 0, .string ⟨#[]⟩, .string ⟨#[]⟩, .string ⟨#[]⟩] 40)) := ((Below.refl _ _).alloc (Nat.le_refl _) _).alloc (by simp) _
 have nB := heap_alloc_new (w.alloc (.cells #[.int .i64 n, .slice a ss.length c] 37)) (.cells #[.int .i64 0, .int .i64 0, .slice none 0 0, .string ⟨#[]⟩, .string ⟨#[]⟩, .string ⟨#[]⟩] 40)
 have nA := (Below.heap_alloc (w.alloc (.cells #[.int .i64 n, .slice a ss.length c] 37)) (.cells #[.int .i64 0, .int .i64 0, .slice none 0 0, .string ⟨#[]⟩, .string ⟨#[]⟩, .string ⟨#[]⟩] 40) w.heap.size (by simp)).trans (heap_alloc_new w _)
 rw [World.size_alloc] at nB
 obtain ⟨gp, hgp⟩ : ∃ g, w.heap.size = g := ⟨_, rfl⟩
 have hge' : w.heap.size <= gp + 1 := by omega
 obtain ⟨X, hX⟩ : ∃ X, rangeM (fndD D n.toNat ss) n ss.length root ⟨#[]⟩ ⟨#[]⟩ = X := ⟨_, rfl⟩
 rw [hX]
 obtain ⟨O, hO⟩ : ∃ O, chgO n ss X (cf X.1) (tf X.1) = O := ⟨_, rfl⟩
 rw [hO]
 have HO : Hid (chgO n ss X (cf X.1) (tf X.1) = O) := hO
 clear hO
 go_enter func61, ntmps61
 go_upto_region 1 with fail
 generalize ((w.alloc (.cells #[.int .i64 n, .slice a ss.length c] 37)).alloc (.cells #[.int .i64 0, .int .i64 0, .slice none 0 0, .string ⟨#[]⟩, .string ⟨#[]⟩, .string ⟨#[]⟩] 40)) = wA at hbA nA nB ⊢
 try rw [hgp]
 rw [hgp] at nA nB
 have p0 := ZC nA 0
 have p1 := ZC nA 1
 have HB : Hid (∀ W, Below wA.heap.size wA W -> Below w.heap.size w W /\ SB (gp + 1) 0 0 none 0 0 ⟨#[]⟩ ⟨#[]⟩ ⟨#[]⟩ W /\ W.cell? ⟨gp, 0, none⟩ = some (.int .i64 n) /\ W.cell? ⟨gp, 1, none⟩ = some (.slice a ss.length c)) := fun W hW => ⟨hbA.trans (hW.mono hbA.size), pblk_below hW nB, ZC (pblk_below hW nA) 0, ZC (pblk_below hW nA) 1⟩
 cases hp : poolOk n ss.length with
 | false =>
  have ho : Hid (O = codeO 1) := by
   show _ = _
   rw [<- HO.out, <- hX, rangeM_bad (by rw [hp]; rfl)]
   rfl
  rw [hp] at HV
  clear h hK HH HC HD HO hX
  go_wp2_with (first | (go_at_call 68; refine (HV.out _).mono ?_; rintro e w1 ⟨rfl, hb1⟩; obtain ⟨hbw, hB1, _, _⟩ := HB.out _ hb1; obtain ⟨d0, d1, d2, d3, d4, d5, df⟩ := hB1.at))
  exact retS Tryz.results61 rfl rfl (hB1.all 1 0 none 0 0 ⟨#[]⟩ ⟨#[]⟩ ⟨#[]⟩) (by rw [ho.out]; exact SavedIs.code hbw hB1 hge')
 | true =>
  rw [hp] at HV
  have hp' : 1 <= n /\ n <= 32 /\ ss.length <= 20000 := of_decide_eq_true hp
  obtain ⟨wd, rfl⟩ : ∃ wd : Nat, n = (wd : Int) := ⟨n.toNat, by omega⟩
  have hfo : FndOk wd (fndD D wd ss) := fndD_ok D wd ss (hdo wd rfl)
  have hup : KeysUp (keys X.1) := by rw [<- hX]; exact rangeM_up (wd := wd) (by rw [Int.toNat_natCast]; exact hfo) _ _ _ _ _
  have hsm : X.1.length <= 500 /\ SmallP X.1 := by rw [<- hX]; exact rangeM_small (wd := wd) (by rw [Int.toNat_natCast]; exact hfo) _ _ _ _ _
  have hok : ∀ p ∈ X.1, okKey p.1 = true /\ okVal p.2 = true := by
   intro p hpm
   rw [<- hX, Int.toNat_natCast] at hpm
   unfold rangeM at hpm
   split at hpm
   · split at hpm
     · exact goF_ok hfo _ _ _ _ _ _ p hpm
     · cases hpm
   · cases hpm
  obtain ⟨hap, HCr⟩ := HC.out wd X.1 rfl hup hsm.1 hsm.2 hok
  have hrM : X = (if hashOk root.size (wd : Int) = true then (if (goF (fndD D wd ss) hgW ⟨#[]⟩ ⟨#[]⟩ 501 root ⟨#[]⟩ ⟨#[]⟩ ⟨#[]⟩ 0).1 = 0 then ((goF (fndD D wd ss) hgW ⟨#[]⟩ ⟨#[]⟩ 501 root ⟨#[]⟩ ⟨#[]⟩ ⟨#[]⟩ 0).2.2, (0 : Int)) else ([], (goF (fndD D wd ss) hgW ⟨#[]⟩ ⟨#[]⟩ 501 root ⟨#[]⟩ ⟨#[]⟩ ⟨#[]⟩ 0).1)) else ([], 1)) := by
   rw [<- hX]
   unfold rangeM
   rw [hp, Bool.true_and, Int.toNat_natCast]
  have HS : Hid (∀ w', Below w.heap.size w w' -> Calls prog 70 #[.agg #[.int .i64 (wd : Int), .slice a ss.length c]] w' fun e w'' => ∃ sb r a' c', e = .returned (.pointer (some ⟨sb, 0, none⟩)) /\ StockAt sb r (sb + 1) wd ss a' c' w'' /\ Below w'.heap.size w' w'') := fun w' hb => stockOf_any HH (fun w1 w2 h1 hb => KTab.below h1 hb) wd a ss c w' (h.below hb) (hK.below hb) (by omega)
  have HL : Hid (∀ w1 sb r a' c', Below w.heap.size w w1 -> StockAt sb r (sb + 1) wd ss a' c' w1 -> Calls prog 69 #[.pointer (some ⟨sb, 0, none⟩), .string root] w1 fun e w2 => ∃ a3 c3, e = .returned (.tuple #[.slice a3 X.1.length c3, .int .i64 X.2]) /\ PArg a3 X.1 w2 /\ Below w1.heap.size w1 w2) := fun w1 sb r a' c' hb1 hs => by
   have := ld_any (fndD D wd ss) wd hfo sb root _ _ w1 hs.blk hr (fun hash w' hh hb' => stockFind_any D sb r (sb + 1) wd (HD.out wd rfl (by omega) (by omega)) ss a' c' hash w' (hs.below hb') h.sz (by have := h.le; omega) (by omega) hh) (fun k w' hk hb' => rank_any k w' (by unfold okKey at hk; have := of_decide_eq_true hk; omega) ((hK.below hb1).below hb'))
   rw [<- hrM] at this
   refine this.mono ?_
   rintro e w2 ⟨⟨a3, c3, he, ho⟩, hb2⟩
   exact ⟨a3, c3, he, own_parg ho hsm.2, hb2⟩
  have HT : Hid (∀ a3 c3 w', Below w.heap.size w w' -> PArg a3 X.1 w' -> Calls prog 82 #[.slice a3 X.1.length c3] w' fun e w'' => ∃ p, e = .returned (.pointer p) /\ TA w'.heap.size bare (cutTree X.1) p w'' /\ Below w'.heap.size w' w'') := fun a3 c3 w' hb hpa => by
   have := treeOf_any rank_said (fun w1 w2 k hb => KTab.below k hb) a3 X.1 c3 w' hpa (hK.below hb)
   rw [merged_cut X.1 (ku_apart hup)] at this
   exact this
  have HX : Hid (cf X.1 = 0 -> ∀ w3 w5 sb r a' c' q, Below w.heap.size w w3 -> SB (gp + 1) 0 0 none 0 0 ⟨#[]⟩ ⟨#[]⟩ ⟨#[]⟩ w3 -> StockAt sb r (sb + 1) wd ss a' c' w3 -> TA w3.heap.size bare (cutTree (tf X.1)) q w5 -> Below w3.heap.size w3 w5 -> Calls prog 81 #[.pointer (some ⟨sb, 0, none⟩), .pointer q] w5 fun e W => ∃ a m c, e = .returned (svV (savO wd ss (cutTree (tf X.1))).cd (savO wd ss (cutTree (tf X.1))).n a m c (savO wd ss (cutTree (tf X.1))).root (savO wd ss (cutTree (tf X.1))).x (savO wd ss (cutTree (tf X.1))).y) /\ SB (gp + 1) 0 0 none 0 0 ⟨#[]⟩ ⟨#[]⟩ ⟨#[]⟩ W /\ SavedIs (savO wd ss (cutTree (tf X.1))) w (.returned (svV (savO wd ss (cutTree (tf X.1))).cd (savO wd ss (cutTree (tf X.1))).n a m c (savO wd ss (cutTree (tf X.1))).root (savO wd ss (cutTree (tf X.1))).x (savO wd ss (cutTree (tf X.1))).y)) (set6 W (gp + 1) (savO wd ss (cutTree (tf X.1))).cd (savO wd ss (cutTree (tf X.1))).n a m c (savO wd ss (cutTree (tf X.1))).root (savO wd ss (cutTree (tf X.1))).x (savO wd ss (cutTree (tf X.1))).y)) := fun hcf w3 w5 sb r a' c' q hb3 hB3 hS3 hT5 hb5 => by
   obtain ⟨ha, hsz⟩ := hap hcf
   have hin := cutTree_inord (tf X.1)
   refine (saved_any HH sb r (sb + 1) wd ss a' c' (cutTree (tf X.1)) q w3.heap.size w3 w5 hb5 (Nat.le_refl _) (fun W hW => hS3.below (hb5.trans hW)) (fun W hW => (hK.below hb3).below (hb5.trans hW)) hb5.size hT5 (by rw [hin]; exact ha) (by rw [hin]; exact hsz) hp'.2.2 h.sz (by omega) (by omega)).mono ?_
   intro e W hE
   exact SavedIs.put hE hb3 hB3 (by omega)
  have HCc : Hid _ := HCr
  clear HCr
  obtain ⟨qs, hqs⟩ : ∃ qs, tf X.1 = qs := ⟨_, rfl⟩
  obtain ⟨cd, hcd⟩ : ∃ cd, cf X.1 = cd := ⟨_, rfl⟩
  rw [hqs, hcd] at HX HCc HO
  obtain ⟨ps, xc⟩ := X
  dsimp only at HX HCc HO HL HT
  obtain ⟨K, hKK⟩ : ∃ K, ps.length = K := ⟨_, rfl⟩
  rw [hKK] at HL HT
  clear h hK HH HC HD hX hrM hup hsm hok hap hqs hcd hKK hp'
  by_cases hx : xc = 0
  · subst hx
    by_cases hc0 : cd = 0
    · subst hc0
      have ho : Hid (O = savO wd ss (cutTree qs)) := by
       show _ = _
       rw [<- HO.out]
       rfl
      have HX' := HX.out rfl
      generalize savO wd ss (cutTree qs) = O' at HX' ho
      obtain ⟨od, on, oxs, oroot, ox, oy⟩ := O'
      dsimp only at HX'
      have HX'' : Hid _ := HX'
      clear HX HX' HO
      go_wp2_with (first | (go_at_call 68; refine (HV.out _).mono ?_; rintro e w1 ⟨rfl, hb1⟩; obtain ⟨hbw1, hB1, q0, q1⟩ := HB.out _ hb1) | (go_at_call 70; refine (HS.out _ hbw1).mono ?_; rintro e w2 ⟨sb, r, a2, c2, rfl, hS2, hb2⟩; have hB2 : SB (gp + 1) 0 0 none 0 0 ⟨#[]⟩ ⟨#[]⟩ ⟨#[]⟩ w2 := pblk_below hb2 hB1; have hbw2 := hbw1.trans (hb2.mono hbw1.size); clear q0 q1) | (go_at_call 69; refine (HL.out _ _ _ _ _ hbw2 hS2).mono ?_; rintro e w3 ⟨a3, c3, rfl, hP3, hb3⟩; have hB3 : SB (gp + 1) 0 0 none 0 0 ⟨#[]⟩ ⟨#[]⟩ ⟨#[]⟩ w3 := pblk_below hb3 hB2; have hbw3 := hbw2.trans (hb3.mono hbw2.size); have hS3 := hS2.below hb3) | (go_at_call 82; refine (HT.out _ _ _ hbw3 hP3).mono ?_; rintro e w4 ⟨p4, rfl, hT4, hb4⟩; have hbw4 := hbw3.trans (hb4.mono hbw3.size); have hs4 := hb4.size) | (go_at_call 66; refine (HCc.out _ _ _ hbw4 hs4 hT4).mono ?_; rintro e w5 ⟨q5, rfl, hT5, hb5⟩; have hb35 := hb4.trans (hb5.mono hs4)) | (go_at_call 81; refine (HX''.out _ _ _ _ _ _ _ hbw3 hB3 hS3 (hT5 (by trivial)) hb35).mono ?_; rintro e w6 ⟨a6, m6, c6, rfl, hB6, hF6⟩; obtain ⟨d0, d1, d2, d3, d4, d5, df⟩ := hB6.at))
      exact retS Tryz.results61 rfl rfl (hB6.all od on a6 m6 c6 oroot ox oy) (by rw [ho.out]; exact hF6)
    · have ho : Hid (O = codeO cd) := by
       show _ = _
       rw [<- HO.out]
       unfold chgO
       rw [if_neg (by simp), if_pos hc0]
      have zc : (cd != 0) = true := by simp [hc0]
      clear HX HO hc0
      go_wp2_with (first | (go_at_call 68; refine (HV.out _).mono ?_; rintro e w1 ⟨rfl, hb1⟩; obtain ⟨hbw1, hB1, q0, q1⟩ := HB.out _ hb1) | (go_at_call 70; refine (HS.out _ hbw1).mono ?_; rintro e w2 ⟨sb, r, a2, c2, rfl, hS2, hb2⟩; have hB2 : SB (gp + 1) 0 0 none 0 0 ⟨#[]⟩ ⟨#[]⟩ ⟨#[]⟩ w2 := pblk_below hb2 hB1; have hbw2 := hbw1.trans (hb2.mono hbw1.size); clear q0 q1) | (go_at_call 69; refine (HL.out _ _ _ _ _ hbw2 hS2).mono ?_; rintro e w3 ⟨a3, c3, rfl, hP3, hb3⟩; have hB3 : SB (gp + 1) 0 0 none 0 0 ⟨#[]⟩ ⟨#[]⟩ ⟨#[]⟩ w3 := pblk_below hb3 hB2; have hbw3 := hbw2.trans (hb3.mono hbw2.size)) | (go_at_call 82; refine (HT.out _ _ _ hbw3 hP3).mono ?_; rintro e w4 ⟨p4, rfl, hT4, hb4⟩; have hbw4 := hbw3.trans (hb4.mono hbw3.size); have hs4 := hb4.size) | (go_at_call 66; refine (HCc.out _ _ _ hbw4 hs4 hT4).mono ?_; rintro e w5 ⟨q5, rfl, _, hb5⟩; have hB5 : SB (gp + 1) 0 0 none 0 0 ⟨#[]⟩ ⟨#[]⟩ ⟨#[]⟩ w5 := pblk_below hb5 (pblk_below hb4 hB3); have hbw5 := hbw4.trans (hb5.mono hbw4.size); obtain ⟨d0, d1, d2, d3, d4, d5, df⟩ := hB5.at))
      exact retS Tryz.results61 rfl rfl (hB5.all cd 0 none 0 0 ⟨#[]⟩ ⟨#[]⟩ ⟨#[]⟩) (by rw [ho.out]; exact SavedIs.code hbw5 hB5 hge')
  · have ho : Hid (O = codeO xc) := by
     show _ = _
     rw [<- HO.out]
     unfold chgO
     rw [if_pos hx]
    have zc : (xc != 0) = true := by simp [hx]
    clear HX HO HCc HT
    go_wp2_with (first | (go_at_call 68; refine (HV.out _).mono ?_; rintro e w1 ⟨rfl, hb1⟩; obtain ⟨hbw1, hB1, q0, q1⟩ := HB.out _ hb1) | (go_at_call 70; refine (HS.out _ hbw1).mono ?_; rintro e w2 ⟨sb, r, a2, c2, rfl, hS2, hb2⟩; have hB2 : SB (gp + 1) 0 0 none 0 0 ⟨#[]⟩ ⟨#[]⟩ ⟨#[]⟩ w2 := pblk_below hb2 hB1; have hbw2 := hbw1.trans (hb2.mono hbw1.size); clear q0 q1) | (go_at_call 69; refine (HL.out _ _ _ _ _ hbw2 hS2).mono ?_; rintro e w3 ⟨a3, c3, rfl, hP3, hb3⟩; have hB3 : SB (gp + 1) 0 0 none 0 0 ⟨#[]⟩ ⟨#[]⟩ ⟨#[]⟩ w3 := pblk_below hb3 hB2; have hbw3 := hbw2.trans (hb3.mono hbw2.size); obtain ⟨d0, d1, d2, d3, d4, d5, df⟩ := hB3.at))
    exact retS Tryz.results61 rfl rfl (hB3.all xc 0 none 0 0 ⟨#[]⟩ ⟨#[]⟩ ⟨#[]⟩) (by rw [ho.out]; exact SavedIs.code hbw3 hB3 hge')
theorem chgP_any (HH : Hid (HashSaid KTab)) (D : Dec) (n : Int) (HD : Hid (∀ wd : Nat, (wd : Int) = n -> 1 <= wd -> wd <= 32 -> DecSaid 181 wd D)) (hdo : ∀ wd : Nat, (wd : Int) = n -> DecOk wd D) (a : Option Addr) (ss : List ByteArray) (c : Nat) (root : ByteArray) (ck cv : Nat) (w : World) (h : SArg a ss w) (hK : KTab w) (hr : root.size <= 1048576) (cf : List PairT -> Int) (tf : List PairT -> List PairT)
 (HC : Hid (∀ (wd : Nat) ps, (wd : Int) = n -> KeysUp (keys ps) -> ps.length <= 500 -> SmallP ps -> (∀ p ∈ ps, okKey p.1 = true /\ okVal p.2 = true) -> (cf ps = 0 -> Apart (tf ps) /\ ∀ x ∈ tf ps, x.1.size <= 1048576 /\ x.2.size <= 1048576) /\ ∀ n0 p w1, Below w.heap.size w w1 -> n0 <= w1.heap.size -> TA n0 bare (cutTree ps) p w1 -> Calls prog 62 #[.pointer p, .pointer (some ⟨ck, 0, none⟩), .pointer (some ⟨cv, 0, none⟩)] w1 fun e w2 => ∃ q, e = .returned (.tuple #[.pointer q, .int .i64 (cf ps)]) /\ (cf ps = 0 -> TA n0 bare (cutTree (tf ps)) q w2) /\ Below w1.heap.size w1 w2)) :
 Calls prog 61 #[.agg #[.int .i64 n, .slice a ss.length c], .string root, .func (.func 62) #[] #[.pointer (some ⟨ck, 0, none⟩), .pointer (some ⟨cv, 0, none⟩)]] w (SavedIs (chgO n ss (rangeM (fndD D n.toNat ss) n ss.length root ⟨#[]⟩ ⟨#[]⟩) (cf (rangeM (fndD D n.toNat ss) n ss.length root ⟨#[]⟩ ⟨#[]⟩).1) (tf (rangeM (fndD D n.toNat ss) n ss.length root ⟨#[]⟩ ⟨#[]⟩).1)) w) := by
 have HV : Hid (∀ w', Calls prog 68 #[.agg #[.int .i64 n, .slice a ss.length c]] w' fun e w'' => e = .returned (.bool (poolOk n ss.length)) /\ Below w'.heap.size w' w'') := fun w' => validPool_any n a ss.length c w' h.le
 have hbA : Below w.heap.size w ((w.alloc (.cells #[.int .i64 n, .slice a ss.length c] 37)).alloc (.cells #[.int .i64 0, .int .i64 0, .slice none 0 0, .string ⟨#[]⟩, .string ⟨#[]⟩, .string ⟨#[]⟩] 40)) := ((Below.refl _ _).alloc (Nat.le_refl _) _).alloc (by simp) _
 have nB := heap_alloc_new (w.alloc (.cells #[.int .i64 n, .slice a ss.length c] 37)) (.cells #[.int .i64 0, .int .i64 0, .slice none 0 0, .string ⟨#[]⟩, .string ⟨#[]⟩, .string ⟨#[]⟩] 40)
 have nA := (Below.heap_alloc (w.alloc (.cells #[.int .i64 n, .slice a ss.length c] 37)) (.cells #[.int .i64 0, .int .i64 0, .slice none 0 0, .string ⟨#[]⟩, .string ⟨#[]⟩, .string ⟨#[]⟩] 40) w.heap.size (by simp)).trans (heap_alloc_new w _)
 rw [World.size_alloc] at nB
 obtain ⟨gp, hgp⟩ : ∃ g, w.heap.size = g := ⟨_, rfl⟩
 have hge' : w.heap.size <= gp + 1 := by omega
 obtain ⟨X, hX⟩ : ∃ X, rangeM (fndD D n.toNat ss) n ss.length root ⟨#[]⟩ ⟨#[]⟩ = X := ⟨_, rfl⟩
 rw [hX]
 obtain ⟨O, hO⟩ : ∃ O, chgO n ss X (cf X.1) (tf X.1) = O := ⟨_, rfl⟩
 rw [hO]
 have HO : Hid (chgO n ss X (cf X.1) (tf X.1) = O) := hO
 clear hO
 go_enter func61, ntmps61
 go_upto_region 1 with fail
 generalize ((w.alloc (.cells #[.int .i64 n, .slice a ss.length c] 37)).alloc (.cells #[.int .i64 0, .int .i64 0, .slice none 0 0, .string ⟨#[]⟩, .string ⟨#[]⟩, .string ⟨#[]⟩] 40)) = wA at hbA nA nB ⊢
 try rw [hgp]
 rw [hgp] at nA nB
 have p0 := ZC nA 0
 have p1 := ZC nA 1
 have HB : Hid (∀ W, Below wA.heap.size wA W -> Below w.heap.size w W /\ SB (gp + 1) 0 0 none 0 0 ⟨#[]⟩ ⟨#[]⟩ ⟨#[]⟩ W /\ W.cell? ⟨gp, 0, none⟩ = some (.int .i64 n) /\ W.cell? ⟨gp, 1, none⟩ = some (.slice a ss.length c)) := fun W hW => ⟨hbA.trans (hW.mono hbA.size), pblk_below hW nB, ZC (pblk_below hW nA) 0, ZC (pblk_below hW nA) 1⟩
 cases hp : poolOk n ss.length with
 | false =>
  have ho : Hid (O = codeO 1) := by
   show _ = _
   rw [<- HO.out, <- hX, rangeM_bad (by rw [hp]; rfl)]
   rfl
  rw [hp] at HV
  clear h hK HH HC HD HO hX
  go_wp2_with (first | (go_at_call 68; refine (HV.out _).mono ?_; rintro e w1 ⟨rfl, hb1⟩; obtain ⟨hbw, hB1, _, _⟩ := HB.out _ hb1; obtain ⟨d0, d1, d2, d3, d4, d5, df⟩ := hB1.at))
  exact retS Tryz.results61 rfl rfl (hB1.all 1 0 none 0 0 ⟨#[]⟩ ⟨#[]⟩ ⟨#[]⟩) (by rw [ho.out]; exact SavedIs.code hbw hB1 hge')
 | true =>
  rw [hp] at HV
  have hp' : 1 <= n /\ n <= 32 /\ ss.length <= 20000 := of_decide_eq_true hp
  obtain ⟨wd, rfl⟩ : ∃ wd : Nat, n = (wd : Int) := ⟨n.toNat, by omega⟩
  have hfo : FndOk wd (fndD D wd ss) := fndD_ok D wd ss (hdo wd rfl)
  have hup : KeysUp (keys X.1) := by rw [<- hX]; exact rangeM_up (wd := wd) (by rw [Int.toNat_natCast]; exact hfo) _ _ _ _ _
  have hsm : X.1.length <= 500 /\ SmallP X.1 := by rw [<- hX]; exact rangeM_small (wd := wd) (by rw [Int.toNat_natCast]; exact hfo) _ _ _ _ _
  have hok : ∀ p ∈ X.1, okKey p.1 = true /\ okVal p.2 = true := by
   intro p hpm
   rw [<- hX, Int.toNat_natCast] at hpm
   unfold rangeM at hpm
   split at hpm
   · split at hpm
     · exact goF_ok hfo _ _ _ _ _ _ p hpm
     · cases hpm
   · cases hpm
  obtain ⟨hap, HCr⟩ := HC.out wd X.1 rfl hup hsm.1 hsm.2 hok
  have hrM : X = (if hashOk root.size (wd : Int) = true then (if (goF (fndD D wd ss) hgW ⟨#[]⟩ ⟨#[]⟩ 501 root ⟨#[]⟩ ⟨#[]⟩ ⟨#[]⟩ 0).1 = 0 then ((goF (fndD D wd ss) hgW ⟨#[]⟩ ⟨#[]⟩ 501 root ⟨#[]⟩ ⟨#[]⟩ ⟨#[]⟩ 0).2.2, (0 : Int)) else ([], (goF (fndD D wd ss) hgW ⟨#[]⟩ ⟨#[]⟩ 501 root ⟨#[]⟩ ⟨#[]⟩ ⟨#[]⟩ 0).1)) else ([], 1)) := by
   rw [<- hX]
   unfold rangeM
   rw [hp, Bool.true_and, Int.toNat_natCast]
  have HS : Hid (∀ w', Below w.heap.size w w' -> Calls prog 70 #[.agg #[.int .i64 (wd : Int), .slice a ss.length c]] w' fun e w'' => ∃ sb r a' c', e = .returned (.pointer (some ⟨sb, 0, none⟩)) /\ StockAt sb r (sb + 1) wd ss a' c' w'' /\ Below w'.heap.size w' w'') := fun w' hb => stockOf_any HH (fun w1 w2 h1 hb => KTab.below h1 hb) wd a ss c w' (h.below hb) (hK.below hb) (by omega)
  have HL : Hid (∀ w1 sb r a' c', Below w.heap.size w w1 -> StockAt sb r (sb + 1) wd ss a' c' w1 -> Calls prog 69 #[.pointer (some ⟨sb, 0, none⟩), .string root] w1 fun e w2 => ∃ a3 c3, e = .returned (.tuple #[.slice a3 X.1.length c3, .int .i64 X.2]) /\ PArg a3 X.1 w2 /\ Below w1.heap.size w1 w2) := fun w1 sb r a' c' hb1 hs => by
   have := ld_any (fndD D wd ss) wd hfo sb root _ _ w1 hs.blk hr (fun hash w' hh hb' => stockFind_any D sb r (sb + 1) wd (HD.out wd rfl (by omega) (by omega)) ss a' c' hash w' (hs.below hb') h.sz (by have := h.le; omega) (by omega) hh) (fun k w' hk hb' => rank_any k w' (by unfold okKey at hk; have := of_decide_eq_true hk; omega) ((hK.below hb1).below hb'))
   rw [<- hrM] at this
   refine this.mono ?_
   rintro e w2 ⟨⟨a3, c3, he, ho⟩, hb2⟩
   exact ⟨a3, c3, he, own_parg ho hsm.2, hb2⟩
  have HT : Hid (∀ a3 c3 w', Below w.heap.size w w' -> PArg a3 X.1 w' -> Calls prog 82 #[.slice a3 X.1.length c3] w' fun e w'' => ∃ p, e = .returned (.pointer p) /\ TA w'.heap.size bare (cutTree X.1) p w'' /\ Below w'.heap.size w' w'') := fun a3 c3 w' hb hpa => by
   have := treeOf_any rank_said (fun w1 w2 k hb => KTab.below k hb) a3 X.1 c3 w' hpa (hK.below hb)
   rw [merged_cut X.1 (ku_apart hup)] at this
   exact this
  have HX : Hid (cf X.1 = 0 -> ∀ w3 w5 sb r a' c' q, Below w.heap.size w w3 -> SB (gp + 1) 0 0 none 0 0 ⟨#[]⟩ ⟨#[]⟩ ⟨#[]⟩ w3 -> StockAt sb r (sb + 1) wd ss a' c' w3 -> TA w3.heap.size bare (cutTree (tf X.1)) q w5 -> Below w3.heap.size w3 w5 -> Calls prog 81 #[.pointer (some ⟨sb, 0, none⟩), .pointer q] w5 fun e W => ∃ a m c, e = .returned (svV (savO wd ss (cutTree (tf X.1))).cd (savO wd ss (cutTree (tf X.1))).n a m c (savO wd ss (cutTree (tf X.1))).root (savO wd ss (cutTree (tf X.1))).x (savO wd ss (cutTree (tf X.1))).y) /\ SB (gp + 1) 0 0 none 0 0 ⟨#[]⟩ ⟨#[]⟩ ⟨#[]⟩ W /\ SavedIs (savO wd ss (cutTree (tf X.1))) w (.returned (svV (savO wd ss (cutTree (tf X.1))).cd (savO wd ss (cutTree (tf X.1))).n a m c (savO wd ss (cutTree (tf X.1))).root (savO wd ss (cutTree (tf X.1))).x (savO wd ss (cutTree (tf X.1))).y)) (set6 W (gp + 1) (savO wd ss (cutTree (tf X.1))).cd (savO wd ss (cutTree (tf X.1))).n a m c (savO wd ss (cutTree (tf X.1))).root (savO wd ss (cutTree (tf X.1))).x (savO wd ss (cutTree (tf X.1))).y)) := fun hcf w3 w5 sb r a' c' q hb3 hB3 hS3 hT5 hb5 => by
   obtain ⟨ha, hsz⟩ := hap hcf
   have hin := cutTree_inord (tf X.1)
   refine (saved_any HH sb r (sb + 1) wd ss a' c' (cutTree (tf X.1)) q w3.heap.size w3 w5 hb5 (Nat.le_refl _) (fun W hW => hS3.below (hb5.trans hW)) (fun W hW => (hK.below hb3).below (hb5.trans hW)) hb5.size hT5 (by rw [hin]; exact ha) (by rw [hin]; exact hsz) hp'.2.2 h.sz (by omega) (by omega)).mono ?_
   intro e W hE
   exact SavedIs.put hE hb3 hB3 (by omega)
  have HCc : Hid _ := HCr
  clear HCr
  obtain ⟨qs, hqs⟩ : ∃ qs, tf X.1 = qs := ⟨_, rfl⟩
  obtain ⟨cd, hcd⟩ : ∃ cd, cf X.1 = cd := ⟨_, rfl⟩
  rw [hqs, hcd] at HX HCc HO
  obtain ⟨ps, xc⟩ := X
  dsimp only at HX HCc HO HL HT
  obtain ⟨K, hKK⟩ : ∃ K, ps.length = K := ⟨_, rfl⟩
  rw [hKK] at HL HT
  clear h hK HH HC HD hX hrM hup hsm hok hap hqs hcd hKK hp'
  by_cases hx : xc = 0
  · subst hx
    by_cases hc0 : cd = 0
    · subst hc0
      have ho : Hid (O = savO wd ss (cutTree qs)) := by
       show _ = _
       rw [<- HO.out]
       rfl
      have HX' := HX.out rfl
      generalize savO wd ss (cutTree qs) = O' at HX' ho
      obtain ⟨od, on, oxs, oroot, ox, oy⟩ := O'
      dsimp only at HX'
      have HX'' : Hid _ := HX'
      clear HX HX' HO
      go_wp2_with (first | (go_at_call 68; refine (HV.out _).mono ?_; rintro e w1 ⟨rfl, hb1⟩; obtain ⟨hbw1, hB1, q0, q1⟩ := HB.out _ hb1) | (go_at_call 70; refine (HS.out _ hbw1).mono ?_; rintro e w2 ⟨sb, r, a2, c2, rfl, hS2, hb2⟩; have hB2 : SB (gp + 1) 0 0 none 0 0 ⟨#[]⟩ ⟨#[]⟩ ⟨#[]⟩ w2 := pblk_below hb2 hB1; have hbw2 := hbw1.trans (hb2.mono hbw1.size); clear q0 q1) | (go_at_call 69; refine (HL.out _ _ _ _ _ hbw2 hS2).mono ?_; rintro e w3 ⟨a3, c3, rfl, hP3, hb3⟩; have hB3 : SB (gp + 1) 0 0 none 0 0 ⟨#[]⟩ ⟨#[]⟩ ⟨#[]⟩ w3 := pblk_below hb3 hB2; have hbw3 := hbw2.trans (hb3.mono hbw2.size); have hS3 := hS2.below hb3) | (go_at_call 82; refine (HT.out _ _ _ hbw3 hP3).mono ?_; rintro e w4 ⟨p4, rfl, hT4, hb4⟩; have hbw4 := hbw3.trans (hb4.mono hbw3.size); have hs4 := hb4.size) | (go_at_call 62; refine (HCc.out _ _ _ hbw4 hs4 hT4).mono ?_; rintro e w5 ⟨q5, rfl, hT5, hb5⟩; have hb35 := hb4.trans (hb5.mono hs4)) | (go_at_call 81; refine (HX''.out _ _ _ _ _ _ _ hbw3 hB3 hS3 (hT5 (by trivial)) hb35).mono ?_; rintro e w6 ⟨a6, m6, c6, rfl, hB6, hF6⟩; obtain ⟨d0, d1, d2, d3, d4, d5, df⟩ := hB6.at))
      exact retS Tryz.results61 rfl rfl (hB6.all od on a6 m6 c6 oroot ox oy) (by rw [ho.out]; exact hF6)
    · have ho : Hid (O = codeO cd) := by
       show _ = _
       rw [<- HO.out]
       unfold chgO
       rw [if_neg (by simp), if_pos hc0]
      have zc : (cd != 0) = true := by simp [hc0]
      clear HX HO hc0
      go_wp2_with (first | (go_at_call 68; refine (HV.out _).mono ?_; rintro e w1 ⟨rfl, hb1⟩; obtain ⟨hbw1, hB1, q0, q1⟩ := HB.out _ hb1) | (go_at_call 70; refine (HS.out _ hbw1).mono ?_; rintro e w2 ⟨sb, r, a2, c2, rfl, hS2, hb2⟩; have hB2 : SB (gp + 1) 0 0 none 0 0 ⟨#[]⟩ ⟨#[]⟩ ⟨#[]⟩ w2 := pblk_below hb2 hB1; have hbw2 := hbw1.trans (hb2.mono hbw1.size); clear q0 q1) | (go_at_call 69; refine (HL.out _ _ _ _ _ hbw2 hS2).mono ?_; rintro e w3 ⟨a3, c3, rfl, hP3, hb3⟩; have hB3 : SB (gp + 1) 0 0 none 0 0 ⟨#[]⟩ ⟨#[]⟩ ⟨#[]⟩ w3 := pblk_below hb3 hB2; have hbw3 := hbw2.trans (hb3.mono hbw2.size)) | (go_at_call 82; refine (HT.out _ _ _ hbw3 hP3).mono ?_; rintro e w4 ⟨p4, rfl, hT4, hb4⟩; have hbw4 := hbw3.trans (hb4.mono hbw3.size); have hs4 := hb4.size) | (go_at_call 62; refine (HCc.out _ _ _ hbw4 hs4 hT4).mono ?_; rintro e w5 ⟨q5, rfl, _, hb5⟩; have hB5 : SB (gp + 1) 0 0 none 0 0 ⟨#[]⟩ ⟨#[]⟩ ⟨#[]⟩ w5 := pblk_below hb5 (pblk_below hb4 hB3); have hbw5 := hbw4.trans (hb5.mono hbw4.size); obtain ⟨d0, d1, d2, d3, d4, d5, df⟩ := hB5.at))
      exact retS Tryz.results61 rfl rfl (hB5.all cd 0 none 0 0 ⟨#[]⟩ ⟨#[]⟩ ⟨#[]⟩) (by rw [ho.out]; exact SavedIs.code hbw5 hB5 hge')
  · have ho : Hid (O = codeO xc) := by
     show _ = _
     rw [<- HO.out]
     unfold chgO
     rw [if_pos hx]
    have zc : (xc != 0) = true := by simp [hx]
    clear HX HO HCc HT
    go_wp2_with (first | (go_at_call 68; refine (HV.out _).mono ?_; rintro e w1 ⟨rfl, hb1⟩; obtain ⟨hbw1, hB1, q0, q1⟩ := HB.out _ hb1) | (go_at_call 70; refine (HS.out _ hbw1).mono ?_; rintro e w2 ⟨sb, r, a2, c2, rfl, hS2, hb2⟩; have hB2 : SB (gp + 1) 0 0 none 0 0 ⟨#[]⟩ ⟨#[]⟩ ⟨#[]⟩ w2 := pblk_below hb2 hB1; have hbw2 := hbw1.trans (hb2.mono hbw1.size); clear q0 q1) | (go_at_call 69; refine (HL.out _ _ _ _ _ hbw2 hS2).mono ?_; rintro e w3 ⟨a3, c3, rfl, hP3, hb3⟩; have hB3 : SB (gp + 1) 0 0 none 0 0 ⟨#[]⟩ ⟨#[]⟩ ⟨#[]⟩ w3 := pblk_below hb3 hB2; have hbw3 := hbw2.trans (hb3.mono hbw2.size); obtain ⟨d0, d1, d2, d3, d4, d5, df⟩ := hB3.at))
    exact retS Tryz.results61 rfl rfl (hB3.all xc 0 none 0 0 ⟨#[]⟩ ⟨#[]⟩ ⟨#[]⟩) (by rw [ho.out]; exact SavedIs.code hbw3 hB3 hge')
end Go.Proofs.YtfmpjlpakldheaaGreatDoor
