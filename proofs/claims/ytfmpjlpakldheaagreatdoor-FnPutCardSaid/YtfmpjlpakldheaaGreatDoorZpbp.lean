import Derived.Test.YtfmpjlpakldheaaGreatDoorZpbl
import Derived.Test.YtfmpjlpakldheaaGreatDoorZpbf
import Derived.Test.YtfmpjlpakldheaaGreatDoorZpbo
import Derived.Test.YtfmpjlpakldheaaGreatDoorZpar
import Derived.Test.YtfmpjlpakldheaaGreatDoorZpbe
set_option maxRecDepth 100000
set_option maxHeartbeats 2000000
namespace Go.Proofs.YtfmpjlpakldheaaGreatDoor
open Tryz
open Go.RowKit Go.Proofs.Sha
theorem sput_any (HDg : Hid DigSaid) (D : Dec) (n : Int) (HD2 : Hid (∀ wd : Nat, (wd : Int) = n -> 1 <= wd -> wd <= 32 -> DecSaid 148 wd D)) (hdo : ∀ wd : Nat, (wd : Int) = n -> DecOk wd D) (a : Option Addr) (ss : List ByteArray) (c : Nat) (root key val : ByteArray) (w : World) (h : SArg a ss w) (hs : Hid (∀ j, (ss.getD j ⟨#[]⟩).size <= 1048575)) (hr : root.size <= 1048576) (hk : key.size <= 1048576) (hv : val.size <= 1048576) :
 Calls prog 38 #[.agg #[.int .i64 n, .slice a ss.length c], .string root, .string key, .string val] w (SavedIs (putO D n ss root key val) w) := by
 have hbA : Below w.heap.size w ((w.alloc (.cells #[.int .i64 n, .slice a ss.length c] 37)).alloc (.cells #[.int .i64 0, .int .i64 0, .slice none 0 0, .string ⟨#[]⟩, .string ⟨#[]⟩, .string ⟨#[]⟩] 40)) := ((Below.refl _ _).alloc (Nat.le_refl _) _).alloc (by simp) _
 have nB := heap_alloc_new (w.alloc (.cells #[.int .i64 n, .slice a ss.length c] 37)) (.cells #[.int .i64 0, .int .i64 0, .slice none 0 0, .string ⟨#[]⟩, .string ⟨#[]⟩, .string ⟨#[]⟩] 40)
 have nA := (Below.heap_alloc (w.alloc (.cells #[.int .i64 n, .slice a ss.length c] 37)) (.cells #[.int .i64 0, .int .i64 0, .slice none 0 0, .string ⟨#[]⟩, .string ⟨#[]⟩, .string ⟨#[]⟩] 40) w.heap.size (by simp)).trans (heap_alloc_new w _)
 rw [World.size_alloc] at nB
 have HLd : Hid (∀ w', Below w.heap.size w w' -> Calls prog 26 #[.agg #[.int .i64 n, .slice a ss.length c], .string root] w' (RangeAt (rangeM (fndD D n.toNat ss) n ss.length root ⟨#[]⟩ ⟨#[]⟩) w')) := fun w' hb => sld_any HDg D n HD2 hdo a ss c root w' (h.below hb) hs hr
 have HB : Hid (∀ W, Below ((w.alloc (.cells #[.int .i64 n, .slice a ss.length c] 37)).alloc (.cells #[.int .i64 0, .int .i64 0, .slice none 0 0, .string ⟨#[]⟩, .string ⟨#[]⟩, .string ⟨#[]⟩] 40)).heap.size ((w.alloc (.cells #[.int .i64 n, .slice a ss.length c] 37)).alloc (.cells #[.int .i64 0, .int .i64 0, .slice none 0 0, .string ⟨#[]⟩, .string ⟨#[]⟩, .string ⟨#[]⟩] 40)) W -> Below w.heap.size w W /\ SB (w.heap.size + 1) 0 0 none 0 0 ⟨#[]⟩ ⟨#[]⟩ ⟨#[]⟩ W /\ W.cell? ⟨w.heap.size, 0, none⟩ = some (.int .i64 n) /\ W.cell? ⟨w.heap.size, 1, none⟩ = some (.slice a ss.length c)) := fun W hW => ⟨hbA.trans (hW.mono hbA.size), pblk_below hW nB, ZC (pblk_below hW nA) 0, ZC (pblk_below hW nA) 1⟩
 have hge' : w.heap.size <= w.heap.size + 1 := Nat.le_succ _
 have hfo : poolOk n ss.length = true -> KeysUp (keys (rangeM (fndD D n.toNat ss) n ss.length root ⟨#[]⟩ ⟨#[]⟩).1) /\ ((rangeM (fndD D n.toNat ss) n ss.length root ⟨#[]⟩ ⟨#[]⟩).1.length <= 500 /\ SmallP (rangeM (fndD D n.toNat ss) n ss.length root ⟨#[]⟩ ⟨#[]⟩).1) /\ ∀ p ∈ (rangeM (fndD D n.toNat ss) n ss.length root ⟨#[]⟩ ⟨#[]⟩).1, okKey p.1 = true /\ okVal p.2 = true := fun hp => by
  have hp' : 1 <= n /\ n <= 32 /\ ss.length <= 20000 := of_decide_eq_true hp
  have hf : FndOk n.toNat (fndD D n.toNat ss) := fndD_ok D n.toNat ss (hdo n.toNat (by omega))
  refine ⟨rangeM_up hf _ _ _ _ _, rangeM_small hf _ _ _ _ _, fun p hpm => ?_⟩
  unfold rangeM at hpm
  split at hpm
  · split at hpm
    · exact goF_ok hf _ _ _ _ _ _ p hpm
    · cases hpm
  · cases hpm
 have hz : (rangeM (fndD D n.toNat ss) n ss.length root ⟨#[]⟩ ⟨#[]⟩).2 = 0 -> poolOk n ss.length = true := rangeM_zero
 have HPk : Hid (∀ w', Calls prog 90 #[.string key, .string val] w' fun e w'' => e = .returned (.bool (okKey key && okVal val)) /\ w'' = w') := fun w' => pairOk_q key val w' hk hv
 have hod : putO D n ss root key val = chgO n ss (rangeM (fndD D n.toNat ss) n ss.length root ⟨#[]⟩ ⟨#[]⟩) (putCd key val (rangeM (fndD D n.toNat ss) n ss.length root ⟨#[]⟩ ⟨#[]⟩).1) (wth (rangeM (fndD D n.toNat ss) n ss.length root ⟨#[]⟩ ⟨#[]⟩).1 key val) := rfl
 generalize rangeM (fndD D n.toNat ss) n ss.length root ⟨#[]⟩ ⟨#[]⟩ = X at HLd hfo hz hod
 obtain ⟨ps, xc⟩ := X
 dsimp only at hfo hz hod
 generalize putO D n ss root key val = O at hod ⊢
 have HO : Hid _ := hod
 clear hod
 have HL : Hid (∀ w', Below w.heap.size w w' -> Calls prog 26 #[.agg #[.int .i64 n, .slice a ss.length c], .string root] w' fun e w'' => ∃ a3 c3, e = .returned (.tuple #[.slice a3 ps.length c3, .int .i64 xc]) /\ w''.ownsRow w'.heap.size 34 2 (.slice a3 ps.length c3) ps.length (flatP ps) /\ Below w'.heap.size w' w'') := fun w' hb => (HLd.out w' hb).mono (by
  rintro e w'' ⟨⟨a3, c3, he, ho⟩, hb2⟩
  exact ⟨a3, c3, he, ho, hb2⟩)
 have hsH : Hid (∀ j, (ss.getD j ⟨#[]⟩).size <= 1048575) := hs
 clear HLd nA nB
 by_cases hx : xc = 0
 · subst hx
   have hpo := hz rfl
   obtain ⟨hku, ⟨hlen, hsm⟩, hok⟩ := hfo hpo
   clear hfo hz
   by_cases hk1 : (okKey key && okVal val) = true
   · have hwl := wthLen ps key val
     have hsz : ∀ x ∈ wth ps key val, x.1.size <= 1048576 /\ x.2.size <= 1048576 := fun x hx => by
      rcases wth_mem hx with q | q
      · rw [q]; exact ⟨hk, hv⟩
      · exact smallP_mem hsm x q
     have hqs : SmallP (wth ps key val) := smallP_of (by omega) hsz
     have HPk' : Hid (∀ w', Calls prog 90 #[.string key, .string val] w' fun e w'' => e = .returned (.bool true) /\ w'' = w') := fun w' => by
      have := HPk.out w'
      rw [hk1] at this
      exact this
     have HW : Hid (∀ a3 c3 w', PArg a3 ps w' -> Calls prog 91 #[.slice a3 ps.length c3, .string key, .string val] w' fun e w'' => ∃ a4 c4, e = .returned (.slice a4 (wth ps key val).length c4) /\ PArg a4 (wth ps key val) w'' /\ (wth ps key val).length <= c4 /\ Below w'.heap.size w' w'') := fun a3 c3 w' hp => (with_any a3 ps c3 key val w' hp hk (by omega)).mono (by
      rintro e w'' ⟨a4, c4, he, ho⟩
      exact ⟨a4, c4, he, ownp_parg ho hqs, own2_le ho.own, ho.bel⟩)
     by_cases hm5 : (wth ps key val).length <= 500
     · have z5 : decide ((500 : Int) < ((wth ps key val).length : Int)) = false := by rw [decide_eq_false_iff_not]; omega
       have z6 : ¬ (((wth ps key val).length : Int) > 500) := by omega
       have hmap : isMapT (wth ps key val) = true := isMapT_of (ku_wth hku key val) (fun p hp => by
        rcases wth_mem hp with q | q
        · rw [q]; exact (Bool.and_eq_true _ _).mp hk1
        · exact hok p q) hm5
       have ho : Hid (O = saveO n ss (wth ps key val)) := by
        show _ = _
        rw [HO.out]
        unfold chgO saveO
        have hc0 : putCd key val ps = 0 := by unfold putCd; rw [if_pos hk1, if_neg (by omega)]
        rw [if_neg (by simp), if_neg (by rw [hc0]; simp), if_pos (by rw [hpo, hmap]; rfl)]
       clear hmap
       have HSv : Hid (∀ a4 c4 w', Below w.heap.size w w' -> SB (w.heap.size + 1) 0 0 none 0 0 ⟨#[]⟩ ⟨#[]⟩ ⟨#[]⟩ w' -> w'.cell? ⟨w.heap.size, 0, none⟩ = some (.int .i64 n) -> w'.cell? ⟨w.heap.size, 1, none⟩ = some (.slice a ss.length c) -> PArg a4 (wth ps key val) w' -> (wth ps key val).length <= c4 -> Calls prog 29 #[.agg #[.int .i64 n, .slice a ss.length c], .slice a4 (wth ps key val).length c4] w' fun e W => ∃ a' m c', e = .returned (svV (saveO n ss (wth ps key val)).cd (saveO n ss (wth ps key val)).n a' m c' (saveO n ss (wth ps key val)).root (saveO n ss (wth ps key val)).x (saveO n ss (wth ps key val)).y) /\ W.cell? ⟨w.heap.size, 0, none⟩ = some (.int .i64 n) /\ W.cell? ⟨w.heap.size, 1, none⟩ = some (.slice a ss.length c) /\ SB (w.heap.size + 1) 0 0 none 0 0 ⟨#[]⟩ ⟨#[]⟩ ⟨#[]⟩ W /\ SavedIs (saveO n ss (wth ps key val)) w (.returned (svV (saveO n ss (wth ps key val)).cd (saveO n ss (wth ps key val)).n a' m c' (saveO n ss (wth ps key val)).root (saveO n ss (wth ps key val)).x (saveO n ss (wth ps key val)).y)) (set6 W (w.heap.size + 1) (saveO n ss (wth ps key val)).cd (saveO n ss (wth ps key val)).n a' m c' (saveO n ss (wth ps key val)).root (saveO n ss (wth ps key val)).x (saveO n ss (wth ps key val)).y)) := fun a4 c4 w' hb hB hq0 hq1 hp hl => by
        refine (ssave_any HDg n a ss c a4 (wth ps key val) c4 w' (h.below hb) hs hp hl).mono ?_
        intro e W hE
        have hbe : Below w'.heap.size w' W := by
         obtain ⟨_, _, _, hT⟩ := hE
         exact hT.bel
        obtain ⟨a', m, c', r1, r2, r3⟩ := SavedIs.put hE hb hB hge'
        exact ⟨a', m, c', r1, (hbe.cell (World.block_lt_of_cell? w' _ hq0)).trans hq0, (hbe.cell (World.block_lt_of_cell? w' _ hq1)).trans hq1, r2, r3⟩
       generalize saveO n ss (wth ps key val) = O' at HSv ho
       obtain ⟨od, on, oxs, oroot, ox, oy⟩ := O'
       dsimp only at HSv
       obtain ⟨HsmH⟩ : Nonempty (Hid (SmallP ps)) := ⟨hsm⟩
       generalize hLL : (wth ps key val).length = L at HW HSv z5 z6
       obtain ⟨K, hKK⟩ : ∃ K, ps.length = K := ⟨_, rfl⟩
       have HP : Hid (∀ w' b a3 c3, w'.ownsRow b 34 2 (.slice a3 K c3) K (flatP ps) -> PArg a3 ps w') := fun w' b a3 c3 q => by rw [<- hKK] at q; exact own_parg q HsmH.out
       rw [hKK] at HW HL
       clear HO HPk hqs hku hok hKK hk1 HsmH hsm hlen hLL hwl hsz hm5
       go_enter func38, ntmps38
       go_wp2_with (first | (go_at_call 26; refine (HL.out _ hbA).mono ?_; rintro e w1 ⟨a3, c3, rfl, ho1, hb1⟩; obtain ⟨hbw1, hB1, q0, q1⟩ := HB.out _ hb1; have hP1 := HP.out _ _ _ _ ho1; clear ho1) | (go_at_call 90; refine (HPk'.out _).mono ?_; rintro e w2 ⟨rfl, rfl⟩) | (go_at_call 91; refine (HW.out _ _ _ hP1).mono ?_; rintro e w3 ⟨a4, c4, rfl, hP3, hl3, hb3⟩; obtain ⟨hbw3, hB3, q3, q4⟩ := HB.out _ (hb1.trans (hb3.mono hb1.size))) | (go_at_call 29; refine (HSv.out _ _ _ hbw3 hB3 q3 q4 hP3 hl3).mono ?_; rintro e w6 ⟨a6, m6, c6, rfl, q5, q6, hB6, hF6⟩; obtain ⟨d0, d1, d2, d3, d4, d5, df⟩ := hB6.at))
       exact retS Tryz.results38 rfl rfl (hB6.all od on a6 m6 c6 oroot ox oy) (by rw [ho.out]; exact hF6)
     · have z5 : decide ((500 : Int) < ((wth ps key val).length : Int)) = true := by rw [decide_eq_true_eq]; omega
       have z6 : (((wth ps key val).length : Int) > 500) := by omega
       have ho : Hid (O = codeO 6) := by
        show _ = _
        rw [HO.out]
        unfold chgO
        have hc0 : putCd key val ps = 6 := by unfold putCd; rw [if_pos hk1, if_pos (by omega)]
        rw [if_neg (by simp), hc0, if_pos (by decide)]
       obtain ⟨HsmH⟩ : Nonempty (Hid (SmallP ps)) := ⟨hsm⟩
       generalize hLL : (wth ps key val).length = L at HW z5 z6
       obtain ⟨K, hKK⟩ : ∃ K, ps.length = K := ⟨_, rfl⟩
       have HP : Hid (∀ w' b a3 c3, w'.ownsRow b 34 2 (.slice a3 K c3) K (flatP ps) -> PArg a3 ps w') := fun w' b a3 c3 q => by rw [<- hKK] at q; exact own_parg q HsmH.out
       rw [hKK] at HW HL
       clear HO HPk hqs hku hlen hsm hok hKK hk1 HsmH hLL hwl hsz hm5
       go_enter func38, ntmps38
       go_wp2_with (first | (go_at_call 26; refine (HL.out _ hbA).mono ?_; rintro e w1 ⟨a3, c3, rfl, ho1, hb1⟩; obtain ⟨hbw1, hB1, q0, q1⟩ := HB.out _ hb1; have hP1 := HP.out _ _ _ _ ho1; clear ho1) | (go_at_call 90; refine (HPk'.out _).mono ?_; rintro e w2 ⟨rfl, rfl⟩) | (go_at_call 91; refine (HW.out _ _ _ hP1).mono ?_; rintro e w3 ⟨a4, c4, rfl, hP3, hl3, hb3⟩; obtain ⟨hbw3, hB3, q0, q1⟩ := HB.out _ (hb1.trans (hb3.mono hb1.size)); obtain ⟨d0, d1, d2, d3, d4, d5, df⟩ := hB3.at))
       exact retS Tryz.results38 rfl rfl (hB3.all 6 0 none 0 0 ⟨#[]⟩ ⟨#[]⟩ ⟨#[]⟩) (by rw [ho.out]; exact SavedIs.code hbw3 hB3 hge')
   · have ho : Hid (O = codeO 1) := by
      show _ = _
      rw [HO.out]
      unfold chgO
      rw [if_neg (by simp), show putCd key val ps = 1 from if_neg hk1, if_pos (by decide)]
     have HPk' : Hid (∀ w', Calls prog 90 #[.string key, .string val] w' fun e w'' => e = .returned (.bool false) /\ w'' = w') := fun w' => by
      have := HPk.out w'
      rw [Bool.not_eq_true] at hk1
      rw [hk1] at this
      exact this
     generalize ps.length = K at HL
     clear HO HPk hku hok hk1
     go_enter func38, ntmps38
     go_wp2_with (first | (go_at_call 26; refine (HL.out _ hbA).mono ?_; rintro e w1 ⟨a3, c3, rfl, _, hb1⟩; obtain ⟨hbw1, hB1, q0, q1⟩ := HB.out _ hb1; obtain ⟨d0, d1, d2, d3, d4, d5, df⟩ := hB1.at) | (go_at_call 90; refine (HPk'.out _).mono ?_; rintro e w2 ⟨rfl, rfl⟩))
     exact retS Tryz.results38 rfl rfl (hB1.all 1 0 none 0 0 ⟨#[]⟩ ⟨#[]⟩ ⟨#[]⟩) (by rw [ho.out]; exact SavedIs.code hbw1 hB1 hge')
 · have ho : Hid (O = codeO xc) := by
    show _ = _
    rw [HO.out]
    unfold chgO
    rw [if_pos hx]
   have zc : (xc != 0) = true := by simp [hx]
   generalize ps.length = K at HL
   clear HO hx hfo hz
   go_enter func38, ntmps38
   go_wp2_with (first | (go_at_call 26; refine (HL.out _ hbA).mono ?_; rintro e w1 ⟨a3, c3, rfl, _, hb1⟩; obtain ⟨hbw1, hB1, q0, q1⟩ := HB.out _ hb1; obtain ⟨d0, d1, d2, d3, d4, d5, df⟩ := hB1.at))
   exact retS Tryz.results38 rfl rfl (hB1.all xc 0 none 0 0 ⟨#[]⟩ ⟨#[]⟩ ⟨#[]⟩) (by rw [ho.out]; exact SavedIs.code hbw1 hB1 hge')
theorem rangeM_okp {fnd : ByteArray -> FN} {wd : Nat} (hfo : FndOk wd fnd) (n : Int) (m : Nat) (root lo hi : ByteArray) : ∀ p ∈ (rangeM fnd n m root lo hi).1, okKey p.1 = true /\ okVal p.2 = true := by
 unfold rangeM
 intro p hp
 split at hp
 · split at hp
   · exact goF_ok hfo 501 root ⟨#[]⟩ ⟨#[]⟩ ⟨#[]⟩ 0 p hp
   · simp at hp
 · simp at hp
theorem mem_wth2 {ps : List PairT} {k v : ByteArray} {p : PairT} (h : p ∈ wth ps k v) : p = (k, v) \/ p ∈ ps := by
 rcases mem_ins' h with q | q
 · exact .inl q
 · exact .inr (List.mem_filter.1 q).1
theorem put_good (D : Dec) (wd : Nat) (hD : DecEnc wd D) (hdo : DecOk wd D) {ss : List ByteArray} {root key val : ByteArray} {m s : Nat} (hs : SmT ss m s) (h10 : 10000 <= s) (hm : m + 1010 < 20000) {old : List PairT}
 (hA : rangeM (fndD D wd ss) (wd : Int) ss.length root ⟨#[]⟩ ⟨#[]⟩ = (old, 0)) (hc : (putO D (wd : Int) ss root key val).cd = 0) :
 (1 <= wd /\ wd <= 32) /\ ∃ (ad : List ByteArray) (R : ByteArray), putO D (wd : Int) ss root key val = ⟨0, (wd : Int), ss ++ ad, R, ⟨#[]⟩, ⟨#[]⟩⟩ /\ SmT (ss ++ ad) (m + 501) s /\ R.size <= 32 ∧
  rangeM (fndD D wd (ss ++ ad)) (wd : Int) (ss ++ ad).length R ⟨#[]⟩ ⟨#[]⟩ = (wth old key val, 0) ∧
  rangeM (fndD D wd (ss ++ ad)) (wd : Int) (ss ++ ad).length root ⟨#[]⟩ ⟨#[]⟩ = (old, 0) ∧
  (((delO D (wd : Int) (ss ++ ad) R key).cd = 0 /\ (delO D (wd : Int) (ss ++ ad) R key).root = rootS (wout old key) (wd : Int)) ∨
   (∃ u e, (delO D (wd : Int) (ss ++ ad) R key).cd = 4 /\ (delO D (wd : Int) (ss ++ ad) R key).x = txt u /\ (delO D (wd : Int) (ss ++ ad) R key).y = txt e /\ u ≠ e /\ hashT wd u = hashT wd e /\ u.size <= s /\ e.size <= s)) := by
 have hsl := hs.len
 have hfo := fndD_ok D wd ss hdo
 have hku : KeysUp (keys old) := by have := rangeM_up hfo (wd : Int) ss.length root ⟨#[]⟩ ⟨#[]⟩; rw [hA] at this; exact this
 have hok : ∀ p ∈ old, okKey p.1 = true /\ okVal p.2 = true := by have := rangeM_okp hfo (wd : Int) ss.length root ⟨#[]⟩ ⟨#[]⟩; rw [hA] at this; exact this
 have hol : old.length <= 500 := by have := (rangeM_small hfo (wd : Int) ss.length root ⟨#[]⟩ ⟨#[]⟩).1; rw [hA] at this; exact this
 have hw : 1 <= wd /\ wd <= 32 := by
  by_cases hp : (poolOk (wd : Int) ss.length && hashOk root.size (wd : Int)) = true
  · have hp' : 1 <= (wd : Int) /\ (wd : Int) <= 32 /\ ss.length <= 20000 := of_decide_eq_true ((Bool.and_eq_true _ _).mp hp).1
    omega
  · rw [rangeM_bad (by simpa using hp)] at hA
    cases hA
 refine ⟨hw, ?_⟩
 unfold putO chgO at hc
 rw [Int.toNat_natCast, hA] at hc
 simp only [ne_eq, not_true_eq_false, if_false] at hc
 have hput : putO D (wd : Int) ss root key val = (if putCd key val old ≠ 0 then codeO (putCd key val old) else savO wd ss (cutTree (wth old key val))) := by
  unfold putO chgO
  rw [Int.toNat_natCast, hA]
  simp only [ne_eq, not_true_eq_false, if_false]
 by_cases hcd : putCd key val old ≠ 0
 · rw [if_pos hcd] at hc
   exact absurd hc hcd
 · rw [if_neg hcd] at hc hput
   have hcd0 := Classical.byContradiction hcd
   unfold putCd at hcd0
   split at hcd0
   · rename_i hkv
     have hkv2 := (Bool.and_eq_true _ _).mp hkv
     split at hcd0
     · cases hcd0
     · rename_i hnl
       have hmap : isMapT (wth old key val) = true := isMapT_of (ku_wth hku key val) (fun p hp => by
        rcases mem_wth2 hp with q | q
        · rw [q]; exact hkv2
        · exact hok p q) (by omega)
       have hmap2 : isMapT (wout old key) = true := isMapT_of (ku_wout hku key) (fun p hp => hok p (List.mem_filter.1 hp).1) (by have := wout_le old key; omega)
       rcases savO_cases (wd := wd) (k := 500) (ps := wth old key val) hs h10 (by omega) (by omega) with ⟨ad, hsv, he, hsm⟩ | ⟨u, e, he, _⟩
       · have hsm' : SmT (ss ++ ad) (m + 501) s := ⟨by have := hsm.len; omega, hsm.sz⟩
         have hl2 : (ss ++ ad).length <= 20000 := by have := hsm.len; omega
         have h1 := saved_loads D wd hD hw.1 hw.2 hmap hsv hl2
         have h2 : rangeM (fndD D wd (ss ++ ad)) (wd : Int) (ss ++ ad).length root ⟨#[]⟩ ⟨#[]⟩ = (old, 0) := by
          rw [rangeM_more D wd ss ad root ⟨#[]⟩ ⟨#[]⟩ hl2 (by rw [hA]), hA]
         refine ⟨ad, _, hput.trans he, hsm', by have := rootT_size wd hw.2 (cutTree (wth old key val)); omega, h1, h2, ?_⟩
         have hdel : delO D (wd : Int) (ss ++ ad) (rootT wd (cutTree (wth old key val))) key = savO wd (ss ++ ad) (cutTree (wout old key)) := by
          unfold delO chgO
          rw [Int.toNat_natCast, h1]
          simp only [ne_eq, not_true_eq_false, if_false]
          rw [if_pos hkv2.1, wout_wth old hku key val]
          simp
         rw [hdel]
         have hwl := wout_le old key
         rcases savO_cases (wd := wd) (k := 500) (ps := wout old key) hsm' h10 (by omega) (by omega) with ⟨ad2, _, he2, _⟩ | ⟨u, e, he2, q1, q2, q3, q4⟩
         · left
           rw [he2]
           refine ⟨rfl, ?_⟩
           show rootT wd (cutTree (wout old key)) = _
           unfold rootS
           have hisw : isW (wd : Int) = true := by unfold isW; rw [Bool.and_eq_true, decide_eq_true_eq, decide_eq_true_eq]; omega
           rw [hmap2, hisw, Int.toNat_natCast]
           rfl
         · right
           exact ⟨u, e, by rw [he2], by rw [he2], by rw [he2], q1, q2, q3, q4⟩
       · rw [he] at hc
         cases hc
   · cases hcd0
theorem wless_p (p q : ByteArray) (w : World) (hp : p.size <= 1048576) (hq : q.size <= 1048576) :
 Calls prog 35 #[.string p, .string q] w fun e w' => e = .returned (.bool (Op.bytesLess p.data.toList q.data.toList)) /\ (∃ m, w' = w.drewN m) := by
 have hpl : p.data.toList.length = p.size := rfl
 have hql : q.data.toList.length = q.size := rfl
 go_enter func35, ntmps35
 go_wp2_with fail
 go_loopw [5] (fun t wr => ∃ k : Nat, k <= p.size /\ k <= q.size /\ t = .int .i64 (k : Int) /\ Hid (Op.bytesLess p.data.toList q.data.toList = Op.bytesLess (p.data.toList.drop k) (q.data.toList.drop k)) /\ ∃ m, wr = w.drewN m) (fun t _ => p.size - (intOf t).toNat)
 case atStart => exact ⟨0, by omega, by omega, rfl, rfl, 0, rfl⟩
 case round =>
  obtain ⟨k, hk1, hk2, rfl, HL, hb⟩ := hrel
  by_cases h1 : k < p.size
  · by_cases h2 : k < q.size
    · have z1 : (0 : Int) <= (k : Int) := by omega
      have z2 : (k : Int) < (p.size : Int) := by omega
      have z3 : (k : Int) < (q.size : Int) := by omega
      go_wp2_with fail
      go_region
      rw [bget p k h1, bget q k h2]
      have HE := less_eq p.data.toList q.data.toList k h1 h2
      have HN := less_ne p.data.toList q.data.toList k h1 h2
      obtain ⟨x, hx⟩ : ∃ x, p.data.toList.getD k 0 = x := ⟨_, rfl⟩
      obtain ⟨y, hy⟩ : ∃ y, q.data.toList.getD k 0 = y := ⟨_, rfl⟩
      rw [hx, hy] at HE HN
      rw [hx, hy]
      have HXY : Hid (p.data.toList.getD k 0 = x /\ q.data.toList.getD k 0 = y) := ⟨hx, hy⟩
      clear hx hy
      by_cases hxy : x = y
      · have c0 : ((x.toNat : Int) != (y.toNat : Int)) = false := by rw [hxy]; simp
        have HE' : Hid (Op.bytesLess p.data.toList q.data.toList = Op.bytesLess (p.data.toList.drop (k + 1)) (q.data.toList.drop (k + 1))) := HL.out.trans (HE hxy)
        clear HE HN hxy
        go_wp2_with fail
        go_roundw
        case rel => exact ⟨k + 1, by omega, by omega, by go_num, HE', drew1 hb⟩
        case measure => simp [intOf]; omega
      · have c0 : ((x.toNat : Int) != (y.toNat : Int)) = true := by
         rw [bne_iff_ne]; exact fun h => hxy (UInt8.toNat_inj.1 (by omega))
        have HN' : Hid (Op.bytesLess p.data.toList q.data.toList = decide (x.toNat < y.toNat)) := (HL.out.trans (HN hxy)).trans (by simp)
        clear HE HN hxy
        go_wp2_with fail
        go_region
        rw [bget p k h1, bget q k h2, HXY.out.1, HXY.out.2]
        go_wp2
        go_ret
        exact ⟨by rw [HN'.out]; rfl, drew1 (drew1 hb)⟩
    · have HN' : Hid (Op.bytesLess p.data.toList q.data.toList = decide (p.size < q.size)) := (HL.out.trans (less_end p.data.toList q.data.toList k (.inr (by omega)) (by omega) (by omega))).trans (by simp)
      go_wp2
      go_ret
      exact ⟨by rw [HN'.out]; rfl, hb⟩
  · have HN' : Hid (Op.bytesLess p.data.toList q.data.toList = decide (p.size < q.size)) := (HL.out.trans (less_end p.data.toList q.data.toList k (.inl (by omega)) (by omega) (by omega))).trans (by simp)
    go_wp2
    go_ret
    exact ⟨by rw [HN'.out]; rfl, hb⟩
theorem wsame_any (a b : Option Addr) (ps qs : List PairT) (c d : Nat) (w : World) (h : PArg a ps w) (h' : PArg b qs w) :
 Calls prog 22 #[.slice a ps.length c, .slice b qs.length d] w fun e w' => e = .returned (.bool (decide (ps = qs))) /\ Below w.heap.size w w' := by
 have hn := h.le
 have hm := h'.le
 obtain ⟨R, hR⟩ : ∃ R, decide (ps = qs) = R := ⟨_, rfl⟩
 rw [hR]
 have HR : Hid (decide (ps = qs) = R) := hR
 clear hR
 obtain ⟨N, hN⟩ : ∃ N, ps.length = N := ⟨_, rfl⟩
 obtain ⟨M, hM⟩ : ∃ M, qs.length = M := ⟨_, rfl⟩
 rw [hN] at hn ⊢
 rw [hM] at hm ⊢
 by_cases hNM : N = M
 · subst hNM
   have hNl : Hid (ps.length = N) := hN
   have hMl : Hid (qs.length = N) := hM
   clear hN hM
   go_enter func22, ntmps22
   go_wp2_with fail
   go_loopw [5] (fun t wr => ∃ k : Nat, k <= N /\ t = .int .i64 (k : Int) /\ Hid (ps.take k = qs.take k) /\ Below w.heap.size w wr) (fun t _ => N - (intOf t).toNat)
   case atStart => exact ⟨0, Nat.zero_le _, rfl, rfl, Below.refl _ _⟩
   case round =>
    obtain ⟨k, hk, rfl, hsame, hbw⟩ := hrel
    by_cases hlt : k < N
    · have z1 : decide ((k : Int) < (N : Int)) = true := by simp; omega
      have hx0 : (0 : Int) <= (k : Int) := Int.natCast_nonneg _
      have hx1 : (k : Int) < (N : Int) := by omega
      obtain ⟨b1, off1, rfl, hbl1, hc⟩ := (h.below hbw).at_ (by rw [hNl.out]; omega)
      obtain ⟨b2, off2, rfl, hbl2, hd⟩ := (h'.below hbw).at_ (by rw [hMl.out]; omega)
      obtain ⟨hc1, hc2⟩ := hc k (by rw [hNl.out]; exact hlt)
      obtain ⟨hd1, hd2⟩ := hd k (by rw [hMl.out]; exact hlt)
      have hkl : k < ps.length := by rw [hNl.out]; exact hlt
      have hkm : k < qs.length := by rw [hMl.out]; exact hlt
      have g1 := getD_lt ps k hkl
      have g2 := getD_lt qs k hkm
      have hstep : ps.getD k noPair = qs.getD k noPair -> ps.take (k + 1) = qs.take (k + 1) := fun e => by
       rw [List.take_succ_eq_append_getElem hkl, List.take_succ_eq_append_getElem hkm, hsame.out, <- g1, <- g2, e]
      have hneq : ps.getD k noPair ≠ qs.getD k noPair -> R = false := fun e => by
       rw [<- HR.out]
       exact decide_eq_false fun q => e (by rw [q])
      clear g1 g2 hkl hkm hc hd
      obtain ⟨x, hx⟩ : ∃ x, ps.getD k noPair = x := ⟨_, rfl⟩
      obtain ⟨y, hy⟩ : ∃ y, qs.getD k noPair = y := ⟨_, rfl⟩
      rw [hx] at hc1 hc2
      rw [hy] at hd1 hd2
      rw [hx, hy] at hstep hneq
      clear hx hy
      obtain ⟨xk, xv⟩ := x
      obtain ⟨yk, yv⟩ := y
      dsimp only at hc1 hc2 hd1 hd2
      replace hstep : Hid _ := hstep
      replace hneq : Hid _ := hneq
      cases v1 : (xk.toList == yk.toList) with
      | false =>
       have hRf : Hid (R = false) := hneq.out (fun e => by
        have : xk = yk := congrArg Prod.fst e
        subst this
        rw [beq_self_eq_true] at v1
        cases v1)
       clear hstep hneq HR hsame
       go_wp2_with fail
       go_quiet (fail)
       go_wp2_with fail
       go_ret
       exact ⟨by rw [hRf.out]; rfl, below_draws nq hbw⟩
      | true =>
       cases v2 : (xv.toList == yv.toList) with
       | false =>
        have hRf : Hid (R = false) := hneq.out (fun e => by
         have : xv = yv := congrArg Prod.snd e
         subst this
         rw [beq_self_eq_true] at v2
         cases v2)
        clear hstep hneq HR hsame
        go_wp2_with fail
        go_quiet (fail)
        go_wp2_with fail
        go_ret
        exact ⟨by rw [hRf.out]; rfl, below_draws nq hbw⟩
       | true =>
        have e1 : xk = yk := ByteArray.ext (Array.toList_inj.1 (by rw [beq_iff_eq, ByteArray.toList_eq, ByteArray.toList_eq] at v1; exact v1))
        have e2 : xv = yv := ByteArray.ext (Array.toList_inj.1 (by rw [beq_iff_eq, ByteArray.toList_eq, ByteArray.toList_eq] at v2; exact v2))
        have hs' : Hid (ps.take (k + 1) = qs.take (k + 1)) := hstep.out (by rw [e1, e2])
        clear hstep hneq HR hsame e1 e2
        go_wp2_with fail
        go_quiet (fail)
        go_wp2_with fail
        go_roundw
        case rel => exact ⟨k + 1, hlt, by go_num, hs', below_draws nq hbw⟩
        case measure => simp [intOf]; omega
    · obtain rfl : k = N := by omega
      have z1 : decide ((k : Int) < (k : Int)) = false := by simp
      have hRt : Hid (R = true) := by
       show R = true
       rw [<- HR.out, decide_eq_true_eq]
       have e := hsame.out
       rw [List.take_of_length_le (by rw [hNl.out]; exact Nat.le_refl _), List.take_of_length_le (by rw [hMl.out]; exact Nat.le_refl _)] at e
       exact e
      clear hsame HR
      go_wp2_with fail
      go_ret
      exact ⟨by rw [hRt.out]; rfl, hbw⟩
 · have z0 : ((N : Int) != (M : Int)) = true := by rw [bne_iff_ne]; omega
   have hRf : Hid (R = false) := by
    show R = false
    rw [<- HR.out]
    exact decide_eq_false fun e => hNM (by rw [<- hN, <- hM, e])
   clear HR hN hM
   go_enter func22, ntmps22
   go_wp2_with fail
   go_ret
   exact ⟨by rw [hRf.out]; rfl, Below.refl _ _⟩
theorem wless_q (p q : ByteArray) (w : World) (hp : p.size <= 1048576) (hq : q.size <= 1048576) : Calls prog 35 #[.string p, .string q] w fun e w' => e = .returned (.bool (lessB p q)) /\ (∃ m, w' = w.drewN m) := by
 have := wless_p p q w hp hq
 rw [lessL] at this
 exact this
end Go.Proofs.YtfmpjlpakldheaaGreatDoor
