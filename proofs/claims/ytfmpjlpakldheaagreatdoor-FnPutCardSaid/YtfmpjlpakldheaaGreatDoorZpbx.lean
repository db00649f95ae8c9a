import Derived.Test.YtfmpjlpakldheaaGreatDoorZpbs
import Derived.Test.YtfmpjlpakldheaaGreatDoorZpbt
import Derived.Test.YtfmpjlpakldheaaGreatDoorZpbw
set_option maxRecDepth 100000
set_option maxHeartbeats 4000000
namespace Go.Proofs.YtfmpjlpakldheaaGreatDoor
open Tryz
open Go.RowKit Go.Proofs.Sha
theorem codeO_sm (c : Int) (m s : Nat) : SmT (codeO c).xs m s := ⟨Nat.zero_le _, fun _x hx => absurd hx List.not_mem_nil⟩
theorem savO_sm {wd n k s : Nat} {ss : List ByteArray} {ps : List PairT} (hs : SmT ss n s) (h10 : 10000 <= s) (hp : ps.length <= k) (hnk : n + k < 20000) (hw : wd <= 32) : SmT (savO wd ss (cutTree ps)).xs (n + k) s /\ ((savO wd ss (cutTree ps)).n = (wd : Int)) /\ (savO wd ss (cutTree ps)).root.size <= 32 := by
 rcases savO_cases (wd := wd) hs h10 hp hnk with ⟨ad, _, he, hsm⟩ | ⟨u, e, he, _⟩
 · rw [he]
   refine ⟨hsm, rfl, ?_⟩
   have := rootT_size wd hw (cutTree ps)
   show (rootT wd (cutTree ps)).size <= 32
   omega
 · rw [he]
   exact ⟨⟨Nat.le_trans hs.len (by omega), hs.sz⟩, rfl, Nat.zero_le _⟩
theorem toomany_o : SmT (saveO 8 [] (crowd 500)).xs 500 10000 /\ (0 <= (saveO 8 [] (crowd 500)).n /\ (saveO 8 [] (crowd 500)).n <= 33) /\ (saveO 8 [] (crowd 500)).root.size <= 33 := by
 unfold saveO
 split
 · obtain ⟨h1, h2, h3⟩ := savO_sm (wd := 8) (n := 0) (k := 500) (s := 10000) (ss := []) (ps := crowd 500) ⟨Nat.le_refl _, fun x hx => absurd hx List.not_mem_nil⟩ (by omega) (by rw [crowd_len]; omega) (by omega) (by omega)
   have e : Int.toNat 8 = 8 := rfl
   rw [e]
   refine ⟨⟨by have := h1.len; omega, h1.sz⟩, ?_, by omega⟩
   rw [h2]
   decide
 · exact ⟨codeO_sm 1 500 10000, ⟨by decide, by decide⟩, Nat.zero_le _⟩
theorem dput_det (HDg : Hid DigSaid) (a : Option Addr) (xs : List Nat) (cap : Nat) (hX : Code8 xs) :
 ∃ (n : Int) (ss : List ByteArray) (root key val : ByteArray), (0 <= n /\ n <= 33 /\ SmT ss 501 10001 /\ root.size <= 33 /\ key.size <= 300 /\ val.size <= 2001) /\ ∀ w, BL a xs w -> Calls prog 37 #[.slice a xs.length cap] w (RGot n ss root key val w) := by
 obtain ⟨x, hx, HT⟩ := take_det a xs cap 0 16 hX (by omega) (by omega) (by omega)
 obtain ⟨n, ss, roots, root, z, ⟨hn0, hn1, hss, hr, hrs, hz⟩, HP⟩ := any_det HDg a xs cap 1 hX (by omega)
 obtain ⟨key, hk, HK⟩ := key_det a xs cap z hX (by omega)
 obtain ⟨val, hv, HV⟩ := val_det a xs cap (z + 1) hX (by omega)
 have hm2 : (z + 3) % 2 < 2 := Nat.mod_lt _ (by omega)
 obtain ⟨ho, hon, hor⟩ := toomany_o
 have HTm := fun w => toomany_any HDg (saveO 8 [] (crowd 500)) rfl ho w
 have ho' : SmT (saveO 8 [] (crowd 500)).xs 501 10001 := ⟨Nat.le_trans ho.len (by omega), fun x hx => Nat.le_trans (ho.sz x hx) (by omega)⟩
 have H := dput_all a xs cap x z n ss roots root key val (by omega) HT HP HK HV (saveO 8 [] (crowd 500)) HTm
 by_cases h1 : x < 13 \/ x = 13 /\ xs.length <= 40
 · exact ⟨n, ss, root, key, val, ⟨hn0, hn1, hss, hrs, by omega, by omega⟩, H _ _ _ _ _ (.inl ⟨.inl ⟨h1, rfl, rfl⟩, rfl, rfl, rfl⟩)⟩
 by_cases h2 : x = 13
 · by_cases hp : (z + 3) % 2 = 0
   · exact ⟨_, _, _, _, val, ⟨hon.1, hon.2, ho', hor, by decide, by omega⟩, H _ _ _ _ _ (.inr ⟨h2, by omega, rfl, rfl, rfl, rfl, .inl ⟨hp, rfl⟩⟩)⟩
   · exact ⟨_, _, _, key, val, ⟨hon.1, hon.2, ho', hor, by omega, by omega⟩, H _ _ _ _ _ (.inr ⟨h2, by omega, rfl, rfl, rfl, rfl, .inr ⟨by omega, rfl⟩⟩)⟩
 by_cases h3 : x = 14
 · exact ⟨n, ss, root, _, val, ⟨hn0, hn1, hss, hrs, by rw [reps_size]; omega, by omega⟩, H _ _ _ _ _ (.inl ⟨.inr (.inl ⟨h3, rfl, rfl⟩), rfl, rfl, rfl⟩)⟩
 · exact ⟨n, ss, root, key, _, ⟨hn0, hn1, hss, hrs, by omega, by rw [reps_size]; omega⟩, H _ _ _ _ _ (.inl ⟨.inr (.inr ⟨by omega, rfl, rfl⟩), rfl, rfl, rfl⟩)⟩
theorem chgO_sm {n : Int} {ss : List ByteArray} (_hn0 : 0 <= n) (_hn : n <= 33) {m s : Nat} (hs : SmT ss m s) (h10 : 10000 <= s) (hm : m + 600 < 20000) (hs2 : s <= 20000) (X : List PairT × Int) (cd : Int) (qs : List PairT) (hq : qs.length <= 501) : SmT (chgO n ss X cd qs).xs 20000 20000 := by
 unfold chgO
 split
 · exact codeO_sm _ _ _
 · split
   · exact codeO_sm _ _ _
   · rcases savO_cases (wd := n.toNat) hs h10 hq (by omega) with ⟨ad, _, he, hsm⟩ | ⟨u, e, he, _⟩
     · rw [he]; exact ⟨Nat.le_trans hsm.len (by omega), fun x hx => Nat.le_trans (hsm.sz x hx) hs2⟩
     · rw [he]; exact ⟨Nat.le_trans hs.len (by omega), fun x hx => Nat.le_trans (hs.sz x hx) hs2⟩
theorem iput_ret (D : Dec) (n : Int) (HD : Hid (∀ wd : Nat, (wd : Int) = n -> 1 <= wd -> wd <= 32 -> DecSaid 181 wd D)) (hdo : ∀ wd : Nat, (wd : Int) = n -> DecOk wd D) (a : Option Addr) (ss : List ByteArray) (c : Nat) (root key val : ByteArray) (w : World) (h : SArg a ss w) (hK : KT w) (hr : root.size <= 1048576) (hk : key.size <= 1048576) (hv : val.size <= 1048576) :
 Calls prog 17 #[.agg #[.int .i64 n, .slice a ss.length c], .string root, .string key, .string val] w fun e w' => (∃ v, e = .returned v) /\ Below w.heap.size w w' := by
 have := iput_any (fun s w' hs hk => ehash_any s w' hs hk) D n HD hdo a ss c root key val w h hK hr hk hv
 refine this.mono ?_
 rintro e w' ⟨a', c', rfl, ho⟩
 exact ⟨⟨_, rfl⟩, ho.bel⟩
theorem dig_hash (e : ByteArray) (n : Nat) : (⟨((sha (txt e).data.toList).take n).toArray⟩ : ByteArray) = hashT n e := by rw [txt_list]; rfl
theorem txt_inj2 {a b : ByteArray} (h : a ≠ b) : txt a ≠ txt b := fun e => h (by
 have := congrArg (fun t : ByteArray => t.data.toList) e
 simp only [txt_list, List.cons.injEq, true_and] at this
 exact ByteArray.ext (Array.toList_inj.1 this))
theorem law_fnput (a : Option Addr) (xs : List Int) (c : Nat) (w : World) (_hl : xs.length <= maxLen) (hw : ∀ x ∈ xs, (Lit.int .u8 x).wf = true)
 (h : 0 < xs.length -> ∃ b off : Nat, a = some ⟨b, off, none⟩ /\ b < w.heap.size /\ ∀ j, j < xs.length -> w.cell? ⟨b, off + j, none⟩ = some (.int .u8 (xs.getD j 0)))
 (hK : ∀ j, j < 64 -> w.cell? ⟨0, j, none⟩ = some (.int .u32 ((kTab.getD j 0).toNat : Int))) :
 Calls prog 8 #[.slice a xs.length c] w fun e w' => e = .returned (.bool true) /\ Below w.heap.size w w' := by
 by_cases g1 : 1048576 < xs.length
 · have z1 : decide ((1048576 : Int) < (xs.length : Int)) = true := by simp; omega
   clear hw h hK
   go_enter func8, ntmps8
   go_wp2_with fail
   go_ret
   exact ⟨rfl, Below.refl _ _⟩
 obtain ⟨ys, hyl, hX, hB⟩ := BL.of (by omega) hw h
 rw [<- hyl]
 obtain ⟨n, ss, root, key, val, ⟨hn0, hn1, hss, hrs, hks, hvs⟩, HDw⟩ := dput_det digSaid a ys c hX
 obtain ⟨D, hdo, HD1, HD2, hDE⟩ := dec_all n
 have hsz : Hid (∀ j, (ss.getD j ⟨#[]⟩).size <= 1048575) := fun j => Nat.le_trans (hss.getD j) (by omega)
 have hA := rangeM_sm D n hdo ss root ⟨#[]⟩ ⟨#[]⟩
 have HLd := fun w ap cp (hS : SArg ap ss w) => sld_any digSaid D n HD2 hdo ap ss cp root w hS hsz (by omega)
 have HSP := fun w ap cp (hS : SArg ap ss w) => sput_any digSaid D n HD2 hdo ap ss cp root key val w hS hsz (by omega) (by omega) (by omega)
 have HIP := fun w ap cp (hS : SArg ap ss w) (hk : KT w) => iput_any (fun s w' hs hk => ehash_any s w' hs hk) D n HD1 hdo ap ss cp root key val w hS hk (by omega) (by omega) (by omega)
 obtain ⟨A, hAe⟩ : ∃ A, rangeM (fndD D n.toNat ss) n ss.length root ⟨#[]⟩ ⟨#[]⟩ = A := ⟨_, rfl⟩
 have hys : SmT (putO D n ss root key val).xs 20000 20000 := by
  unfold putO
  refine chgO_sm hn0 hn1 hss (by omega) (by omega) (by omega) _ _ _ ?_
  have := wth_len (rangeM (fndD D n.toNat ss) n ss.length root ⟨#[]⟩ ⟨#[]⟩).1 key val
  omega
 rw [hAe] at HLd hA
 obtain ⟨old, oc⟩ := A
 obtain ⟨S, hSe⟩ : ∃ S, putO D n ss root key val = S := ⟨_, rfl⟩
 rw [hSe] at HSP HIP hys
 obtain ⟨cd, n', ys', R0, x', y'⟩ := S
 refine put_all a ys c n cd n' oc ss ys' root key val R0 x' y' old (wth old key val) (delO D n ys' R0 key).cd (delO D n ys' R0 key).n (delO D n ys' R0 key).xs (delO D n ys' R0 key).root (delO D n ys' R0 key).x (delO D n ys' R0 key).y w hX.le hB hK HDw HLd HSP HIP hA.2 hys (by omega) hvs ?_
 intro hcd hoc hol
 subst hoc
 obtain ⟨wd, rfl⟩ : ∃ wd : Nat, n = (wd : Int) := ⟨n.toNat, by omega⟩
 rw [Int.toNat_natCast] at hAe
 obtain ⟨hw2, ad, R, hS, hsm, hRs, hl1, hl2, hdel⟩ := put_good D wd (hDE wd rfl) (hdo wd rfl) hss (by omega) (by omega) hAe (by rw [hSe]; exact hcd)
 have hv43 : (val ++ (⟨#[43]⟩ : ByteArray)).size <= 1048576 := by rw [ByteArray.size_append]; show _ + 1 <= _; omega
 clear HSP HIP hys HLd HDw
 rw [hSe] at hS
 injection hS with e1 e2 e3 e4 e5 e6
 subst e2 e3 e4
 have HDl : ∀ w ap cp, SArg ap (ss ++ ad) w -> KT w -> Calls prog 19 #[.agg #[.int .i64 (wd : Int), .slice ap (ss ++ ad).length cp], .string R0, .string key] w (SavedIs (delO D (wd : Int) (ss ++ ad) R0 key) w) := fun w ap cp hS' hk => idel_any (fun s w' hs hk => ehash_any s w' hs hk) D (wd : Int) HD1 hdo ap (ss ++ ad) cp R0 key w hS' hk (by omega) (by omega)
 have hns : SmallP (wth old key val) := by
  have := (rangeM_sm D (wd : Int) hdo (ss ++ ad) R0 ⟨#[]⟩ ⟨#[]⟩).2
  rw [Int.toNat_natCast, hl1] at this
  exact this
 generalize delO D (wd : Int) (ss ++ ad) R0 key = bk at hdel HDl ⊢
 obtain ⟨bcd, bn, bs, br, bx, bz⟩ := bk
 simp only at hdel ⊢
 refine ⟨fun w ap cp hS' hk => iput_ret D (wd : Int) HD1 hdo ap ss cp root key _ w hS' hk (by omega) (by omega) hv43, fun w ap cp hS' hk => ?_, fun w ap cp hS' hk => ?_, HDl, rfl, hns, ?_⟩
 · have := iload_any (fun s w' hs hk => ehash_any s w' hs hk) D (wd : Int) HD1 hdo ap (ss ++ ad) cp R0 w hS' hk (by omega)
   rw [Int.toNat_natCast, hl1] at this
   exact this
 · have := iload_any (fun s w' hs hk => ehash_any s w' hs hk) D (wd : Int) HD1 hdo ap (ss ++ ad) cp root w hS' hk (by omega)
   rw [Int.toNat_natCast, hl2] at this
   exact this
 · rcases hdel with d | ⟨u, e, d1, d2, d3, d4, d5, d6, d7⟩
   · exact .inl d
   · subst d2 d3
     refine .inr ⟨d1, txt_inj2 d4, hashT wd u, fun w' => ?_, fun w' => ?_⟩
     · have := sdig_yes (txt u) wd w' (by unfold txt; rw [ByteArray.size_append]; show 1 + _ <= _; omega) hw2.1 hw2.2
       rw [dig_hash] at this
       exact this
     · have := sdig_yes (txt e) wd w' (by unfold txt; rw [ByteArray.size_append]; show 1 + _ <= _; omega) hw2.1 hw2.2
       rw [dig_hash, <- d5] at this
       exact this
end Go.Proofs.YtfmpjlpakldheaaGreatDoor
