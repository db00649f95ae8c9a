import Derived.Test.YtfmpjlpakldheaaGreatDoorZybw
import Derived.Test.YtfmpjlpakldheaaGreatDoorZybr
import Derived.Test.YtfmpjlpakldheaaGreatDoorZyat
namespace Go.Proofs.YtfmpjlpakldheaaGreatDoor
open Go.RowKit Go.Proofs.Sha

def diffM (fnd : ByteArray → FN) (n : Int) (m : Nat) (a b : ByteArray) : List ChT × Int := if a = b then ([], 0) else diffR (rangeM fnd n m a ⟨#[]⟩ ⟨#[]⟩) (rangeM fnd n m b ⟨#[]⟩ ⟨#[]⟩)
theorem rangeM_pw {fnd : ByteArray → FN} {wd m : Nat} {root : ByteArray} (hp : poolOk (wd : Int) m = true) : rangeM fnd (wd : Int) m root ⟨#[]⟩ ⟨#[]⟩ = if hashOk root.size (wd : Int) = true then (if (goF fnd hgW ⟨#[]⟩ ⟨#[]⟩ 501 root ⟨#[]⟩ ⟨#[]⟩ ⟨#[]⟩ 0).1 = 0 then ((goF fnd hgW ⟨#[]⟩ ⟨#[]⟩ 501 root ⟨#[]⟩ ⟨#[]⟩ ⟨#[]⟩ 0).2.2, 0) else ([], (goF fnd hgW ⟨#[]⟩ ⟨#[]⟩ 501 root ⟨#[]⟩ ⟨#[]⟩ ⟨#[]⟩ 0).1)) else ([], 1) := by
  unfold rangeM
  rw [hp, Bool.true_and]
set_option maxRecDepth 100000 in
set_option maxHeartbeats 1000000 in
theorem idiff_any (HH : Hid (HashSaid KT)) (D : Dec) (n : Int) (HD : Hid (∀ wd : Nat, (wd : Int) = n → 1 ≤ wd → wd ≤ 32 → DecSaid 181 wd D)) (hdo : ∀ wd : Nat, (wd : Int) = n → DecOk wd D) (a : Option Addr) (ss : List ByteArray) (c : Nat) (x y : ByteArray) (w : World) (h : SArg a ss w) (hK : KT w) (hx : x.size ≤ 1048576) (hy : y.size ≤ 1048576) :
    Calls Tryz.prog 34 #[.agg #[.int .i64 n, .slice a ss.length c], .string x, .string y] w (DiffAt (diffM (fndD D n.toNat ss) n ss.length x y) w) := by
  unfold diffM
  have hA : Below w.heap.size w (w.alloc (.cells #[.int .i64 n, .slice a ss.length c] 37)) := (Below.refl _ _).alloc (Nat.le_refl _) _
  by_cases exy : x = y
  · rw [if_pos exy]
    have z1 : (x.toList == y.toList) = true := by rw [ba_eq, decide_eq_true exy]
    have HN : Hid (∀ w', Below w.heap.size w w' → DiffAt ([], 0) w (.returned (.tuple #[.slice none 0 0, .int .i64 0])) w') := fun w' hb => DiffAt.nil 0 hb
    clear HH HD h hK exy
    go_enter Tryz.func34, Tryz.ntmps34
    go_wp2_with fail
    go_ret2
    exact HN.out _ hA
  rw [if_neg exy]
  have z1 : (x.toList == y.toList) = false := by rw [ba_eq, decide_eq_false exy]
  have HV := fun w' => validPool_any n a ss.length c w' h.le
  cases hp : poolOk n ss.length with
  | false =>
    rw [rangeM_bad (by rw [hp]; rfl), rangeM_bad (by rw [hp]; rfl)]
    rw [hp] at HV
    have HP : Hid (∀ w', Below w.heap.size w w' → DiffAt (diffR ([], 1) ([], 1)) w (.returned (.tuple #[.slice none 0 0, .int .i64 1])) w') := fun w' hb => DiffAt.nil 1 hb
    generalize diffR ([], 1) ([], 1) = XX at HP ⊢
    clear HH HD h hK
    go_enter Tryz.func34, Tryz.ntmps34
    go_wp2_with (first | (go_at_call 68; refine (HV _).mono ?_; rintro e w1 ⟨rfl, hb1⟩))
    go_ret2
    exact HP.out _ (hA.trans (hb1.mono hA.size))
  | true =>
    rw [hp] at HV
    have hp' : 1 ≤ n ∧ n ≤ 32 ∧ ss.length ≤ 20000 := of_decide_eq_true hp
    obtain ⟨wd, rfl⟩ : ∃ wd : Nat, n = (wd : Int) := ⟨n.toNat, by omega⟩
    have hfo := fndD_ok D wd ss (hdo wd rfl)
    rw [Int.toNat_natCast]
    have lx : Lok (rangeM (fndD D wd ss) (wd : Int) ss.length x ⟨#[]⟩ ⟨#[]⟩) := rangeM_small hfo _ _ _ _ _
    have ly : Lok (rangeM (fndD D wd ss) (wd : Int) ss.length y ⟨#[]⟩ ⟨#[]⟩) := rangeM_small hfo _ _ _ _ _
    have HS : Hid (∀ w', Below w.heap.size w w' → Calls Tryz.prog 70 #[.agg #[.int .i64 (wd : Int), .slice a ss.length c]] w' fun e w'' => ∃ sb r a' c', e = .returned (.pointer (some ⟨sb, 0, none⟩)) ∧ StockAt sb r (sb + 1) wd ss a' c' w'' ∧ Below w'.heap.size w' w'') := fun w' hb => stockOf_any HH (fun w1 w2 h1 hb => KT.below h1 hb) wd a ss c w' (h.below hb) (hK.below hb) (by omega)
    have HL : ∀ (root : ByteArray) (w1 : World) (sb r : Nat) (a' : Option Addr) (c' : Nat), root.size ≤ 1048576 → Below w.heap.size w w1 → StockAt sb r (sb + 1) wd ss a' c' w1 → Calls Tryz.prog 69 #[.pointer (some ⟨sb, 0, none⟩), .string root] w1 (RangeAt (rangeM (fndD D wd ss) (wd : Int) ss.length root ⟨#[]⟩ ⟨#[]⟩) w1) := fun root w1 sb r a' c' hr hb1 hs => by
      rw [rangeM_pw hp]
      exact ld_any (fndD D wd ss) wd hfo sb root _ _ w1 hs.blk hr (fun hash w' hh hb' => stockFind_any D sb r (sb + 1) wd (HD.out wd rfl (by omega) (by omega)) ss a' c' hash w' (hs.below hb') h.sz (by have := h.le; omega) (by omega) hh) (fun k w' hk hb' => rank_any k w' (by unfold okKey at hk; have := of_decide_eq_true hk; omega) ((hK.below hb1).below hb'))
    have HW : Hid (∀ w1 sb r a' c', Below w.heap.size w w1 → StockAt sb r (sb + 1) wd ss a' c' w1 → Calls Tryz.prog 85 #[.pointer (some ⟨sb, 0, none⟩), .string x, .string y] w1 (DiffAt (diffR (rangeM (fndD D wd ss) (wd : Int) ss.length x ⟨#[]⟩ ⟨#[]⟩) (rangeM (fndD D wd ss) (wd : Int) ss.length y ⟨#[]⟩ ⟨#[]⟩)) w1)) := fun w1 sb r a' c' hb1 hs =>
      diff_any _ _ x y sb w1 lx ly (fun w' hb' => HL x w' sb r a' c' hx (hb1.trans (hb'.mono hb1.size)) (hs.below hb')) (fun w' hb' => HL y w' sb r a' c' hy (hb1.trans (hb'.mono hb1.size)) (hs.below hb'))
    generalize diffR (rangeM (fndD D wd ss) (wd : Int) ss.length x ⟨#[]⟩ ⟨#[]⟩) (rangeM (fndD D wd ss) (wd : Int) ss.length y ⟨#[]⟩ ⟨#[]⟩) = X at HW ⊢
    have nA := heap_alloc_new w (.cells #[.int .i64 (wd : Int), .slice a ss.length c] 37)
    clear HH HD h hK hp hp' HL lx ly hfo
    go_enter Tryz.func34, Tryz.ntmps34
    go_wp2_with (first | (go_at_call 68; refine (HV _).mono ?_; rintro e w1 ⟨rfl, hb1⟩; have nA1 := (hb1.block w.heap.size (by simp)).trans nA; have d0 := Lib.cell_of_heap nA1 0; have d1 := Lib.cell_of_heap nA1 1; clear nA1; replace hb1 := hA.trans (hb1.mono hA.size)) | (go_at_call 70; refine (HS.out _ hb1).mono ?_; rintro e w2 ⟨sb, r, a2, c2, rfl, hs2, hb2⟩; replace hb2 := hb1.trans (hb2.mono hb1.size)) | (go_at_call 85; refine (HW.out _ _ _ _ _ hb2 hs2).mono ?_; intro e w3 hR3; obtain ⟨a3, c3, rfl, hR3⟩ := hR3.up hb2))
    go_ret2
    exact hR3
end Go.Proofs.YtfmpjlpakldheaaGreatDoor
namespace Go.Proofs.YtfmpjlpakldheaaGreatDoor
open Go.RowKit Go.Proofs.Sha

theorem DiffAt.nil2 {w w' : World} {g : Nat} (x : Int) (hg : w.heap.size ≤ g) (hn : w'.heap[g]? = some (.cells #[] 62)) (hb : Below w.heap.size w w') : DiffAt ([], x) w (.returned (.tuple #[.slice (some ⟨g, 0, none⟩) 0 0, .int .i64 x])) w' :=
  ⟨some ⟨g, 0, none⟩, 0, rfl, ⟨⟨rfl, .inr ⟨g, 0, #[], rfl, hg, hn, by simp [flatC]⟩⟩, hb, rfl⟩⟩
set_option maxRecDepth 100000 in
set_option maxHeartbeats 1000000 in
theorem sdiff_any (A B : List PairT × Int) (n : Int) (a : Option Addr) (m c : Nat) (x y : ByteArray) (w : World) (hA : x ≠ y → Lok A ∧ Lok B ∧ Bd A.1 ∧ Bd B.1 ∧ KeysUp (keys A.1) ∧ KeysUp (keys B.1))
    (H1 : Hid (x ≠ y → ∀ w', Below w.heap.size w w' → Calls Tryz.prog 26 #[.agg #[.int .i64 n, .slice a m c], .string x] w' (RangeAt A w')))
    (H2 : Hid (x ≠ y → ∀ w', Below w.heap.size w w' → Calls Tryz.prog 26 #[.agg #[.int .i64 n, .slice a m c], .string y] w' (RangeAt B w'))) :
    Calls Tryz.prog 33 #[.agg #[.int .i64 n, .slice a m c], .string x, .string y] w (DiffAt (if x = y then ([], 0) else diffR A B) w) := by
  have hW : Below w.heap.size w ((w.alloc (.cells #[.int .i64 n, .slice a m c] 37)).alloc (.cells #[] 62)) := ((Below.refl _ _).alloc (Nat.le_refl _) _).alloc (by simp) _
  have nZ := heap_alloc_new (w.alloc (.cells #[.int .i64 n, .slice a m c] 37)) (.cells #[] 62)
  have nA := (Below.heap_alloc (w.alloc (.cells #[.int .i64 n, .slice a m c] 37)) (.cells #[] 62) w.heap.size (by simp)).trans (heap_alloc_new w (.cells #[.int .i64 n, .slice a m c] 37))
  rw [World.size_alloc] at nZ
  have HZ : Hid (∀ (v : Int) w', Below ((w.alloc (.cells #[.int .i64 n, .slice a m c] 37)).alloc (.cells #[] 62)).heap.size ((w.alloc (.cells #[.int .i64 n, .slice a m c] 37)).alloc (.cells #[] 62)) w' → DiffAt ([], v) w (.returned (.tuple #[.slice (some ⟨w.heap.size + 1, 0, none⟩) 0 0, .int .i64 v])) w') := fun v w' hb => DiffAt.nil2 v (by omega) ((hb.block _ (Array.getElem?_eq_some_iff.1 nZ).1).trans nZ) (hW.trans (hb.mono hW.size))
  by_cases exy : x = y
  · rw [if_pos exy]
    have z1 : (x.toList == y.toList) = true := by rw [ba_eq, decide_eq_true exy]
    have HF := HZ.out 0 _ (Below.refl _ _)
    replace HF : Hid _ := HF
    clear H1 H2 exy hA
    go_enter Tryz.func33, Tryz.ntmps33
    go_wp2_with fail
    go_ret2
    exact HF.out
  rw [if_neg exy]
  obtain ⟨lA, lB, bA, bB, kA, kB⟩ := hA exy
  have H1' := H1.out exy
  have H2' := H2.out exy
  replace H1' : Hid _ := H1'
  replace H2' : Hid _ := H2'
  have z1 : (x.toList == y.toList) = false := by rw [ba_eq, decide_eq_false exy]
  have HC : Hid (∀ W', Below ((w.alloc (.cells #[.int .i64 n, .slice a m c] 37)).alloc (.cells #[] 62)).heap.size ((w.alloc (.cells #[.int .i64 n, .slice a m c] 37)).alloc (.cells #[] 62)) W' → W'.cell? ⟨w.heap.size, 0, none⟩ = some (.int .i64 n) ∧ W'.cell? ⟨w.heap.size, 1, none⟩ = some (.slice a m c)) := fun W' hb => by
    have x1 := (hb.block _ (Array.getElem?_eq_some_iff.1 nA).1).trans nA
    exact ⟨Lib.cell_of_heap x1 0, Lib.cell_of_heap x1 1⟩
  clear H1 H2 exy hA nZ nA
  obtain ⟨P, u⟩ := A
  obtain ⟨Q, v⟩ := B
  unfold diffR
  simp only
  generalize hWW : (w.alloc (.cells #[.int .i64 n, .slice a m c] 37)).alloc (.cells #[] 62) = W0 at HZ HC hW
  have hWH : Hid ((w.alloc (.cells #[.int .i64 n, .slice a m c] 37)).alloc (.cells #[] 62) = W0) := hWW
  clear hWW
  by_cases hu : u = 0
  · subst hu
    rw [if_neg (by simp)]
    by_cases hv : v = 0
    · subst hv
      rw [if_neg (by simp)]
      have HB : Hid (∀ w1 w2 a1 c1 a2 c2, w1.ownsRow W0.heap.size 34 2 (.slice a1 P.length c1) P.length (flatP P) → Below w1.heap.size w1 w2 → w2.ownsRow w1.heap.size 34 2 (.slice a2 Q.length c2) Q.length (flatP Q) → Calls Tryz.prog 84 #[.slice a1 P.length c1, .slice a2 Q.length c2] w2 (ChAt (chg P Q) w2)) := fun w1 w2 a1 c1 a2 c2 ho1 hb2 ho2 => by
        rw [← chg_uni kA kB]
        exact changes_any a1 a2 P Q c1 c2 w2 ((own_parg ho1 lA.2).below hb2) (own_parg ho2 lB.2) lA.1 lB.1 bA bB
      have HF : Hid (∀ w2 w3 a3 c3, Below w.heap.size w w2 → OwnC w2 (chg P Q) a3 (chg P Q).length c3 w3 → DiffAt (chg P Q, 0) w (.returned (.tuple #[.slice a3 (chg P Q).length c3, .int .i64 0])) w3) := fun w2 w3 a3 c3 hb ho => ⟨a3, c3, rfl, ho.up hb⟩
      clear kA kB
      generalize chg P Q = CH at HB HF ⊢
      go_enter Tryz.func33, Tryz.ntmps33
      go_upto_region 4 with fail
      rw [hWH.out]
      obtain ⟨c0, c1⟩ := HC.out _ (Below.refl _ _)
      go_wp2_with fail
      refine (H1'.out _ hW).mono ?_
      rintro e w1 ⟨⟨a1, d1, rfl, ho1⟩, hb1⟩
      simp only at ho1
      have hb01 := hW.trans (hb1.mono hW.size)
      obtain ⟨c0', c1'⟩ := HC.out _ hb1
      go_wp2_with fail
      refine (H2'.out _ hb01).mono ?_
      rintro e w2 ⟨⟨a2, d2, rfl, ho2⟩, hb2⟩
      simp only at ho2
      have hb12 := hb01.trans (hb2.mono hb01.size)
      have HB' := HB.out w1 w2 a1 d1 a2 d2 ho1 hb2 ho2
      go_wp2_with (first | (go_at_call 84; refine HB'.mono ?_; rintro e w3 ⟨a3, c3, rfl, ho3⟩))
      go_ret2
      exact HF.out _ _ _ _ hb12 ho3
    · rw [if_pos hv]
      have z2 : (v == 0) = false := by simpa using hv
      go_enter Tryz.func33, Tryz.ntmps33
      go_upto_region 4 with fail
      rw [hWH.out]
      obtain ⟨c0, c1⟩ := HC.out _ (Below.refl _ _)
      go_wp2_with fail
      refine (H1'.out _ hW).mono ?_
      rintro e w1 ⟨⟨a1, d1, rfl, ho1⟩, hb1⟩
      have hb01 := hW.trans (hb1.mono hW.size)
      obtain ⟨c0', c1'⟩ := HC.out _ hb1
      go_wp2_with fail
      refine (H2'.out _ hb01).mono ?_
      rintro e w2 ⟨⟨a2, d2, rfl, ho2⟩, hb2⟩
      have HF := HZ.out v _ (hb1.trans (hb2.mono hb1.size))
      replace HF : Hid _ := HF
      go_wp2_with fail
      go_ret2
      exact HF.out
  · rw [if_pos hu]
    have z2 : (u == 0) = false := by simpa using hu
    go_enter Tryz.func33, Tryz.ntmps33
    go_upto_region 4 with fail
    rw [hWH.out]
    obtain ⟨c0, c1⟩ := HC.out _ (Below.refl _ _)
    go_wp2_with fail
    refine (H1'.out _ hW).mono ?_
    rintro e w1 ⟨⟨a1, d1, rfl, ho1⟩, hb1⟩
    have HF := HZ.out u _ hb1
    replace HF : Hid _ := HF
    go_wp2_with fail
    go_ret2
    exact HF.out
end Go.Proofs.YtfmpjlpakldheaaGreatDoor
namespace Go.Proofs.YtfmpjlpakldheaaGreatDoor
open Go.RowKit Go.Proofs.Sha

theorem chg_len : ∀ (n : Nat) (ps qs : List PairT), ps.length + qs.length = n → (chg ps qs).length ≤ n := by
  intro n
  induction n using Nat.strongRecOn with
  | ind n ih =>
    intro ps qs hn
    match ps, qs with
    | [], [] => rw [chg]; exact Nat.zero_le _
    | p :: ps, [] =>
      have := ih (ps.length + 0) (by simp at hn; omega) ps [] rfl
      rw [chg, List.length_cons]
      simp at hn
      omega
    | [], q :: qs =>
      have := ih (0 + qs.length) (by simp at hn; omega) [] qs rfl
      rw [chg, List.length_cons]
      simp at hn
      omega
    | p :: ps, q :: qs =>
      have h1 := ih (ps.length + qs.length) (by simp at hn; omega) ps qs rfl
      have h2 := ih (ps.length + (qs.length + 1)) (by simp at hn; omega) ps (q :: qs) rfl
      have h3 := ih (ps.length + 1 + qs.length) (by simp at hn; omega) (p :: ps) qs rfl
      simp at hn
      rw [chg]
      split
      · split
        · omega
        · rw [List.length_cons]; omega
      · split
        · rw [List.length_cons]; omega
        · rw [List.length_cons]; omega
theorem rangeM_bd {fnd : ByteArray → FN} {wd : Nat} (hfo : FndOk wd fnd) (n : Int) (m : Nat) (root lo hi : ByteArray) : Bd (rangeM fnd n m root lo hi).1 := by
  unfold rangeM
  intro p hp
  split at hp
  · split at hp
    · obtain ⟨q1, q2⟩ := goF_ok hfo 501 root ⟨#[]⟩ ⟨#[]⟩ ⟨#[]⟩ 0 p hp
      unfold okKey at q1
      unfold okVal at q2
      have q1 := of_decide_eq_true q1
      have q2 := of_decide_eq_true q2
      omega
    · simp at hp
  · simp at hp
theorem getP_sz {ps : List PairT} (h : Bd ps) (k : ByteArray) : (getP ps k).1.size ≤ 1048576 := by
  induction ps with
  | nil => exact Nat.zero_le _
  | cons p ps ih =>
    rw [getP]
    split
    · exact (h p List.mem_cons_self).2
    · exact ih (fun q hq => h q (List.mem_cons_of_mem _ hq))
theorem chg_sz {ps qs : List PairT} (hp : KeysUp (keys ps)) (hq : KeysUp (keys qs)) (bp : Bd ps) (bq : Bd qs) : ∀ c ∈ chg ps qs, c.1.size ≤ 1048576 ∧ c.2.2.2.2.size ≤ 1048576 := fun c hc => by
  have hk : ∀ {l : List PairT} {k : ByteArray}, Bd l → k ∈ keys l → k.size ≤ 1048576 := fun hl hk => by
    obtain ⟨p, hp, rfl⟩ := List.mem_map.1 hk
    exact (hl p hp).1
  rw [(chg_kU _ ps qs rfl hp hq).2] at hc
  obtain ⟨k, hk', h⟩ := List.mem_filterMap.1 hc
  unfold chOf at h
  split at h
  · cases h
    refine ⟨?_, getP_sz bq k⟩
    rcases (mem_kU k _ ps qs rfl).1 hk' with h1 | h1
    · exact hk bp h1
    · exact hk bq h1
  · cases h
/-- What two loadings give for each other. -/
structure LdOk (A : List PairT × Int) : Prop where
  lok : Lok A
  bd : Bd A.1
  up : KeysUp (keys A.1)
theorem diffM_eq (fnd : ByteArray → FN) (n : Int) (m : Nat) (a b : ByteArray) : diffM fnd n m a b = if a = b then ([], 0) else diffR (rangeM fnd n m a ⟨#[]⟩ ⟨#[]⟩) (rangeM fnd n m b ⟨#[]⟩ ⟨#[]⟩) := rfl
theorem diffM_small {fnd : ByteArray → FN} {n : Int} {m : Nat} {a b : ByteArray} (hA : LdOk (rangeM fnd n m a ⟨#[]⟩ ⟨#[]⟩)) (hB : LdOk (rangeM fnd n m b ⟨#[]⟩ ⟨#[]⟩)) : (diffM fnd n m a b).1.length ≤ 10000 ∧ ∀ x ∈ (diffM fnd n m a b).1, x.1.size ≤ 1048576 ∧ x.2.2.2.2.size ≤ 1048576 := by
  have hnil : ([] : List ChT).length ≤ 10000 ∧ ∀ x ∈ ([] : List ChT), x.1.size ≤ 1048576 ∧ x.2.2.2.2.size ≤ 1048576 := ⟨by decide, fun x hx => absurd hx List.not_mem_nil⟩
  unfold diffM diffR
  split
  · exact hnil
  · split
    · exact hnil
    · split
      · exact hnil
      · have := chg_len _ (rangeM fnd n m a ⟨#[]⟩ ⟨#[]⟩).1 (rangeM fnd n m b ⟨#[]⟩ ⟨#[]⟩).1 rfl
        have l1 := hA.lok.1
        have l2 := hB.lok.1
        exact ⟨Nat.le_trans this (by omega), chg_sz hA.up hB.up hA.bd hB.bd⟩
theorem diffM_bad {fnd : ByteArray → FN} {n : Int} {m : Nat} {a b : ByteArray} (h : ¬ ((rangeM fnd n m a ⟨#[]⟩ ⟨#[]⟩).2 = 0 ∧ (rangeM fnd n m b ⟨#[]⟩ ⟨#[]⟩).2 = 0)) : (diffM fnd n m a b).1 = [] := by
  unfold diffM diffR
  split
  · rfl
  · split
    · rfl
    · rename_i h1
      split
      · rfl
      · rename_i h2
        exact absurd ⟨Classical.byContradiction h1, Classical.byContradiction h2⟩ h
theorem diffM_good {fnd : ByteArray → FN} {n : Int} {m : Nat} {a b : ByteArray} (hA : LdOk (rangeM fnd n m a ⟨#[]⟩ ⟨#[]⟩)) (hB : LdOk (rangeM fnd n m b ⟨#[]⟩ ⟨#[]⟩)) (h1 : (rangeM fnd n m a ⟨#[]⟩ ⟨#[]⟩).2 = 0) (h2 : (rangeM fnd n m b ⟨#[]⟩ ⟨#[]⟩).2 = 0) :
    (diffM fnd n m a b).2 = 0 ∧ KeysUp ((diffM fnd n m a b).1.map (·.1)) ∧ (∀ c ∈ (diffM fnd n m a b).1, ¬ (c.2.1 = c.2.2.2.1 ∧ c.2.2.1 = c.2.2.2.2)) ∧ appl (rangeM fnd n m a ⟨#[]⟩ ⟨#[]⟩).1 (diffM fnd n m a b).1 = (rangeM fnd n m b ⟨#[]⟩ ⟨#[]⟩).1 := by
  unfold diffM diffR
  split
  · rename_i e
    subst e
    exact ⟨rfl, trivial, fun c hc => absurd hc List.not_mem_nil, rfl⟩
  · rw [if_neg (fun q => q h1), if_neg (fun q => q h2)]
    obtain ⟨g1, g2, g3⟩ := chg_good hA.up hB.up
    exact ⟨rfl, g1, g2, g3⟩
set_option maxRecDepth 100000 in
theorem law_fndiff (a : Option Addr) (xs : List Int) (c : Nat) (w : World) (_hl : xs.length ≤ maxLen) (hw : ∀ x ∈ xs, (Lit.int .u8 x).wf = true)
    (h : 0 < xs.length → ∃ b off : Nat, a = some ⟨b, off, none⟩ ∧ b < w.heap.size ∧ ∀ j, j < xs.length → w.cell? ⟨b, off + j, none⟩ = some (.int .u8 (xs.getD j 0)))
    (hK : ∀ j, j < 64 → w.cell? ⟨0, j, none⟩ = some (.int .u32 ((kTab.getD j 0).toNat : Int))) :
    Calls Tryz.prog 7 #[.slice a xs.length c] w fun e w' => e = .returned (.bool true) ∧ Below w.heap.size w w' := by
  by_cases g1 : 1048576 < xs.length
  · have z1 : decide ((1048576 : Int) < (xs.length : Int)) = true := by simp; omega
    clear hw h hK
    go_enter Tryz.func7, Tryz.ntmps7
    go_wp2_with fail
    go_ret
    exact ⟨rfl, Below.refl _ _⟩
  obtain ⟨ys, hyl, hX, hB⟩ := BL.of (by omega) hw h
  rw [← hyl]
  obtain ⟨x, hx, HT⟩ := take_det a ys c 0 10 hX (by omega) (by omega) (by omega)
  obtain ⟨n, ss, roots, root, z, ⟨hn0, hn1, hss, hr, hrs, hz⟩, HP⟩ := any_det digSaid a ys c 1 hX (by omega)
  have hrl := hr.len
  obtain ⟨y, hy1, _, HA⟩ := take0_det a ys c z roots.length hX (by omega) (by omega)
  have hdraw : ∃ r1 r2 : ByteArray, (r1.size ≤ 34 ∧ r2.size ≤ 34) ∧ ∀ w, BL a ys w → Calls Tryz.prog 32 #[.slice a ys.length c] w (DGot n ss r1 r2 w) := by
    have hg := hr.getD y
    have hY : (root ++ (⟨#[121]⟩ : ByteArray)).size ≤ 34 := by rw [ByteArray.size_append]; show _ + 1 ≤ 34; omega
    have h0 : (⟨#[]⟩ : ByteArray).size ≤ 34 := Nat.zero_le _
    have hm := Nat.mod_lt x (show 0 < 2 by omega)
    by_cases hR : 0 < roots.length
    · by_cases h8 : x < 8
      · by_cases hp : x % 2 = 0
        · exact ⟨_, _, ⟨by omega, by omega⟩, ddiff_a a ys c x y z n ss roots root hr hrs HT HP HA ⟨h8, hp⟩ (hy1 hR)⟩
        · exact ⟨_, _, ⟨by omega, by omega⟩, ddiff_b a ys c x y z n ss roots root hr hrs HT HP HA ⟨h8, by omega⟩ (hy1 hR)⟩
      · by_cases h9 : x = 8
        · exact ⟨_, _, ⟨by omega, h0⟩, ddiff_e a ys c x y z n ss roots root hr hrs HT HP HA h9 hR⟩
        · exact ⟨_, _, ⟨hY, hY⟩, ddiff_g a ys c x y z n ss roots root hr hrs HT HP HA (by omega) hR⟩
    · have hR0 : roots.length = 0 := by omega
      by_cases h8 : x < 8
      · by_cases hp : x % 2 = 0
        · exact ⟨_, _, ⟨by omega, h0⟩, ddiff_c a ys c x y z n ss roots root hr hrs HT HP HA ⟨h8, hp⟩ hR0⟩
        · exact ⟨_, _, ⟨h0, by omega⟩, ddiff_d a ys c x y z n ss roots root hr hrs HT HP HA ⟨h8, by omega⟩ hR0⟩
      · by_cases h9 : x = 8
        · exact ⟨_, _, ⟨by omega, h0⟩, ddiff_f a ys c x y z n ss roots root hr hrs HT HP HA h9 hR0⟩
        · exact ⟨_, _, ⟨hY, hY⟩, ddiff_h a ys c x y z n ss roots root hr hrs HT HP HA (by omega) hR0⟩
  obtain ⟨r1, r2, ⟨hr1, hr2⟩, HDw⟩ := hdraw
  clear HT HP HA
  obtain ⟨D, hdo, HD1, HD2⟩ := dec_both n
  have hsz : Hid (∀ j, (ss.getD j ⟨#[]⟩).size ≤ 1048575) := fun j => Nat.le_trans (hss.getD j) (by omega)
  have hall : ∀ r : ByteArray, LdOk (rangeM (fndD D n.toNat ss) n ss.length r ⟨#[]⟩ ⟨#[]⟩) := fun r => by
    by_cases hp : (poolOk n ss.length && hashOk r.size n) = true
    · have hp' : 1 ≤ n ∧ n ≤ 32 ∧ ss.length ≤ 20000 := of_decide_eq_true ((Bool.and_eq_true _ _).mp hp).1
      have hfo := fndD_ok D n.toNat ss (hdo n.toNat (by omega))
      exact ⟨rangeM_small hfo n ss.length r _ _, rangeM_bd hfo n ss.length r _ _, rangeM_up hfo n ss.length r _ _⟩
    · rw [rangeM_bad (by simpa using hp)]
      exact ⟨⟨by decide, nil_small⟩, fun p hp => by simp at hp, trivial⟩
  have hA := hall r1
  have hBB := hall r2
  have hC := diffM_small hA hBB
  have hD := diffM_small hBB hA
  have lA := hA.lok.1
  have lB := hBB.lok.1
  refine diff_walk a ys c n ss r1 r2 (diffM (fndD D n.toNat ss) n ss.length r1 r2).1 (diffM (fndD D n.toNat ss) n ss.length r2 r1).1 (rangeM (fndD D n.toNat ss) n ss.length r1 ⟨#[]⟩ ⟨#[]⟩).1 (rangeM (fndD D n.toNat ss) n ss.length r2 ⟨#[]⟩ ⟨#[]⟩).1 (diffM (fndD D n.toNat ss) n ss.length r1 r2).2 (diffM (fndD D n.toNat ss) n ss.length r2 r1).2 (rangeM (fndD D n.toNat ss) n ss.length r1 ⟨#[]⟩ ⟨#[]⟩).2 (rangeM (fndD D n.toNat ss) n ss.length r2 ⟨#[]⟩ ⟨#[]⟩).2 w hX.le hB hK HDw ?_ ?_ ?_ ?_ ?_ hC.1 hC.2 hD.1 hD.2 hA.lok.2 (by omega) hBB.lok.2 (by omega) diffM_bad ?_
  · intro w ap cp hS
    rw [diffM_eq]
    exact sdiff_any _ _ n ap ss.length cp r1 r2 w (fun _ => ⟨hA.lok, hBB.lok, hA.bd, hBB.bd, hA.up, hBB.up⟩) (fun _ w1 hb1 => sld_any digSaid D n HD2 hdo ap ss cp r1 w1 (hS.below hb1) hsz (by omega)) (fun _ w1 hb1 => sld_any digSaid D n HD2 hdo ap ss cp r2 w1 (hS.below hb1) hsz (by omega))
  · intro w ap cp hS hk
    exact idiff_any (fun s w' hs hk => ehash_any s w' hs hk) D n HD1 hdo ap ss cp r1 r2 w hS hk (by omega) (by omega)
  · intro w ap cp hS hk
    exact idiff_any (fun s w' hs hk => ehash_any s w' hs hk) D n HD1 hdo ap ss cp r2 r1 w hS hk (by omega) (by omega)
  · intro w ap cp hS
    exact sld_any digSaid D n HD2 hdo ap ss cp r1 w hS hsz (by omega)
  · intro w ap cp hS
    exact sld_any digSaid D n HD2 hdo ap ss cp r2 w hS hsz (by omega)
  · intro h1 h2
    obtain ⟨g1, g2, g3, g4⟩ := diffM_good hA hBB h1 h2
    obtain ⟨k1, _, _, k4⟩ := diffM_good hBB hA h2 h1
    exact ⟨k1, g2, g3, g4, k4⟩
end Go.Proofs.YtfmpjlpakldheaaGreatDoor
