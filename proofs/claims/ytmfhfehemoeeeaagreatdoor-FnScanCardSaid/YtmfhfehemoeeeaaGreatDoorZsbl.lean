import Derived.Test.YtmfhfehemoeeeaaGreatDoorZsbk
set_option maxRecDepth 100000
set_option maxHeartbeats 2000000
namespace Go.Proofs.YtmfhfehemoeeeaaGreatDoor
open Go.RowKit Go.Proofs.Sha

/-- The blocks that a saving changes. -/
def SvM (gs sa ra : Nat) (q : Nat) : Prop := q = gs ∨ q = sa ∨ q = ra
def SmallE (ad : List ByteArray) : Prop := ad.length ≤ 20000 ∧ ∀ j, (ad.getD j ⟨#[]⟩).size ≤ 1048576
/-- What a saving holds in memory. -/
def SvAt (gs so sa ra base wd : Nat) : SvR → World → Prop
  | .go ad, w => SVb gs so sa 0 ⟨#[]⟩ ⟨#[]⟩ w ∧ (∃ a c, StockAt sa ra base wd ad a c w) ∧ SmallE ad
  | .full, w => SVb gs so sa 1 ⟨#[]⟩ ⟨#[]⟩ w
  | .clash u e, w => SVb gs so sa 4 (txt u) (txt e) w
def SvR.isGo : SvR → Bool
  | .go _ => true
  | _ => false
theorem svStep_some {wd : Nat} {ss ad : List ByteArray} {e u : ByteArray} (h : fst2 wd ss ad (hashT wd e) = some u) : svStep wd ss (.go ad) e = if u = e then .go ad else .clash u e := by
  unfold fst2 at h
  unfold svStep
  cases hf : firstI (hitB wd (ss ++ ad) (hashT wd e)) (ss.length + ad.length) with
  | none => rw [hf] at h; cases h
  | some i =>
    rw [hf] at h
    simp only [Option.map_some, Option.some.injEq] at h
    simp only [hf, h]
theorem svStep_none {wd : Nat} {ss ad : List ByteArray} {e : ByteArray} (h : fst2 wd ss ad (hashT wd e) = none) : svStep wd ss (.go ad) e = if 20000 ≤ ss.length + ad.length then .full else .go (ad ++ [e]) := by
  unfold fst2 at h
  unfold svStep
  cases hf : firstI (hitB wd (ss ++ ad) (hashT wd e)) (ss.length + ad.length) with
  | none => simp only [hf]
  | some i => rw [hf] at h; cases h
theorem fst2_small {wd : Nat} {ss ad : List ByteArray} {hash u : ByteArray} (h : fst2 wd ss ad hash = some u) (h1 : ∀ j, (ss.getD j ⟨#[]⟩).size ≤ 1048576) (h2 : ∀ j, (ad.getD j ⟨#[]⟩).size ≤ 1048576) : u.size ≤ 1048576 := by
  cases hf : firstI (hitB wd ss hash) ss.length with
  | some i => rw [fst2_old hf] at h; rw [← Option.some.inj h]; exact h1 i
  | none =>
    rw [fst2_new hf] at h
    cases hg : firstI (hitB wd ad hash) ad.length with
    | none => rw [hg] at h; cases h
    | some i => rw [hg] at h; rw [← Option.some.inj h]; exact h2 i
theorem SmallE.snoc {ad : List ByteArray} {e : ByteArray} (h : SmallE ad) (h1 : ad.length < 20000) (he : e.size ≤ 1048576) : SmallE (ad ++ [e]) := by
  refine ⟨by rw [List.length_append]; show ad.length + 1 ≤ _; omega, fun j => ?_⟩
  rw [List.getD_eq_getElem?_getD, List.getElem?_append]
  split
  · have := h.2 j
    rw [List.getD_eq_getElem?_getD] at this
    exact this
  · cases hx : ([e] : List ByteArray)[j - ad.length]? with
    | none => exact Nat.zero_le _
    | some y =>
      have : y ∈ [e] := List.mem_of_getElem? hx
      rw [List.mem_singleton] at this
      subst this
      exact he
theorem Fr.upd {N : Nat → Prop} {w w' : World} (h : Fr w.heap.size N w w') : Upd N w w' :=
  ⟨h.os, h.tape, h.output, h.size, fun q hq hn => h.block q hq hn (fun x => by have := x.1; omega)⟩
theorem svTake_any (HH : Hid (HashSaid KTab)) (gs so sa ra base wd : Nat) (ss : List ByteArray) (ro bo : Nat) (ao : Option Addr) (co : Nat) (w4 : World) (hb4 : base = w4.heap.size)
    (hOld : Hid (∀ W, Upd (SvM gs sa ra) w4 W → StockAt so ro bo wd ss ao co W)) (hKT : Hid (∀ W, Upd (SvM gs sa ra) w4 W → KTab W)) (hs1 : ss.length ≤ 20000) (hs2 : ∀ j, (ss.getD j ⟨#[]⟩).size ≤ 1048576) (_hw1 : 1 ≤ wd) (hw2 : wd ≤ 32)
    (hn1 : gs < base) (hn2 : gs ≠ sa) (hn3 : gs ≠ ra) (tb : Nat) (x : PairT) (pl pr : Option Addr) (enc : ByteArray) (he : enc.size ≤ 10000) (hT : TB tb x pl pr (enc, hashT wd enc) w4) (hnt : ¬ SvM gs sa ra tb)
    (ad : List ByteArray) (W : World) (hU : Upd (SvM gs sa ra) w4 W) (hA : SvAt gs so sa ra base wd (.go ad) W) :
    Calls Tryz.prog 73 #[.pointer (some ⟨gs, 0, none⟩), .pointer (some ⟨tb, 0, none⟩)] W fun e W' => e = .returned (.bool (svStep wd ss (.go ad) enc).isGo) ∧ SvAt gs so sa ra base wd (svStep wd ss (.go ad) enc) W' ∧ Upd (SvM gs sa ra) w4 W' := by
  obtain ⟨hg, ⟨a, c, hS⟩, hsm⟩ := hA
  have hTW : TB tb x pl pr (enc, hashT wd enc) W := hT.upd hU hnt
  have c37 := hTW.c37
  have c38 := hTW.c38
  have hO := hOld.out W hU
  have htb : tb < W.heap.size := hTW.lt
  have hhs : (hashT wd enc).size = wd := by
    show ((sha (78 :: enc.data.toList)).take wd).toArray.size = wd
    rw [List.size_toArray, List.length_take, sha_len32]; omega
  have H1 : Hid (∀ w', Below W.heap.size W w' → ∀ fx, firstI (hitB wd ss (hashT wd enc)) ss.length = fx → Calls Tryz.prog 105 #[.pointer (some ⟨so, 0, none⟩), .string (hashT wd enc)] w' fun e w'' => e = .returned (.tuple #[.string (encAt ss fx), .bool fx.isSome]) ∧ Below w'.heap.size w' w'') := fun w' hb fx hfx => stockFirst_any so ro bo wd ss ao co (hashT wd enc) w' (hO.below hb) hs2 (by omega) hw2 hhs fx hfx
  have H2 : Hid (∀ w', Below W.heap.size W w' → ∀ fx, firstI (hitB wd ad (hashT wd enc)) ad.length = fx → Calls Tryz.prog 105 #[.pointer (some ⟨sa, 0, none⟩), .string (hashT wd enc)] w' fun e w'' => e = .returned (.tuple #[.string (encAt ad fx), .bool fx.isSome]) ∧ Below w'.heap.size w' w'') := fun w' hb fx hfx => stockFirst_any sa ra base wd ad a c (hashT wd enc) w' (hS.below hb) hsm.2 (by have := hsm.1; omega) hw2 hhs fx hfx
  have HF : Hid (∀ w', Below W.heap.size W w' → Calls Tryz.prog 89 #[.pointer (some ⟨gs, 0, none⟩), .string (hashT wd enc)] w' fun e w'' => e = .returned (.tuple #[.string (encO (fst2 wd ss ad (hashT wd enc))), .bool (fst2 wd ss ad (hashT wd enc)).isSome]) ∧ Below w'.heap.size w' w'') := fun w' hb => savFirst_any gs so sa 0 ⟨#[]⟩ ⟨#[]⟩ wd ss ad (hashT wd enc) w' (hg.below hb) (fun w2 hb2 => H1.out w2 (hb.trans (hb2.mono hb.size))) (fun w2 hb2 => H2.out w2 (hb.trans (hb2.mono hb.size)))
  cases hf : fst2 wd ss ad (hashT wd enc) with
  | some u =>
    rw [hf] at HF
    rw [svStep_some hf]
    have hu := fst2_small hf hs2 hsm.2
    by_cases e : u = enc
    · subst e
      rw [if_pos rfl]
      refine (savTake_same gs tb u (hashT wd u) W htb c37 c38 HF).mono ?_
      rintro e w' ⟨he, hb⟩
      exact ⟨he, ⟨hg.below hb, ⟨a, c, hS.below hb⟩, hsm⟩, hU.trans (Upd.of_below hb)⟩
    · rw [if_neg e]
      have HT1 : Hid (∀ w', Calls Tryz.prog 90 #[.string u] w' fun e w'' => e = .returned (.string (txt u)) ∧ Below w'.heap.size w' w'') := fun w' => (textOf_any u w' hu).mono (by rintro e w'' ⟨h1, rfl⟩; exact ⟨h1, Below.refl _ _⟩)
      have HT2 : Hid (∀ w', Calls Tryz.prog 90 #[.string enc] w' fun e w'' => e = .returned (.string (txt enc)) ∧ Below w'.heap.size w' w'') := fun w' => (textOf_any enc w' (by omega)).mono (by rintro e w'' ⟨h1, rfl⟩; exact ⟨h1, Below.refl _ _⟩)
      refine (savTake_clash gs so sa tb _ _ enc (hashT wd enc) u W hg htb c37 c38 e (fun q => hnt (.inl q)) _ _ HT1 HT2 HF).mono ?_
      rintro e w' ⟨he, hb, hfr⟩
      exact ⟨he, hb, hU.trans (hfr.upd.mono fun k hk => .inl hk)⟩
  | none =>
    rw [hf] at HF
    rw [svStep_none hf]
    by_cases hr : 20000 ≤ ss.length + ad.length
    · rw [if_pos hr]
      refine (savTake_full gs so sa tb _ _ enc (hashT wd enc) ao a _ _ co c _ _ _ _ W hg htb c37 c38 hO.blk hS.blk (by omega) (by have := hsm.1; omega) hr HF).mono ?_
      rintro e w' ⟨he, hb, hfr⟩
      exact ⟨he, hb, hU.trans (hfr.upd.mono fun k hk => .inl hk)⟩
    · rw [if_neg hr]
      have HA : Hid (∀ w', Below W.heap.size W w' → Calls Tryz.prog 53 #[.pointer (some ⟨sa, 0, none⟩), .string enc] w' fun e w'' => e = .returned (.tuple #[]) ∧ SVb gs so sa 0 ⟨#[]⟩ ⟨#[]⟩ w'' ∧ w''.cell? ⟨tb, 37, none⟩ = some (.string enc) ∧ ((∃ a c, StockAt sa ra base wd (ad ++ [enc]) a c w'') ∧ Upd (SvM gs sa ra) w4 w'')) := fun w' hb => by
        have hU' : Upd (SvM gs sa ra) w4 w' := hU.trans (Upd.of_below hb)
        refine (stockAdd_all HH (fun w1 w2 h1 h2 => KTab.below h1 h2) sa ra base wd ad a c enc w' (hS.below hb) (hKT.out _ hU') (by omega) hw2 (by have := hsm.1; omega)).mono ?_
        rintro e w'' ⟨a', c', he', hS', hbn, hbk⟩
        have hB0 := hbn 0 (Nat.zero_le _) (Nat.zero_le _)
        have hU2 : Upd (SvM gs sa ra) w4 w'' := ⟨hB0.os.trans hU'.os, hB0.tape.trans hU'.tape, hB0.output.trans hU'.output, Nat.le_trans hU'.size hB0.size, fun q hq hn => (hbk q (by omega) (fun e => hn (.inr (.inl e))) (fun e => hn (.inr (.inr e)))).trans (hU'.block q hq hn)⟩
        exact ⟨he', (hbk gs hn1 hn2 hn3).trans (hg.below hb), (hT.upd hU2 hnt).c37, ⟨a', c', hS'⟩, hU2⟩
      refine (savTake_add gs so sa tb _ _ enc (hashT wd enc) ao a _ _ co c _ _ _ _ W hg htb c37 c38 hO.blk hS.blk (by omega) (by have := hsm.1; omega) (by omega) (fun w'' => (∃ a c, StockAt sa ra base wd (ad ++ [enc]) a c w'') ∧ Upd (SvM gs sa ra) w4 w'') HF HA).mono ?_
      rintro e w' ⟨he2, hb, hR, hU3⟩
      exact ⟨he2, ⟨hb, hR, hsm.snoc (by omega) (by omega)⟩, hU3⟩
theorem SvAt.below {gs so sa ra base wd : Nat} {r : SvR} {w w' : World} (h : SvAt gs so sa ra base wd r w) (hb : Below w.heap.size w w') : SvAt gs so sa ra base wd r w' := by
  cases r with
  | go ad =>
    obtain ⟨h1, ⟨a, c, h2⟩, h3⟩ := h
    exact ⟨h1.below hb, ⟨a, c, h2.below hb⟩, h3⟩
  | full => exact SVb.below h hb
  | clash u e => exact SVb.below h hb
theorem sv_stuck (wd : Nat) (ss : List ByteArray) : ∀ (es : List ByteArray) (r : SvR), r.isGo = false → es.foldl (svStep wd ss) r = r
  | [], _, _ => rfl
  | e :: es, r, h => by
    rw [List.foldl_cons]
    have : svStep wd ss r e = r := by
      cases r with
      | go ad => cases h
      | full => rfl
      | clash u x => rfl
    rw [this]
    exact sv_stuck wd ss es r h
theorem csv_no (c : Nat) (p : Option Addr) (i : Int) (hi : i = 0 ∨ i = 1) (w : World) : Calls Tryz.prog 72 #[.pointer p, .int .i64 i, .pointer (some ⟨c, 0, none⟩)] w fun e w' => e = .returned (.bool true) ∧ w' = w := by
  have hz : (i != 2) = true := by rcases hi with rfl | rfl <;> rfl
  go_enter Tryz.func72, Tryz.ntmps72
  go_wp2_with fail
  go_ret
  exact ⟨rfl, rfl⟩
theorem csv_yes (c gs b : Nat) (w : World) (hc : w.cell? ⟨c, 0, none⟩ = some (.pointer (some ⟨gs, 0, none⟩))) (v : Bool) (R : World → Prop)
    (H : Hid (Calls Tryz.prog 73 #[.pointer (some ⟨gs, 0, none⟩), .pointer (some ⟨b, 0, none⟩)] w fun e w' => e = .returned (.bool v) ∧ R w')) :
    Calls Tryz.prog 72 #[.pointer (some ⟨b, 0, none⟩), .int .i64 2, .pointer (some ⟨c, 0, none⟩)] w fun e w' => e = .returned (.bool v) ∧ R w' := by
  go_enter Tryz.func72, Tryz.ntmps72
  go_wp2_with (go_at_call 73; refine H.out.mono ?_; rintro e w1 ⟨rfl, hR⟩)
  go_ret
  exact ⟨rfl, hR⟩
theorem walk_save (HH : Hid (HashSaid KTab)) (gs so sa ra base wd : Nat) (ss : List ByteArray) (ro bo : Nat) (ao : Option Addr) (co : Nat) (w4 : World) (hb4 : base = w4.heap.size)
    (hOld : Hid (∀ W, Upd (SvM gs sa ra) w4 W → StockAt so ro bo wd ss ao co W)) (hKT : Hid (∀ W, Upd (SvM gs sa ra) w4 W → KTab W)) (hs1 : ss.length ≤ 20000) (hs2 : ∀ j, (ss.getD j ⟨#[]⟩).size ≤ 1048576) (hw1 : 1 ≤ wd) (hw2 : wd ≤ 32)
    (hn1 : gs < base) (hn2 : gs ≠ sa) (hn3 : gs ≠ ra) (cs : Nat) (hcs : w4.cell? ⟨cs, 0, none⟩ = some (.pointer (some ⟨gs, 0, none⟩))) (hnc : ¬ SvM gs sa ra cs) :
    ∀ (t : Tr PairT) (p : Option Addr) (bs : List Nat) (ad : List ByteArray) (W : World), TAL 0 (hf wd) t p bs w4 → (∀ b ∈ bs, ¬ SvM gs sa ra b) → Upd (SvM gs sa ra) w4 W → SvAt gs so sa ra base wd (.go ad) W →
      Calls Tryz.prog 70 #[.pointer p, .func (.func 71) #[] #[], .func (.func 72) #[] #[.pointer (some ⟨cs, 0, none⟩)]] W fun e W' => e = .returned (.bool ((encsT wd t).foldl (svStep wd ss) (.go ad)).isGo) ∧ SvAt gs so sa ra base wd ((encsT wd t).foldl (svStep wd ss) (.go ad)) W' ∧ Upd (SvM gs sa ra) w4 W' := by
  intro t
  induction t with
  | nil =>
    intro p bs ad W ht hbs hU hA
    have HU := isThere_any .nil (hf wd) p W (n0 := 0) ht.1
    have hs : someT .nil = false := rfl
    rw [hs] at HU
    have hr : (encsT wd .nil).foldl (svStep wd ss) (.go ad) = .go ad := rfl
    rw [hr]
    have hg : (SvR.go ad).isGo = true := rfl
    rw [hg]
    have HA : Hid (SvAt gs so sa ra base wd (.go ad) W) := hA
    clear hs hr hg hA ht hOld hKT hcs
    go_enter Tryz.func70, Tryz.ntmps70
    go_wp2_with (go_at_call 71; refine HU.mono ?_; rintro e w1 ⟨rfl, rfl⟩)
    go_ret
    exact ⟨rfl, HA.out, hU⟩
  | node l x r ihl ihr =>
    intro p bs ad W ht hbs hU hA
    have HU := fun w' h => isThere_any (.node l x r) (hf wd) p w' (n0 := 0) h
    have hs : someT (.node l x r) = true := rfl
    rw [hs] at HU
    clear hs
    have htW := (ht.upd hU hbs).ta
    have HU := HU W htW
    obtain ⟨b, pl, pr, bl, br, rfl, rfl, hge, hb, hl, hr⟩ := ht
    have hm : ∀ w' : World, (method 356 61 (.pointer (some ⟨b, 0, none⟩)) "loop.example/s03048/impl.subtrees").run Tryz.prog w' = .ok (130, .pointer (some ⟨b, 0, none⟩)) w' := fun _ => by kernel_rfl
    have H0 := fun w' => csv_no cs (some ⟨b, 0, none⟩) 0 (.inl rfl) w'
    have H1 := fun w' => csv_no cs (some ⟨b, 0, none⟩) 1 (.inr rfl) w'
    have hnb : ¬ SvM gs sa ra b := hbs b (by simp)
    have HS := subs_any b x pl pr _ W (hb.upd hU hnb)
    have he : (encT wd (.node l x r)).size ≤ 10000 := (encS_size x.1 x.2 (rootT wd l) (rootT wd r) wd).1
    have hbT : TB b x pl pr (encT wd (.node l x r), hashT wd (encT wd (.node l x r))) w4 := hb
    obtain ⟨E, hE⟩ : ∃ E, encT wd (.node l x r) = E := ⟨_, rfl⟩
    have henc : encsT wd (.node l x r) = encsT wd l ++ encsT wd r ++ [E] := by rw [← hE]; rfl
    rw [henc]
    rw [hE] at he hbT
    clear henc hE
    rw [List.foldl_append, List.foldl_append]
    have HL : Hid (∀ w0, Below W.heap.size W w0 → Calls Tryz.prog 70 #[.pointer pl, .func (.func 71) #[] #[], .func (.func 72) #[] #[.pointer (some ⟨cs, 0, none⟩)]] w0 fun e W' => e = .returned (.bool ((encsT wd l).foldl (svStep wd ss) (.go ad)).isGo) ∧ SvAt gs so sa ra base wd ((encsT wd l).foldl (svStep wd ss) (.go ad)) W' ∧ Upd (SvM gs sa ra) w4 W') := fun w0 hb0 => ihl pl bl ad w0 hl (fun k hk => hbs k (by simp [hk])) (hU.trans (Upd.of_below hb0)) (hA.below hb0)
    have HRr : Hid (∀ ad1 W1, Upd (SvM gs sa ra) w4 W1 → SvAt gs so sa ra base wd (.go ad1) W1 → Calls Tryz.prog 70 #[.pointer pr, .func (.func 71) #[] #[], .func (.func 72) #[] #[.pointer (some ⟨cs, 0, none⟩)]] W1 fun e W' => e = .returned (.bool ((encsT wd r).foldl (svStep wd ss) (.go ad1)).isGo) ∧ SvAt gs so sa ra base wd ((encsT wd r).foldl (svStep wd ss) (.go ad1)) W' ∧ Upd (SvM gs sa ra) w4 W') := fun ad1 W1 hU1 hA1 => ihr pr br ad1 W1 hr (fun k hk => hbs k (by simp [hk])) hU1 hA1
    have HY : Hid (∀ ad2 W2, Upd (SvM gs sa ra) w4 W2 → SvAt gs so sa ra base wd (.go ad2) W2 → Calls Tryz.prog 72 #[.pointer (some ⟨b, 0, none⟩), .int .i64 2, .pointer (some ⟨cs, 0, none⟩)] W2 fun e W' => e = .returned (.bool (svStep wd ss (.go ad2) E).isGo) ∧ SvAt gs so sa ra base wd (svStep wd ss (.go ad2) E) W' ∧ Upd (SvM gs sa ra) w4 W') := fun ad2 W2 hU2 hA2 => csv_yes cs gs b W2 (hU2.cell hcs hnc) _ (fun W' => SvAt gs so sa ra base wd (svStep wd ss (.go ad2) E) W' ∧ Upd (SvM gs sa ra) w4 W') (svTake_any HH gs so sa ra base wd ss ro bo ao co w4 hb4 hOld hKT hs1 hs2 hw1 hw2 hn1 hn2 hn3 b x pl pr E he hbT hnb ad2 W2 hU2 hA2)
    clear ihl ihr hl hr hb hbT he hA hcs hnc hOld hKT htW hbs hU hnb hge
    obtain ⟨R1, hR1⟩ : ∃ R1, (encsT wd l).foldl (svStep wd ss) (.go ad) = R1 := ⟨_, rfl⟩
    rw [hR1] at HL ⊢
    clear hR1
    by_cases g1 : R1.isGo = true
    · obtain ⟨ad1, rfl⟩ : ∃ ad1, R1 = .go ad1 := by cases R1 with
        | go ad1 => exact ⟨_, rfl⟩
        | full => cases g1
        | clash u e => cases g1
      have HR := fun W1 => HRr.out ad1 W1
      obtain ⟨R2, hR2⟩ : ∃ R2, (encsT wd r).foldl (svStep wd ss) (.go ad1) = R2 := ⟨_, rfl⟩
      rw [hR2] at HR ⊢
      have HR : Hid _ := HR
      rw [g1] at HL
      clear hR2 HRr g1
      by_cases g2 : R2.isGo = true
      · obtain ⟨ad2, rfl⟩ : ∃ ad2, R2 = .go ad2 := by cases R2 with
          | go ad2 => exact ⟨_, rfl⟩
          | full => cases g2
          | clash u e => cases g2
        rw [g2] at HR
        have HY2 : Hid _ := fun W2 => HY.out ad2 W2
        have hfo : [E].foldl (svStep wd ss) (.go ad2) = svStep wd ss (.go ad2) E := rfl
        rw [hfo]
        generalize svStep wd ss (.go ad2) E = R3 at HY2 ⊢
        clear HY hfo g2
        generalize R3.isGo = v at HY2 ⊢
        go_enter Tryz.func70, Tryz.ntmps70
        go_wp2_with (first | (go_at_call 71; refine HU.mono ?_; rintro e w1 ⟨rfl, rfl⟩) | (go_at_call_of 72 (Value.int .i64 0); refine (H0 _).mono ?_; rintro e w1 ⟨rfl, rfl⟩) | (go_at_call_of 72 (Value.int .i64 1); refine (H1 _).mono ?_; rintro e w1 ⟨rfl, rfl⟩) | (go_at_call 130; refine HS.mono ?_; rintro e w0 ⟨rfl, hb0⟩) | (go_at_call_of 70 (Value.pointer pl); refine (HL.out _ hb0).mono ?_; rintro e w1 ⟨rfl, ht1, hu1⟩) | (go_at_call_of 70 (Value.pointer pr); refine (HR.out _ hu1 ht1).mono ?_; rintro e w2 ⟨rfl, ht2, hu2⟩) | (go_at_call_of 72 (Value.int .i64 2); refine (HY2.out _ hu2 ht2).mono ?_; rintro e w3 ⟨rfl, ht3, hu3⟩))
        go_ret
        exact ⟨rfl, ht3, hu3⟩
      · rw [Bool.not_eq_true] at g2
        rw [sv_stuck wd ss _ R2 g2]
        rw [g2] at HR ⊢
        clear HY g2
        go_enter Tryz.func70, Tryz.ntmps70
        go_wp2_with (first | (go_at_call 71; refine HU.mono ?_; rintro e w1 ⟨rfl, rfl⟩) | (go_at_call_of 72 (Value.int .i64 0); refine (H0 _).mono ?_; rintro e w1 ⟨rfl, rfl⟩) | (go_at_call_of 72 (Value.int .i64 1); refine (H1 _).mono ?_; rintro e w1 ⟨rfl, rfl⟩) | (go_at_call 130; refine HS.mono ?_; rintro e w0 ⟨rfl, hb0⟩) | (go_at_call_of 70 (Value.pointer pl); refine (HL.out _ hb0).mono ?_; rintro e w1 ⟨rfl, ht1, hu1⟩) | (go_at_call_of 70 (Value.pointer pr); refine (HR.out _ hu1 ht1).mono ?_; rintro e w2 ⟨rfl, ht2, hu2⟩))
        go_ret
        exact ⟨rfl, ht2, hu2⟩
    · rw [Bool.not_eq_true] at g1
      rw [sv_stuck wd ss _ R1 g1, sv_stuck wd ss _ R1 g1]
      rw [g1] at HL ⊢
      clear HY HRr g1
      go_enter Tryz.func70, Tryz.ntmps70
      go_wp2_with (first | (go_at_call 71; refine HU.mono ?_; rintro e w1 ⟨rfl, rfl⟩) | (go_at_call_of 72 (Value.int .i64 0); refine (H0 _).mono ?_; rintro e w1 ⟨rfl, rfl⟩) | (go_at_call_of 72 (Value.int .i64 1); refine (H1 _).mono ?_; rintro e w1 ⟨rfl, rfl⟩) | (go_at_call 130; refine HS.mono ?_; rintro e w0 ⟨rfl, hb0⟩) | (go_at_call_of 70 (Value.pointer pl); refine (HL.out _ hb0).mono ?_; rintro e w1 ⟨rfl, ht1, hu1⟩))
      go_ret
      exact ⟨rfl, ht1, hu1⟩
end Go.Proofs.YtmfhfehemoeeeaaGreatDoor
