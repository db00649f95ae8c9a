import Derived.Test.YtibjhkpgaaapaaaGreatDoorZkbe
namespace Go.Proofs.YtibjhkpgaaapaaaGreatDoor
open Go.RowKit Go.Proofs.Sha

/-- What a walk leaves. -/
def WP5 (lb sb c : Nat) (L : List UInt8) (N : Nat → Prop) (w : World) (R : Int × Nat × List PairT) (X : List UInt8) (e : Ending) (w' : World) : Prop :=
  e = .returned (.bool (decide (R.1 = 0))) ∧ Ft c N w w' ∧ (R.1 = 0 → LD lb sb R.2.1 0 w' ∧ Bld c (L ++ X) w') ∧ (R.1 ≠ 0 → ∃ m, LD lb sb m R.1 w')
theorem Bld.ty {c : Nat} {l : List UInt8} {w : World} (h : Bld c l w) : ∃ cs, w.heap[c]? = some (.cells cs 165) := by
  rcases h with ⟨_, v, h2, _⟩ | ⟨_, v, h2, _⟩ <;> exact ⟨_, h2⟩
set_option maxRecDepth 100000 in
set_option maxHeartbeats 1000000 in
theorem walk5_none (lb sb c gb xl xa : Nat) (lo hi over under pk : ByteArray) (f : Nat) (fnd : ByteArray → FN) (cnt : Nat) (L : List UInt8) (hash : ByteArray) (he : emp hash = true) (w : World) (hg : w.heap[gb]? = some (.cells #[.string lo, .string hi] 75)) (hL : LD lb sb cnt 0 w) (hS : Bld c L w) (hl : L.length ≤ 6000000) (hcl : lb ≠ c) :
    Calls Tryz.prog 147 #[.pointer none, into5 gb c, atV xl xa] w (WP5 lb sb c L (NWk none lb c) w (goF fnd hgW lo hi (f + 1) hash over under pk cnt) (prL fnd lo hi (f + 1) hash over under)) := by
  rw [goF_skip (by rw [he]; rfl), prL_e he]
  have HI := into_none gb c lo hi L w hg hS (by omega)
  have HP : Hid (∀ w', Put c (L ++ [69]) w w' → WP5 lb sb c L (NWk none lb c) w (0, cnt, []) [69] (.returned (.bool true)) w') := fun w' hp => ⟨rfl, Ft.of_put hp (.inr (.inr rfl)), fun _ => ⟨hp.cells hL hcl (by decide), hp.1⟩, fun h => absurd rfl h⟩
  clear hL hS hg
  go_enter Tryz.func147, Tryz.ntmps147
  go_wp2_with (first | (go_at_call 108; refine HI.mono ?_; rintro e w2 ⟨rfl, hb2⟩))
  go_ret
  exact HP.out _ hb2
set_option maxRecDepth 100000 in
set_option maxHeartbeats 1000000 in
theorem walk5_cut (lb sb c gb xl xa b : Nat) (lo hi over under pk : ByteArray) (par : Option Addr) (f : Nat) (fnd : ByteArray → FN) (cnt : Nat) (L : List UInt8) (hash : ByteArray) (he : emp hash = false) (hc : canW over under lo hi = false) (w : World) (hg : w.heap[gb]? = some (.cells #[.string lo, .string hi] 75)) (hB : BR b hash over under par w) (hL : LD lb sb cnt 0 w) (hS : Bld c L w) (hl : L.length + hash.size ≤ 6000000) (hcl : lb ≠ c) :
    Calls Tryz.prog 147 #[.pointer (some ⟨b, 0, none⟩), into5 gb c, atV xl xa] w (WP5 lb sb c L (NWk (some ⟨b, 0, none⟩) lb c) w (goF fnd hgW lo hi (f + 1) hash over under pk cnt) (prL fnd lo hi (f + 1) hash over under)) := by
  rw [goF_skip (by rw [hc]; simp), prL_s he hc]
  have HI := into_cut b gb c hash over under par lo hi L w hB hc hg hS (by omega)
  have HP : Hid (∀ w', Put c (L ++ 83 :: hash.data.toList) w w' → WP5 lb sb c L (NWk (some ⟨b, 0, none⟩) lb c) w (0, cnt, []) (83 :: hash.data.toList) (.returned (.bool true)) w') := fun w' hp => ⟨rfl, Ft.of_put hp (.inr (.inr rfl)), fun _ => ⟨hp.cells hL hcl (by decide), hp.1⟩, fun h => absurd rfl h⟩
  generalize L ++ 83 :: hash.data.toList = L1 at HI HP
  clear hL hS hB hc hg
  go_enter Tryz.func147, Tryz.ntmps147
  go_wp2_with (first | (go_at_call 108; refine HI.mono ?_; rintro e w2 ⟨rfl, hb2⟩))
  go_ret
  exact HP.out _ hb2
/-- All that stands around a node's walk, but its subtrees. -/
structure Ar5 (wg : World) (B0 base lb sb c gb xl xa : Nat) (lo hi : ByteArray) (b : Nat) (w0 : World) (cnt : Nat) (L : List UInt8) (w : World) : Prop where
  env : Env5 wg B0 base lb c gb xl xa lo hi w
  ld : LD lb sb cnt 0 w
  ls : Bld c L w
  fr : Ft c (NWk (some ⟨b, 0, none⟩) lb c) w0 w
section
variable {wg : World} {B0 base lb sb c gb xl xa : Nat} {lo hi : ByteArray} {b : Nat} {w0 w w' : World} {cnt : Nat} {L : List UInt8} {hash over under : ByteArray} {par : Option Addr} {k v l r : ByteArray} {pl pr : Option Addr} {gl gr : Nat}
theorem Ar5.below (h : Ar5 wg B0 base lb sb c gb xl xa lo hi b w0 cnt L w) (s : Stc B0 base lb c gb xl xa) (hb : Below w.heap.size w w') : Ar5 wg B0 base lb sb c gb xl xa lo hi b w0 cnt L w' :=
  ⟨h.env.below s hb, h.ld.below hb, h.ls.below hb, h.fr.trans (Ft.of_below (N := fun _ => False) hb) (fun _ _ x => x.elim)⟩
end
set_option maxRecDepth 100000 in
set_option maxHeartbeats 2000000 in
theorem walk5_any (fnd : ByteArray → FN) (wd : Nat) (hfo : FndOk wd fnd) (hwd32 : wd ≤ 32) (wg : World) (B0 base lb sb c gb xl xa : Nat) (lo hi : ByteArray) (s : Stc B0 base lb c gb xl xa)
    (HF : Hid (∀ (hash : ByteArray) w', hash.size = wd → Below B0 wg w' → Calls Tryz.prog 190 #[.pointer (some ⟨sb, 0, none⟩), .string hash] w' fun e w'' => e = .returned (nodeT (fnd hash)) ∧ Below w'.heap.size w' w''))
    (HR : Hid (∀ (k : ByteArray) w', okKey k = true → Below B0 wg w' → Calls Tryz.prog 166 #[Value.string k] w' fun e w'' => e = .returned (.agg (rkL k).toArray) ∧ Below w'.heap.size w' w'')) :
    ∀ (f : Nat) (hash over under pk : ByteArray) (par p : Option Addr) (cnt : Nat) (L : List UInt8) (w : World), Env5 wg B0 base lb c gb xl xa lo hi w → LinkAt hash over under par p w → ParAt par pk w → LD lb sb cnt 0 w → Bld c L w → (∀ q, p = some q → base ≤ q.block) → (hash.size = 0 ∨ hash.size = wd) → 500 < cnt + f → cnt ≤ 500 → L.length ≤ 2400 * cnt →
    Calls Tryz.prog 147 #[.pointer p, into5 gb c, atV xl xa] w (WP5 lb sb c L (NWk p lb c) w (goF fnd hgW lo hi f hash over under pk cnt) (prL fnd lo hi f hash over under))
  | 0, _, _, _, _, _, _, _, _, _, _, _, _, _, _, _, _, h1, h2, _ => by omega
  | f + 1, hash, over, under, pk, par, p, cnt, L, w, hE, hK, hP, hL, hS, hpb, hsz, h500, hcn, hln => by
    rcases hK with ⟨he, rfl⟩ | ⟨he, b, rfl, hB⟩
    · exact walk5_none lb sb c gb xl xa lo hi over under pk f fnd cnt L hash he w hE.gx hL hS (by omega) s.n7
    cases hcan : canW over under lo hi with
    | false => exact walk5_cut lb sb c gb xl xa b lo hi over under pk par f fnd cnt L hash he hcan w hE.gx hB hL hS (by omega) s.n7
    | true =>
    have hskip : (emp hash || !canW over under lo hi) = false := by rw [he, hcan]; rfl
    have hwd : hash.size = wd := by
      rcases hsz with h | h
      · have h9 : emp hash = true := by unfold emp; simp [h]
        rw [he] at h9; cases h9
      · exact h
    have hbb : base ≤ b := hpb _ rfl
    have HI := into_yes b gb c hash over under par lo hi w hB hcan hE.gx
    have hsmall : (fnd hash).2 = 0 → (fnd hash).1.1.size ≤ 256 ∧ (fnd hash).1.2.1.size ≤ 2000 := fun hz => by
      obtain ⟨okk, okv, _, _⟩ := hfo.node hash hz
      unfold okKey at okk
      unfold okVal at okv
      have okk := of_decide_eq_true okk
      have okv := of_decide_eq_true okv
      omega
    have HB : Hid (∀ w0, Below w.heap.size w w0 → Calls Tryz.prog 149 #[.pointer (some ⟨b, 0, none⟩), .int .i64 0, .pointer (some ⟨xl, 0, none⟩), .pointer (some ⟨xa, 0, none⟩)] w0 fun e w' => e = .returned (.bool (decide (codeF fnd hash over under pk (cnt + 1) = 0))) ∧ Ft c (fun q => q = b ∨ q = lb ∨ q = c) w0 w' ∧ LD lb sb (cnt + 1) (codeF fnd hash over under pk (cnt + 1)) w' ∧ (codeF fnd hash over under pk (cnt + 1) = 0 → Kids b hash over under par (fnd hash).1.1 (fnd hash).1.2.1 (fnd hash).1.2.2.1 (fnd hash).1.2.2.2 w0 w' ∧ Bld c (L ++ 70 :: (sized (fnd hash).1.1.data.toList ++ sized (fnd hash).1.2.1.data.toList)) w')) := fun w0 hb0 =>
      g1_before fnd wg B0 base lb sb c gb xl xa b hash over under pk par lo hi cnt L w0 s (hE.below s hb0) (hfo.code hash) (fun hz => by have := hsmall hz; omega) (hL.below hb0) ((hb0.block b (Array.getElem?_eq_some_iff.1 hB).1).trans hB) (hP.fr (Fr.of_below (base := 0) (N := fun _ => False) hb0) (fun _ _ h => h)) (hS.below hb0) hcn hbb (by omega) (fun w' h' => HF.out hash w' hwd h') (fun w' h' hz => HR.out _ w' (hfo.node hash hz).1 h')
    by_cases hC : codeF fnd hash over under pk (cnt + 1) = 0
    · obtain ⟨hz, hfit, hc5⟩ := codeF_zero hC
      obtain ⟨okk, okv, okl, okr⟩ := hfo.node hash hz
      have hke : emp (fnd hash).1.1 = false := by
        have h9 : 1 ≤ (fnd hash).1.1.size := by
          unfold okKey at okk
          simp at okk
          omega
        unfold emp
        exact decide_eq_false (by omega)
      have hfe : fnd hash = (((fnd hash).1.1, (fnd hash).1.2.1, (fnd hash).1.2.2.1, (fnd hash).1.2.2.2), 0) := by rw [← hz]
      obtain ⟨LR, hLR⟩ : ∃ LR, goF fnd hgW lo hi f (fnd hash).1.2.2.1 over (fnd hash).1.1 (fnd hash).1.1 (cnt + 1) = LR := ⟨_, rfl⟩
      obtain ⟨RR, hRR⟩ : ∃ RR, goF fnd hgW lo hi f (fnd hash).1.2.2.2 (fnd hash).1.1 under (fnd hash).1.1 LR.2.1 = RR := ⟨_, rfl⟩
      obtain ⟨LX, hLX⟩ : ∃ LX, prL fnd lo hi f (fnd hash).1.2.2.1 over (fnd hash).1.1 = LX := ⟨_, rfl⟩
      obtain ⟨RX, hRX⟩ : ∃ RX, prL fnd lo hi f (fnd hash).1.2.2.2 (fnd hash).1.1 under = RX := ⟨_, rfl⟩
      rw [goF_node hskip hfe hfit hc5 hLR hRR, prL_f he hcan, hLX, hRX]
      have IL := fun par' p' L' w' => walk5_any fnd wd hfo hwd32 wg B0 base lb sb c gb xl xa lo hi s HF HR f (fnd hash).1.2.2.1 over (fnd hash).1.1 (fnd hash).1.1 par' p' (cnt + 1) L' w'
      have IR := fun par' p' L' w' => walk5_any fnd wd hfo hwd32 wg B0 base lb sb c gb xl xa lo hi s HF HR f (fnd hash).1.2.2.2 (fnd hash).1.1 under (fnd hash).1.1 par' p' LR.2.1 L' w'
      have hcl : LR.1 = 0 → cnt + 1 ≤ LR.2.1 ∧ LR.2.1 ≤ 500 := fun h => by rw [← hLR] at h ⊢; exact goF_cnt f _ _ _ _ _ hc5 h
      have hll : LR.1 = 0 → LX.length + 2400 * (cnt + 1) ≤ 2400 * LR.2.1 + 40 := fun h => by
        rw [← hLX]
        rw [← hLR] at h ⊢
        exact prL_len hfo hwd32 f _ _ _ _ _ hc5 okl h
      rw [hLR, hLX] at IL
      rw [hRR, hRX] at IR
      rw [hC] at HB
      rw [decide_eq_true rfl] at HB
      obtain ⟨L1, hL1⟩ : ∃ L1, L ++ 70 :: (sized (fnd hash).1.1.data.toList ++ sized (fnd hash).1.2.1.data.toList) = L1 := ⟨_, rfl⟩
      have hl1 : L1.length ≤ 2400 * cnt + 2261 := by
        rw [← hL1]
        simp only [List.length_append, List.length_cons, sized_len]
        have e1 : (fnd hash).1.1.data.toList.length = (fnd hash).1.1.size := rfl
        have e2 : (fnd hash).1.2.1.data.toList.length = (fnd hash).1.2.1.size := rfl
        have := hsmall hz
        omega
      have hfin : L ++ ((70 :: (sized (fnd hash).1.1.data.toList ++ sized (fnd hash).1.2.1.data.toList)) ++ (LX ++ RX)) = L1 ++ LX ++ RX := by rw [← hL1]; simp
      rw [hL1] at HB
      generalize (70 :: (sized (fnd hash).1.1.data.toList ++ sized (fnd hash).1.2.1.data.toList)) ++ (LX ++ RX) = FX at hfin ⊢
      clear hL1 hLX hRX hsmall
      generalize (fnd hash).1.1 = k at *
      generalize (fnd hash).1.2.1 = v at *
      generalize (fnd hash).1.2.2.1 = l at *
      generalize (fnd hash).1.2.2.2 = r at *
      have K1 : Hid (∀ w2, Below w.heap.size w w2 → Calls Tryz.prog 149 #[.pointer (some ⟨b, 0, none⟩), .int .i64 0, .pointer (some ⟨xl, 0, none⟩), .pointer (some ⟨xa, 0, none⟩)] w2 fun e w3 => e = .returned (.bool true) ∧ ∃ pl pr gl gr, Ar5 wg B0 base lb sb c gb xl xa lo hi b w (cnt + 1) L1 w3 ∧ RightAt base b w hash over under par k v l r pl pr gr w3 ∧ LeftAt base w over k l pl pr gl w3) := fun w2 hb2 => by
        refine (HB.out w2 hb2).mono ?_
        rintro e w3 ⟨rfl, f3, hL3, hk3⟩
        obtain ⟨⟨pl, pr, gl, gr, h1, h2, h3, h4, h5, h6, h7, h8⟩, hS3⟩ := hk3 rfl
        have hs2 := hb2.size
        have hw2 : base ≤ w2.heap.size := Nat.le_trans hE.hs hs2
        have e3 := (hE.below s hb2).ft s f3 (fun q hq => by rcases hq with e | e | e; exact .inr (.inr (by omega)); exact .inl e; exact .inr (.inl e))
        refine ⟨rfl, pl, pr, gl, gr, ⟨e3, hL3, hS3, (Ft.of_below hb2).trans f3 (fun q _ e => by rcases e with e | e | e; exact .inl ⟨_, rfl, e⟩; exact .inr (.inl e); exact .inr (.inr e))⟩, ⟨h1, h4, h5, fun q hq => ?_⟩, ⟨h2, h3, fun q hq => ?_, fun q q' hq hq' => Nat.ne_of_lt (h8 q q' hq hq')⟩⟩
        · have := h7 q hq; omega
        · have := h6 q hq; omega
      have K3 : Hid (∀ pl pr gl gr w4, Ar5 wg B0 base lb sb c gb xl xa lo hi b w (cnt + 1) L1 w4 → RightAt base b w hash over under par k v l r pl pr gr w4 → LeftAt base w over k l pl pr gl w4 → Calls Tryz.prog 147 #[.pointer pl, into5 gb c, atV xl xa] w4 fun e w5 => e = .returned (.bool (decide (LR.1 = 0))) ∧ (LR.1 = 0 → Ar5 wg B0 base lb sb c gb xl xa lo hi b w LR.2.1 (L1 ++ LX) w5 ∧ RightAt base b w hash over under par k v l r pl pr gr w5) ∧ (LR.1 ≠ 0 → (∃ m, LD lb sb m LR.1 w5) ∧ Ft c (NWk (some ⟨b, 0, none⟩) lb c) w w5)) := fun pl pr gl gr w4 hA hR hF => by
        refine (IL (some ⟨gl, 0, none⟩) pl L1 w4 hA.env hF.lk (.inr ⟨hke, gl, rfl, hF.rk⟩) hA.ld hA.ls (fun q hq => (hF.hp q hq).1) okl (by omega) hc5 (by omega)).mono ?_
        rintro e w5 ⟨rfl, f5, g5, n5⟩
        obtain ⟨bcs, hbt⟩ := hA.ls.ty
        have hN : ∀ q, NWk pl lb c q → q = lb ∨ q = c ∨ base ≤ q := fun q hq => by
          rcases hq with ⟨x, hx, e⟩ | e | e
          · have := (hF.hp x hx).1; exact .inr (.inr (by omega))
          · exact .inl e
          · exact .inr (.inl e)
        have hfr : Ft c (NWk (some ⟨b, 0, none⟩) lb c) w w5 := hA.fr.trans f5 (fun q hq e => by
          rcases e with ⟨x, hx, e⟩ | e | e
          · have := (hF.hp x hx).2; omega
          · exact .inr (.inl e)
          · exact .inr (.inr e))
        have l4 := s.l4
        have l5 := s.l5
        have hnb : ¬ NWk pl lb c b := fun hq => by
          rcases hq with ⟨x, hx, e⟩ | e | e
          · have := (hF.hp x hx).2; have := (Array.getElem?_eq_some_iff.1 hB).1; omega
          · omega
          · omega
        have hnr : ∀ q, pr = some q → ¬ NWk pl lb c q.block := fun q hq hx => by
          have h1 := (hR.hp q hq).1
          rcases hx with ⟨x, hx, e⟩ | e | e
          · exact hF.ne x q hx hq e.symm
          · omega
          · omega
        have hng : ¬ NWk pl lb c gr := fun hx => by
          rcases hx with ⟨x, hx, e⟩ | e | e
          · rcases hF.lk with ⟨_, h⟩ | ⟨_, q, h, hq⟩
            · rw [h] at hx; cases hx
            · rw [h] at hx; cases hx; exact ne_of_type hR.rk hq (by decide) e
          · exact ne_of_type hR.rk hA.ld (by decide) e
          · exact ne_of_type hR.rk hbt (by decide) e
        refine ⟨rfl, fun h0 => ⟨⟨hA.env.ft s f5 hN, (g5 h0).1, (g5 h0).2, hfr⟩, ⟨f5.keep hR.bf hnb (by decide), hR.lk.ft f5 hnr, f5.keep hR.rk hng (by decide), hR.hp⟩⟩, fun h0 => ⟨n5 h0, hfr⟩⟩
      have K4 : Hid (∀ w5 L' m, Ar5 wg B0 base lb sb c gb xl xa lo hi b w m L' w5 → Calls Tryz.prog 149 #[.pointer (some ⟨b, 0, none⟩), .int .i64 1, .pointer (some ⟨xl, 0, none⟩), .pointer (some ⟨xa, 0, none⟩)] w5 fun e w6 => e = .returned (.bool true) ∧ w6 = w5) := fun w5 L' m hA => g1_rest 1 (.inl rfl) b c xl xa w5 hA.env.ax
      have K5 : Hid (∀ pl pr gr w6, LR.1 = 0 → Ar5 wg B0 base lb sb c gb xl xa lo hi b w LR.2.1 (L1 ++ LX) w6 → RightAt base b w hash over under par k v l r pl pr gr w6 → Calls Tryz.prog 147 #[.pointer pr, into5 gb c, atV xl xa] w6 fun e w7 => e = .returned (.bool (decide (RR.1 = 0))) ∧ (RR.1 = 0 → Ar5 wg B0 base lb sb c gb xl xa lo hi b w RR.2.1 (L1 ++ LX ++ RX) w7) ∧ (RR.1 ≠ 0 → (∃ m, LD lb sb m RR.1 w7) ∧ Ft c (NWk (some ⟨b, 0, none⟩) lb c) w w7)) := fun pl pr gr w6 h0 hA hR => by
        have q1 := hcl h0
        have q2 := hll h0
        refine (IR (some ⟨gr, 0, none⟩) pr _ w6 hA.env hR.lk (.inr ⟨hke, gr, rfl, hR.rk⟩) hA.ld hA.ls (fun q hq => (hR.hp q hq).1) okr (by omega) q1.2 (by rw [List.length_append]; omega)).mono ?_
        rintro e w7 ⟨rfl, f7, g7, n7⟩
        have hN : ∀ q, NWk pr lb c q → q = lb ∨ q = c ∨ base ≤ q := fun q hq => by
          rcases hq with ⟨x, hx, e⟩ | e | e
          · have := (hR.hp x hx).1; exact .inr (.inr (by omega))
          · exact .inl e
          · exact .inr (.inl e)
        have hfr : Ft c (NWk (some ⟨b, 0, none⟩) lb c) w w7 := hA.fr.trans f7 (fun q hq e => by
          rcases e with ⟨x, hx, e⟩ | e | e
          · have := (hR.hp x hx).2; omega
          · exact .inr (.inl e)
          · exact .inr (.inr e))
        refine ⟨rfl, fun hz => ⟨hA.env.ft s f7 hN, (g7 hz).1, (g7 hz).2, hfr⟩, fun hz => ⟨n7 hz, hfr⟩⟩
      have K6 : Hid (∀ L' m w7, Ar5 wg B0 base lb sb c gb xl xa lo hi b w m L' w7 → Calls Tryz.prog 149 #[.pointer (some ⟨b, 0, none⟩), .int .i64 2, .pointer (some ⟨xl, 0, none⟩), .pointer (some ⟨xa, 0, none⟩)] w7 fun e w8 => e = .returned (.bool true) ∧ w8 = w7) := fun L' m w7 hA => g1_rest 2 (.inr rfl) b c xl xa w7 hA.env.ax
      have K2 : Hid (∀ pl pr gl gr w3, Ar5 wg B0 base lb sb c gb xl xa lo hi b w (cnt + 1) L1 w3 → RightAt base b w hash over under par k v l r pl pr gr w3 → LeftAt base w over k l pl pr gl w3 → Calls Tryz.prog 230 #[.pointer (some ⟨b, 0, none⟩)] w3 fun e w4 => e = .returned (.tuple #[.pointer pl, .pointer pr]) ∧ Ar5 wg B0 base lb sb c gb xl xa lo hi b w (cnt + 1) L1 w4 ∧ RightAt base b w hash over under par k v l r pl pr gr w4 ∧ LeftAt base w over k l pl pr gl w4) := fun pl pr gl gr w3 hA hR hF => by
        refine (subsB_any b hash over under par k v l r pl pr w3 hR.bf).mono ?_
        rintro e w4 ⟨rfl, hb4⟩
        exact ⟨rfl, hA.below s hb4, hR.below hb4, hF.below hb4⟩
      have hm : ∀ w' : World, (method 427 166 (.pointer (some ⟨b, 0, none⟩)) "loop.example/s03048/impl.subtrees").run Tryz.prog w' = .ok (230, .pointer (some ⟨b, 0, none⟩)) w' := fun _ => by kernel_rfl
      clear IL IR HB hLR hRR hfe hE hP hL hS hB hcl hll okk okv okl okr hC hfit HF HR hfo hl1 hln
      by_cases hl0 : LR.1 = 0
      · rw [if_neg (fun h => h hl0)]
        rw [decide_eq_true hl0] at K3
        have K3' : Hid (∀ pl pr gl gr w4, Ar5 wg B0 base lb sb c gb xl xa lo hi b w (cnt + 1) L1 w4 → RightAt base b w hash over under par k v l r pl pr gr w4 → LeftAt base w over k l pl pr gl w4 → Calls Tryz.prog 147 #[.pointer pl, into5 gb c, atV xl xa] w4 fun e w5 => e = .returned (.bool true) ∧ Ar5 wg B0 base lb sb c gb xl xa lo hi b w LR.2.1 (L1 ++ LX) w5 ∧ RightAt base b w hash over under par k v l r pl pr gr w5) := fun pl pr gl gr w4 h1 h2 h3 => by
          refine (K3.out pl pr gl gr w4 h1 h2 h3).mono ?_
          rintro e w5 ⟨he5, h5, _⟩
          exact ⟨he5, h5 hl0⟩
        by_cases hr0 : RR.1 = 0
        · rw [if_neg (fun h => h hr0)]
          rw [decide_eq_true hr0] at K5
          have HP : Hid (∀ X w8, Ar5 wg B0 base lb sb c gb xl xa lo hi b w RR.2.1 (L1 ++ LX ++ RX) w8 → WP5 lb sb c L (NWk (some ⟨b, 0, none⟩) lb c) w (0, RR.2.1, X) FX (.returned (.bool true)) w8) := fun X w8 hA => ⟨rfl, hA.fr, fun _ => ⟨hA.ld, by rw [hfin]; exact hA.ls⟩, fun h => absurd rfl h⟩
          have K5' : Hid (∀ pl pr gr w6, Ar5 wg B0 base lb sb c gb xl xa lo hi b w LR.2.1 (L1 ++ LX) w6 → RightAt base b w hash over under par k v l r pl pr gr w6 → Calls Tryz.prog 147 #[.pointer pr, into5 gb c, atV xl xa] w6 fun e w7 => e = .returned (.bool true) ∧ Ar5 wg B0 base lb sb c gb xl xa lo hi b w RR.2.1 (L1 ++ LX ++ RX) w7) := fun pl pr gr w6 h1 h2 => by
            refine (K5.out pl pr gr w6 hl0 h1 h2).mono ?_
            rintro e w7 ⟨he7, h7, _⟩
            exact ⟨he7, h7 hr0⟩
          generalize LR.2.2 ++ (if hasW lo hi k = true then [(k, v)] else []) ++ RR.2.2 = PX
          clear K3 K5 hl0 hr0 hfin
          go_enter Tryz.func147, Tryz.ntmps147
          go_wp2_with (first | (go_at_call 108; refine HI.mono ?_; rintro e w2 ⟨rfl, hb2⟩) | (go_at_call_of 149 (Value.int .i64 0); refine (K1.out _ hb2).mono ?_; rintro e w3 ⟨rfl, pl, pr, gl, gr, hA3, hR3, hF3⟩) | (go_at_call 230; refine (K2.out _ _ _ _ _ hA3 hR3 hF3).mono ?_; rintro e w4 ⟨rfl, hA4, hR4, hF4⟩) | (go_at_call_of 147 (Value.pointer pl); refine (K3'.out _ _ _ _ _ hA4 hR4 hF4).mono ?_; rintro e w5 ⟨rfl, hA5, hR5⟩) | (go_at_call_of 149 (Value.int .i64 1); refine (K4.out _ _ _ hA5).mono ?_; rintro e w6 ⟨rfl, rfl⟩) | (go_at_call_of 147 (Value.pointer pr); refine (K5'.out _ _ _ _ hA5 hR5).mono ?_; rintro e w7 ⟨rfl, hA7⟩) | (go_at_call_of 149 (Value.int .i64 2); refine (K6.out _ _ _ hA7).mono ?_; rintro e w8 ⟨rfl, rfl⟩))
          go_ret
          exact HP.out _ _ hA7
        · rw [if_pos hr0]
          rw [decide_eq_false hr0] at K5
          have K5' : Hid (∀ pl pr gr w6, Ar5 wg B0 base lb sb c gb xl xa lo hi b w LR.2.1 (L1 ++ LX) w6 → RightAt base b w hash over under par k v l r pl pr gr w6 → Calls Tryz.prog 147 #[.pointer pr, into5 gb c, atV xl xa] w6 fun e w7 => e = .returned (.bool false) ∧ WP5 lb sb c L (NWk (some ⟨b, 0, none⟩) lb c) w (RR.1, 0, []) FX (.returned (.bool false)) w7) := fun pl pr gr w6 h1 h2 => by
            refine (K5.out pl pr gr w6 hl0 h1 h2).mono ?_
            rintro e w7 ⟨he7, _, h7⟩
            exact ⟨he7, by rw [decide_eq_false hr0], (h7 hr0).2, fun h => absurd h hr0, fun _ => (h7 hr0).1⟩
          clear K3 K5 hl0 hr0 K6 hfin
          go_enter Tryz.func147, Tryz.ntmps147
          go_wp2_with (first | (go_at_call 108; refine HI.mono ?_; rintro e w2 ⟨rfl, hb2⟩) | (go_at_call_of 149 (Value.int .i64 0); refine (K1.out _ hb2).mono ?_; rintro e w3 ⟨rfl, pl, pr, gl, gr, hA3, hR3, hF3⟩) | (go_at_call 230; refine (K2.out _ _ _ _ _ hA3 hR3 hF3).mono ?_; rintro e w4 ⟨rfl, hA4, hR4, hF4⟩) | (go_at_call_of 147 (Value.pointer pl); refine (K3'.out _ _ _ _ _ hA4 hR4 hF4).mono ?_; rintro e w5 ⟨rfl, hA5, hR5⟩) | (go_at_call_of 149 (Value.int .i64 1); refine (K4.out _ _ _ hA5).mono ?_; rintro e w6 ⟨rfl, rfl⟩) | (go_at_call_of 147 (Value.pointer pr); refine (K5'.out _ _ _ _ hA5 hR5).mono ?_; rintro e w7 ⟨rfl, hA7⟩))
          go_ret
          exact hA7
      · rw [if_pos hl0]
        rw [decide_eq_false hl0] at K3
        have K3' : Hid (∀ pl pr gl gr w4, Ar5 wg B0 base lb sb c gb xl xa lo hi b w (cnt + 1) L1 w4 → RightAt base b w hash over under par k v l r pl pr gr w4 → LeftAt base w over k l pl pr gl w4 → Calls Tryz.prog 147 #[.pointer pl, into5 gb c, atV xl xa] w4 fun e w5 => e = .returned (.bool false) ∧ WP5 lb sb c L (NWk (some ⟨b, 0, none⟩) lb c) w (LR.1, 0, []) FX (.returned (.bool false)) w5) := fun pl pr gl gr w4 h1 h2 h3 => by
          refine (K3.out pl pr gl gr w4 h1 h2 h3).mono ?_
          rintro e w5 ⟨he5, _, h5⟩
          exact ⟨he5, by rw [decide_eq_false hl0], (h5 hl0).2, fun h => absurd h hl0, fun _ => (h5 hl0).1⟩
        clear K3 K5 K4 hl0 K6 hfin
        go_enter Tryz.func147, Tryz.ntmps147
        go_wp2_with (first | (go_at_call 108; refine HI.mono ?_; rintro e w2 ⟨rfl, hb2⟩) | (go_at_call_of 149 (Value.int .i64 0); refine (K1.out _ hb2).mono ?_; rintro e w3 ⟨rfl, pl, pr, gl, gr, hA3, hR3, hF3⟩) | (go_at_call 230; refine (K2.out _ _ _ _ _ hA3 hR3 hF3).mono ?_; rintro e w4 ⟨rfl, hA4, hR4, hF4⟩) | (go_at_call_of 147 (Value.pointer pl); refine (K3'.out _ _ _ _ _ hA4 hR4 hF4).mono ?_; rintro e w5 ⟨rfl, hA5⟩))
        go_ret
        exact hA5
    · rw [goF_code hskip hC]
      obtain ⟨C, hCC⟩ : ∃ C, codeF fnd hash over under pk (cnt + 1) = C := ⟨_, rfl⟩
      rw [hCC] at HB hC ⊢
      have HP : Hid (∀ X w0 w', Below w.heap.size w w0 → Ft c (fun q => q = b ∨ q = lb ∨ q = c) w0 w' → LD lb sb (cnt + 1) C w' → WP5 lb sb c L (NWk (some ⟨b, 0, none⟩) lb c) w (C, 0, []) X (.returned (.bool false)) w') := fun X w0 w' hb0 f2 hL2 => ⟨by rw [decide_eq_false hC], (Ft.of_below hb0).trans f2 (fun q _ e => by rcases e with e | e | e; exact .inl ⟨_, rfl, e⟩; exact .inr (.inl e); exact .inr (.inr e)), fun h => absurd h hC, fun _ => ⟨_, hL2⟩⟩
      rw [decide_eq_false hC] at HB
      generalize prL fnd lo hi (f + 1) hash over under = FX
      clear hCC hE hP hL hS hB HF HR
      go_enter Tryz.func147, Tryz.ntmps147
      go_wp2_with (first | (go_at_call 108; refine HI.mono ?_; rintro e w2 ⟨rfl, hb2⟩) | (go_at_call 149; refine (HB.out _ hb2).mono ?_; rintro e w3 ⟨rfl, f3, hL3, _⟩))
      go_ret
      exact HP.out _ _ _ hb2 f3 hL3
end Go.Proofs.YtibjhkpgaaapaaaGreatDoor
