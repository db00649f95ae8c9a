import Derived.Test.YtfmpjlpakldheaaGreatDoorZraq
import Derived.Test.YtfmpjlpakldheaaGreatDoorZram
set_option maxRecDepth 100000
set_option maxHeartbeats 2000000
namespace Go.Proofs.YtfmpjlpakldheaaGreatDoor
open Go.RowKit Go.Proofs.Sha Tryz
theorem codeF_zero {fnd : ByteArray -> FN} {hash over under pk : ByteArray} {cnt : Nat} (h : codeF fnd hash over under pk cnt = 0) : (fnd hash).2 = 0 /\ (insW over under (fnd hash).1.1 && parW hgW pk (fnd hash).1.1) = true /\ cnt <= 500 := by
 unfold codeF at h
 split at h
 · exact absurd h (by decide)
 · split at h
   · exact absurd h (by decide)
   · rename_i h2
     split at h
     · exact absurd h (by decide)
     · rename_i h3
       split at h
       · exact absurd h (by decide)
       · rename_i h4
         exact ⟨by simpa using h2, by simpa using h3, by omega⟩
theorem goF_code {fnd : ByteArray -> FN} {lo hi : ByteArray} {f : Nat} {hash over under pk : ByteArray} {cnt : Nat} (h : (emp hash || !canW over under lo hi) = false) (hc : codeF fnd hash over under pk (cnt + 1) ≠ 0) : goF fnd hgW lo hi (f + 1) hash over under pk cnt = (codeF fnd hash over under pk (cnt + 1), 0, []) := by
 rw [goF, if_neg (by rw [h]; decide)]
 unfold codeF at hc ⊢
 split
 · rfl
 · rename_i h1
   rw [if_neg h1] at hc
   split
   · rfl
   · rename_i h2
     rw [if_neg h2] at hc
     split
     · rfl
     · rename_i h3
       rw [if_neg h3] at hc
       split
       · rfl
       · rename_i h4
         rw [if_neg h4] at hc
         exact absurd rfl hc
def WPost (base lb sb c : Nat) (ps : List PairT) (N : Nat -> Prop) (w : World) (R : Int × Nat × List PairT) (e : Ending) (w' : World) : Prop :=
 e = .returned (.bool (decide (R.1 = 0))) /\ Fr base N w w' /\ (R.1 = 0 -> LD lb sb R.2.1 0 w' /\ ∃ a' cap', LS c base (ps ++ R.2.2) a' cap' w') /\ (R.1 ≠ 0 -> ∃ m, LD lb sb m R.1 w')
abbrev intoV (lo hi : ByteArray) : Value := .func (.func 119) #[.agg #[.string lo, .string hi]] #[]
abbrev atV (xl xa : Nat) : Value := .func (.func 152) #[] #[.pointer (some ⟨xl, 0, none⟩), .pointer (some ⟨xa, 0, none⟩)]
def NWk (p : Option Addr) (lb c q : Nat) : Prop := (∃ a, p = some a /\ q = a.block) \/ q = lb \/ q = c
theorem walk_none (base lb sb c xl xa : Nat) (lo hi over under pk : ByteArray) (f : Nat) (fnd : ByteArray -> FN) (cnt : Nat) (ps : List PairT) (a : Option Addr) (cap : Nat) (hash : ByteArray) (he : emp hash = true) (w : World) (hL : LD lb sb cnt 0 w) (hS : LS c base ps a cap w) :
 Calls prog 150 #[.pointer none, intoV lo hi, atV xl xa] w (WPost base lb sb c ps (NWk none lb c) w (goF fnd hgW lo hi (f + 1) hash over under pk cnt)) := by
 rw [goF_skip (by rw [he]; rfl)]
 have HI := goInto_none lo hi w
 have HP : Hid (∀ w', Below w.heap.size w w' -> WPost base lb sb c ps (NWk none lb c) w (0, cnt, []) (.returned (.bool true)) w') := fun w' hb => ⟨rfl, Fr.of_below hb, fun _ => ⟨hL.below hb, a, cap, by rw [List.append_nil]; exact hS.below hb⟩, fun h => absurd rfl h⟩
 clear hL hS
 go_enter func150, ntmps150
 go_wp2_with (first | (go_at_call 119; refine HI.mono ?_; rintro e w2 ⟨rfl, hb2⟩))
 go_ret
 exact HP.out _ hb2
theorem walk_cut (base lb sb c xl xa b : Nat) (lo hi over under pk : ByteArray) (par : Option Addr) (f : Nat) (fnd : ByteArray -> FN) (cnt : Nat) (ps : List PairT) (a : Option Addr) (cap : Nat) (hash : ByteArray) (hc : canW over under lo hi = false) (w : World) (hB : BR b hash over under par w) (hL : LD lb sb cnt 0 w) (hS : LS c base ps a cap w) :
 Calls prog 150 #[.pointer (some ⟨b, 0, none⟩), intoV lo hi, atV xl xa] w (WPost base lb sb c ps (NWk (some ⟨b, 0, none⟩) lb c) w (goF fnd hgW lo hi (f + 1) hash over under pk cnt)) := by
 rw [goF_skip (by rw [hc]; simp)]
 have HI := goInto_some lo hi b hash over under par w hB
 rw [hc] at HI
 have HP : Hid (∀ w', Below w.heap.size w w' -> WPost base lb sb c ps (NWk (some ⟨b, 0, none⟩) lb c) w (0, cnt, []) (.returned (.bool true)) w') := fun w' hb => ⟨rfl, Fr.of_below hb, fun _ => ⟨hL.below hb, a, cap, by rw [List.append_nil]; exact hS.below hb⟩, fun h => absurd rfl h⟩
 clear hL hS hB hc
 go_enter func150, ntmps150
 go_wp2_with (first | (go_at_call 119; refine HI.mono ?_; rintro e w2 ⟨rfl, hb2⟩))
 go_ret
 exact HP.out _ hb2
structure Around (wg : World) (B0 base lb sb c gb xl xa : Nat) (lo hi : ByteArray) (b : Nat) (w0 : World) (cnt : Nat) (ps : List PairT) (w : World) : Prop where
 env : Env wg B0 base lb c gb xl xa lo hi w
 ld : LD lb sb cnt 0 w
 ls : ∃ a cap, LS c base ps a cap w
 fr : Fr base (NWk (some ⟨b, 0, none⟩) lb c) w0 w
structure RightAt (base b : Nat) (w0 : World) (hash over under : ByteArray) (par : Option Addr) (k v l r : ByteArray) (pl pr : Option Addr) (gr : Nat) (w : World) : Prop where
 bf : BF b hash over under par k v l r pl pr w
 lk : LinkAt r k under (some ⟨gr, 0, none⟩) pr w
 rk : RKb gr k w
 hp : ∀ q, pr = some q -> base <= q.block /\ w0.heap.size <= q.block
structure LeftAt (base : Nat) (w0 : World) (over k l : ByteArray) (pl pr : Option Addr) (gl : Nat) (w : World) : Prop where
 lk : LinkAt l over k (some ⟨gl, 0, none⟩) pl w
 rk : RKb gl k w
 hp : ∀ q, pl = some q -> base <= q.block /\ w0.heap.size <= q.block
 ne : ∀ q q', pl = some q -> pr = some q' -> q.block ≠ q'.block
section
variable {wg : World} {B0 base lb sb c gb xl xa : Nat} {lo hi : ByteArray} {b : Nat} {w0 w w' : World} {cnt : Nat} {ps : List PairT} {hash over under : ByteArray} {par : Option Addr} {k v l r : ByteArray} {pl pr : Option Addr} {gl gr : Nat}
theorem Around.below (h : Around wg B0 base lb sb c gb xl xa lo hi b w0 cnt ps w) (s : Stc B0 base lb c gb xl xa) (hb : Below w.heap.size w w') : Around wg B0 base lb sb c gb xl xa lo hi b w0 cnt ps w' := by
 obtain ⟨a, cap, h1⟩ := h.ls
 exact ⟨h.env.below s hb, h.ld.below hb, ⟨a, cap, h1.below hb⟩, h.fr.trans (Fr.of_below (N := fun _ => False) hb) (fun _ _ x => x.elim)⟩
theorem RightAt.below (h : RightAt base b w0 hash over under par k v l r pl pr gr w) (hb : Below w.heap.size w w') : RightAt base b w0 hash over under par k v l r pl pr gr w' :=
 ⟨(hb.block b (Array.getElem?_eq_some_iff.1 h.bf).1).trans h.bf, h.lk.below hb, h.rk.below hb, h.hp⟩
theorem LeftAt.below (h : LeftAt base w0 over k l pl pr gl w) (hb : Below w.heap.size w w') : LeftAt base w0 over k l pl pr gl w' := ⟨h.lk.below hb, h.rk.below hb, h.hp, h.ne⟩
end
theorem LS.fr {c base : Nat} {ps : List PairT} {a : Option Addr} {cap : Nat} {N : Nat -> Prop} {w w' : World} (h : LS c base ps a cap w) (f : Fr w.heap.size N w w') (hN : ∀ q, N q -> ∃ cs t, w.heap[q]? = some (.cells cs t) /\ t ≠ 23 /\ t ≠ 34) : LS c base ps a cap w' := by
 refine ⟨f.keep h.blk (fun x => ?_) (.inl (by decide)), own2_kept h.own (fun g hv hg => f.block g hg (fun x => ?_) (fun x => by omega)), Nat.le_trans h.hb f.size⟩
 · obtain ⟨cs, t, h1, h2, h3⟩ := hN _ x
   exact ne_of_type h.blk h1 (fun e => h2 e.symm) rfl
 · obtain ⟨cs, t, h1, h2, h3⟩ := hN _ x
   obtain ⟨_, _, cur, h4⟩ := own2_cells h.own hv
   exact ne_of_type h4 h1 (fun e => h3 e.symm) rfl
theorem walk_any (fnd : ByteArray -> FN) (wd : Nat) (hfo : FndOk wd fnd) (wg : World) (B0 base lb sb c gb xl xa : Nat) (lo hi : ByteArray) (s : Stc B0 base lb c gb xl xa)
 (HF : Hid (∀ (hash : ByteArray) w', hash.size = wd -> Below B0 wg w' -> Calls prog 176 #[.pointer (some ⟨sb, 0, none⟩), .string hash] w' fun e w'' => e = .returned (nodeT (fnd hash)) /\ Below w'.heap.size w' w''))
 (HR : Hid (∀ (k : ByteArray) w', okKey k = true -> Below B0 wg w' -> Calls prog 158 #[Value.string k] w' fun e w'' => e = .returned (.agg (rkL k).toArray) /\ Below w'.heap.size w' w'')) :
 ∀ (f : Nat) (hash over under pk : ByteArray) (par p : Option Addr) (cnt : Nat) (ps : List PairT) (a : Option Addr) (cap : Nat) (w : World), Env wg B0 base lb c gb xl xa lo hi w -> LinkAt hash over under par p w -> ParAt par pk w -> LD lb sb cnt 0 w -> LS c base ps a cap w -> (∀ q, p = some q -> base <= q.block) -> (hash.size = 0 \/ hash.size = wd) -> 500 < cnt + f -> cnt <= 500 -> ps.length <= cnt →
 Calls prog 150 #[.pointer p, intoV lo hi, atV xl xa] w (WPost base lb sb c ps (NWk p lb c) w (goF fnd hgW lo hi f hash over under pk cnt))
 | 0, _, _, _, _, _, _, _, _, _, _, _, _, _, _, _, _, _, _, h1, h2, _ => by omega
 | f + 1, hash, over, under, pk, par, p, cnt, ps, a, cap, w, hE, hK, hP, hL, hS, hpb, hsz, h500, hcn, hln => by
  rcases hK with ⟨he, rfl⟩ | ⟨he, b, rfl, hB⟩
  · exact walk_none base lb sb c xl xa lo hi over under pk f fnd cnt ps a cap hash he w hL hS
  cases hcan : canW over under lo hi with
  | false => exact walk_cut base lb sb c xl xa b lo hi over under pk par f fnd cnt ps a cap hash hcan w hB hL hS
  | true =>
  have hskip : (emp hash || !canW over under lo hi) = false := by rw [he, hcan]; rfl
  have hwd : hash.size = wd := by
   rcases hsz with h | h
   · have h9 : emp hash = true := by unfold emp; simp [h]
     rw [he] at h9; cases h9
   · exact h
  have hbb : base <= b := hpb _ rfl
  have HI := goInto_some lo hi b hash over under par w hB
  rw [hcan] at HI
  have HB : Hid (∀ w0, Below w.heap.size w w0 -> Calls prog 152 #[.pointer (some ⟨b, 0, none⟩), .int .i64 0, .pointer (some ⟨xl, 0, none⟩), .pointer (some ⟨xa, 0, none⟩)] w0 fun e w' => e = .returned (.bool (decide (codeF fnd hash over under pk (cnt + 1) = 0))) /\ Fr w0.heap.size (fun q => q = b \/ q = lb) w0 w' /\ LD lb sb (cnt + 1) (codeF fnd hash over under pk (cnt + 1)) w' /\ (codeF fnd hash over under pk (cnt + 1) = 0 -> Kids b hash over under par (fnd hash).1.1 (fnd hash).1.2.1 (fnd hash).1.2.2.1 (fnd hash).1.2.2.2 w0 w')) := fun w0 hb0 =>
   c47_before fnd wg B0 base lb sb c gb xl xa b hash over under pk par lo hi cnt w0 s (hE.below s hb0) (hfo.code hash) (hL.below hb0) ((hb0.block b (Array.getElem?_eq_some_iff.1 hB).1).trans hB) (hP.fr (Fr.of_below (base := 0) (N := fun _ => False) hb0) (fun _ _ h => h)) hcn hbb (fun w' h' => HF.out hash w' hwd h') (fun w' h' hz => HR.out _ w' (hfo.node hash hz).1 h')
  by_cases hC : codeF fnd hash over under pk (cnt + 1) = 0
  · obtain ⟨hz, hfit, hc5⟩ := codeF_zero hC
    obtain ⟨okk, okv, okl, okr⟩ := hfo.node hash hz
    have hke : emp (fnd hash).1.1 = false := by
     have h9 : 1 <= (fnd hash).1.1.size := by
      unfold okKey at okk
      simp at okk
      omega
     unfold emp
     exact decide_eq_false (by omega)
    have hfe : fnd hash = (((fnd hash).1.1, (fnd hash).1.2.1, (fnd hash).1.2.2.1, (fnd hash).1.2.2.2), 0) := by rw [<- hz]
    obtain ⟨LR, hLR⟩ : ∃ LR, goF fnd hgW lo hi f (fnd hash).1.2.2.1 over (fnd hash).1.1 (fnd hash).1.1 (cnt + 1) = LR := ⟨_, rfl⟩
    obtain ⟨RR, hRR⟩ : ∃ RR, goF fnd hgW lo hi f (fnd hash).1.2.2.2 (fnd hash).1.1 under (fnd hash).1.1 LR.2.1 = RR := ⟨_, rfl⟩
    rw [goF_node hskip hfe hfit hc5 hLR hRR]
    have IL := fun par' p' ps' a' cap' w' => walk_any fnd wd hfo wg B0 base lb sb c gb xl xa lo hi s HF HR f (fnd hash).1.2.2.1 over (fnd hash).1.1 (fnd hash).1.1 par' p' (cnt + 1) ps' a' cap' w'
    have IR := fun par' p' ps' a' cap' w' => walk_any fnd wd hfo wg B0 base lb sb c gb xl xa lo hi s HF HR f (fnd hash).1.2.2.2 (fnd hash).1.1 under (fnd hash).1.1 par' p' LR.2.1 ps' a' cap' w'
    have hcl : LR.1 = 0 -> cnt + 1 <= LR.2.1 /\ LR.2.1 <= 500 := fun h => by rw [<- hLR] at h ⊢; exact goF_cnt f _ _ _ _ _ hc5 h
    have hll : LR.1 = 0 -> cnt + 1 + LR.2.2.length <= LR.2.1 := fun h => by rw [<- hLR] at h ⊢; exact goF_len f _ _ _ _ _ h
    rw [hLR] at IL
    rw [hRR] at IR
    rw [hC] at HB
    rw [decide_eq_true rfl] at HB
    generalize (fnd hash).1.1 = k at *
    generalize (fnd hash).1.2.1 = v at *
    generalize (fnd hash).1.2.2.1 = l at *
    generalize (fnd hash).1.2.2.2 = r at *
    have K1 : Hid (∀ w2, Below w.heap.size w w2 -> Calls prog 152 #[.pointer (some ⟨b, 0, none⟩), .int .i64 0, .pointer (some ⟨xl, 0, none⟩), .pointer (some ⟨xa, 0, none⟩)] w2 fun e w3 => e = .returned (.bool true) /\ ∃ pl pr gl gr, Around wg B0 base lb sb c gb xl xa lo hi b w (cnt + 1) ps w3 /\ RightAt base b w hash over under par k v l r pl pr gr w3 /\ LeftAt base w over k l pl pr gl w3) := fun w2 hb2 => by
     refine (HB.out w2 hb2).mono ?_
     rintro e w3 ⟨rfl, f3, hL3, hk3⟩
     obtain ⟨pl, pr, gl, gr, h1, h2, h3, h4, h5, h6, h7, h8⟩ := hk3 rfl
     have hs2 := hb2.size
     have hB2 : BR b hash over under par w2 := (hb2.block b (Array.getElem?_eq_some_iff.1 hB).1).trans hB
     have hL2 := hL.below hb2
     have hw2 : base <= w2.heap.size := Nat.le_trans hE.hs hs2
     have e3 := (hE.below s hb2).fr s (f3.base hw2) (fun q hq => by rcases hq with e | e; exact .inr (.inr (by omega)); exact .inl e)
     have s3 := (hS.below hb2).fr f3 (fun q hq => by rcases hq with e | e; exact ⟨_, _, by rw [e]; exact hB2, by decide, by decide⟩; exact ⟨_, _, by rw [e]; exact hL2, by decide, by decide⟩)
     refine ⟨rfl, pl, pr, gl, gr, ⟨e3, hL3, ⟨a, cap, s3⟩, (Fr.of_below hb2).trans (f3.base hw2) (fun q _ e => by rcases e with e | e; exact .inl ⟨_, rfl, e⟩; exact .inr (.inl e))⟩, ⟨h1, h4, h5, fun q hq => ?_⟩, ⟨h2, h3, fun q hq => ?_, fun q q' hq hq' => Nat.ne_of_lt (h8 q q' hq hq')⟩⟩
     · have := h7 q hq; omega
     · have := h6 q hq; omega
    have K3 : Hid (∀ pl pr gl gr w4, Around wg B0 base lb sb c gb xl xa lo hi b w (cnt + 1) ps w4 -> RightAt base b w hash over under par k v l r pl pr gr w4 -> LeftAt base w over k l pl pr gl w4 -> Calls prog 150 #[.pointer pl, intoV lo hi, atV xl xa] w4 fun e w5 => e = .returned (.bool (decide (LR.1 = 0))) /\ (LR.1 = 0 -> Around wg B0 base lb sb c gb xl xa lo hi b w LR.2.1 (ps ++ LR.2.2) w5 /\ RightAt base b w hash over under par k v l r pl pr gr w5) /\ (LR.1 ≠ 0 -> (∃ m, LD lb sb m LR.1 w5) /\ Fr base (NWk (some ⟨b, 0, none⟩) lb c) w w5)) := fun pl pr gl gr w4 hA hR hF => by
     obtain ⟨a4, cap4, hS4⟩ := hA.ls
     refine (IL (some ⟨gl, 0, none⟩) pl ps a4 cap4 w4 hA.env hF.lk (.inr ⟨hke, gl, rfl, hF.rk⟩) hA.ld hS4 (fun q hq => (hF.hp q hq).1) okl (by omega) hc5 (by omega)).mono ?_
     rintro e w5 ⟨rfl, f5, g5, n5⟩
     have hN : ∀ q, NWk pl lb c q -> q = lb \/ q = c \/ base <= q := fun q hq => by
      rcases hq with ⟨x, hx, e⟩ | e | e
      · have := (hF.hp x hx).1; exact .inr (.inr (by omega))
      · exact .inl e
      · exact .inr (.inl e)
     have hfr : Fr base (NWk (some ⟨b, 0, none⟩) lb c) w w5 := hA.fr.trans f5 (fun q hq e => by
      rcases e with ⟨x, hx, e⟩ | e | e
      · have := (hF.hp x hx).2; omega
      · exact .inr (.inl e)
      · exact .inr (.inr e))
     have l4 := s.l4
     have l5 := s.l5
     have hnb : ¬ NWk pl lb c b := fun hq => by
      rcases hq with ⟨x, hx, e⟩ | e | e
      · have := (hF.hp x hx).2; have := (Array.getElem?_eq_some_iff.1 hB).1; omega
      · omega
      · omega
     have hnr : ∀ q, pr = some q -> ¬ NWk pl lb c q.block := fun q hq hx => by
      have h1 := (hR.hp q hq).1
      rcases hx with ⟨x, hx, e⟩ | e | e
      · exact hF.ne x q hx hq e.symm
      · omega
      · omega
     have hng : ¬ NWk pl lb c gr := fun hx => by
      rcases hx with ⟨x, hx, e⟩ | e | e
      · rcases hF.lk with ⟨_, h⟩ | ⟨_, q, h, hq⟩
        · rw [h] at hx; cases hx
        · rw [h] at hx; cases hx; exact ne_of_type hR.rk hq (by decide) e
      · exact ne_of_type hR.rk hA.ld (by decide) e
      · exact ne_of_type hR.rk hS4.blk (by decide) e
     refine ⟨rfl, fun h0 => ⟨⟨hA.env.fr s f5 hN, (g5 h0).1, (g5 h0).2, hfr⟩, ⟨f5.keep hR.bf hnb (.inl (by decide)), hR.lk.fr f5 hnr, f5.keep hR.rk hng (.inl (by decide)), hR.hp⟩⟩, fun h0 => ⟨n5 h0, hfr⟩⟩
    have K4 : Hid (∀ pl pr gr w5, LR.1 = 0 -> Around wg B0 base lb sb c gb xl xa lo hi b w LR.2.1 (ps ++ LR.2.2) w5 -> RightAt base b w hash over under par k v l r pl pr gr w5 -> Calls prog 152 #[.pointer (some ⟨b, 0, none⟩), .int .i64 1, .pointer (some ⟨xl, 0, none⟩), .pointer (some ⟨xa, 0, none⟩)] w5 fun e w6 => e = .returned (.bool true) /\ Around wg B0 base lb sb c gb xl xa lo hi b w LR.2.1 (ps ++ LR.2.2 ++ (if hasW lo hi k = true then [(k, v)] else [])) w6 /\ RightAt base b w hash over under par k v l r pl pr gr w6) := fun pl pr gr w5 h0 hA hR => by
     obtain ⟨a5, cap5, hS5⟩ := hA.ls
     have q1 := hcl h0
     have q2 := hll h0
     refine (c47_between b lb c gb xl xa base hash over under par k v l r pl pr lo hi (ps ++ LR.2.2) a5 cap5 w5 hA.env.ax hA.env.gx hR.bf hS5 (by rw [List.length_append]; omega)).mono ?_
     rintro e w6 ⟨rfl, hS6, f6⟩
     have l4 := s.l4
     refine ⟨rfl, ⟨hA.env.fr s f6 (fun q hq => .inr (.inl hq)), f6.keep hA.ld s.n7 (.inl (by decide)), hS6, hA.fr.trans f6 (fun q _ e => .inr (.inr e))⟩, ⟨f6.keep hR.bf (by omega) (.inl (by decide)), hR.lk.fr f6 (fun q hq e => by have := (hR.hp q hq).1; omega), f6.keep hR.rk (ne_of_type hR.rk hS5.blk (by decide)) (.inl (by decide)), hR.hp⟩⟩
    obtain ⟨X, hX⟩ : ∃ X, (if hasW lo hi k = true then [(k, v)] else []) = X := ⟨_, rfl⟩
    have hXl : X.length <= 1 := by rw [<- hX]; split <;> simp
    rw [hX] at K4 ⊢
    have K5 : Hid (∀ pl pr gr w6, LR.1 = 0 -> Around wg B0 base lb sb c gb xl xa lo hi b w LR.2.1 (ps ++ LR.2.2 ++ X) w6 -> RightAt base b w hash over under par k v l r pl pr gr w6 -> Calls prog 150 #[.pointer pr, intoV lo hi, atV xl xa] w6 fun e w7 => e = .returned (.bool (decide (RR.1 = 0))) /\ (RR.1 = 0 -> Around wg B0 base lb sb c gb xl xa lo hi b w RR.2.1 (ps ++ (LR.2.2 ++ X ++ RR.2.2)) w7) /\ (RR.1 ≠ 0 -> (∃ m, LD lb sb m RR.1 w7) /\ Fr base (NWk (some ⟨b, 0, none⟩) lb c) w w7)) := fun pl pr gr w6 h0 hA hR => by
     obtain ⟨a6, cap6, hS6⟩ := hA.ls
     have q1 := hcl h0
     have q2 := hll h0
     refine (IR (some ⟨gr, 0, none⟩) pr _ a6 cap6 w6 hA.env hR.lk (.inr ⟨hke, gr, rfl, hR.rk⟩) hA.ld hS6 (fun q hq => (hR.hp q hq).1) okr (by omega) q1.2 (by rw [List.length_append, List.length_append]; omega)).mono ?_
     rintro e w7 ⟨rfl, f7, g7, n7⟩
     have hN : ∀ q, NWk pr lb c q -> q = lb \/ q = c \/ base <= q := fun q hq => by
      rcases hq with ⟨x, hx, e⟩ | e | e
      · have := (hR.hp x hx).1; exact .inr (.inr (by omega))
      · exact .inl e
      · exact .inr (.inl e)
     have hfr : Fr base (NWk (some ⟨b, 0, none⟩) lb c) w w7 := hA.fr.trans f7 (fun q hq e => by
      rcases e with ⟨x, hx, e⟩ | e | e
      · have := (hR.hp x hx).2; omega
      · exact .inr (.inl e)
      · exact .inr (.inr e))
     have e1 : ps ++ (LR.2.2 ++ X ++ RR.2.2) = ps ++ LR.2.2 ++ X ++ RR.2.2 := by simp
     refine ⟨rfl, fun hz => ⟨hA.env.fr s f7 hN, (g7 hz).1, by rw [e1]; exact (g7 hz).2, hfr⟩, fun hz => ⟨n7 hz, hfr⟩⟩
    have K6 : Hid (∀ ps' m w7, Around wg B0 base lb sb c gb xl xa lo hi b w m ps' w7 -> Calls prog 152 #[.pointer (some ⟨b, 0, none⟩), .int .i64 2, .pointer (some ⟨xl, 0, none⟩), .pointer (some ⟨xa, 0, none⟩)] w7 fun e w8 => e = .returned (.bool true) /\ Around wg B0 base lb sb c gb xl xa lo hi b w m ps' w8) := fun ps' m w7 hA => by
     refine (c47_behind b lb c gb xl xa lo hi w7 hA.env.ax hA.env.gx).mono ?_
     rintro e w8 ⟨rfl, hb8⟩
     exact ⟨rfl, hA.below s hb8⟩
    have K2 : Hid (∀ pl pr gl gr w3, Around wg B0 base lb sb c gb xl xa lo hi b w (cnt + 1) ps w3 -> RightAt base b w hash over under par k v l r pl pr gr w3 -> LeftAt base w over k l pl pr gl w3 -> Calls prog 206 #[.pointer (some ⟨b, 0, none⟩)] w3 fun e w4 => e = .returned (.tuple #[.pointer pl, .pointer pr]) /\ Around wg B0 base lb sb c gb xl xa lo hi b w (cnt + 1) ps w4 /\ RightAt base b w hash over under par k v l r pl pr gr w4 /\ LeftAt base w over k l pl pr gl w4) := fun pl pr gl gr w3 hA hR hF => by
     refine (subsB_any b hash over under par k v l r pl pr w3 hR.bf).mono ?_
     rintro e w4 ⟨rfl, hb4⟩
     exact ⟨rfl, hA.below s hb4, hR.below hb4, hF.below hb4⟩
    have hm : ∀ w' : World, (method 388 161 (.pointer (some ⟨b, 0, none⟩)) "loop.example/s03048/impl.subtrees").run prog w' = .ok (206, .pointer (some ⟨b, 0, none⟩)) w' := fun _ => by kernel_rfl
    clear IL IR HB hLR hRR hfe hE hP hL hS hB hX hcl hll hXl okk okv okl okr hC hfit HF HR hfo
    by_cases hl0 : LR.1 = 0
    · rw [if_neg (fun h => h hl0)]
      rw [decide_eq_true hl0] at K3
      by_cases hr0 : RR.1 = 0
      · rw [if_neg (fun h => h hr0)]
        rw [decide_eq_true hr0] at K5
        have HP : Hid (∀ w8, Around wg B0 base lb sb c gb xl xa lo hi b w RR.2.1 (ps ++ (LR.2.2 ++ X ++ RR.2.2)) w8 -> WPost base lb sb c ps (NWk (some ⟨b, 0, none⟩) lb c) w (0, RR.2.1, LR.2.2 ++ X ++ RR.2.2) (.returned (.bool true)) w8) := fun w8 hA => ⟨rfl, hA.fr, fun _ => ⟨hA.ld, hA.ls⟩, fun h => absurd rfl h⟩
        have K3' : Hid (∀ pl pr gl gr w4, Around wg B0 base lb sb c gb xl xa lo hi b w (cnt + 1) ps w4 -> RightAt base b w hash over under par k v l r pl pr gr w4 -> LeftAt base w over k l pl pr gl w4 -> Calls prog 150 #[.pointer pl, intoV lo hi, atV xl xa] w4 fun e w5 => e = .returned (.bool true) /\ Around wg B0 base lb sb c gb xl xa lo hi b w LR.2.1 (ps ++ LR.2.2) w5 /\ RightAt base b w hash over under par k v l r pl pr gr w5) := fun pl pr gl gr w4 h1 h2 h3 => by
         refine (K3.out pl pr gl gr w4 h1 h2 h3).mono ?_
         rintro e w5 ⟨he5, h5, _⟩
         exact ⟨he5, h5 hl0⟩
        have K5' : Hid (∀ pl pr gr w6, Around wg B0 base lb sb c gb xl xa lo hi b w LR.2.1 (ps ++ LR.2.2 ++ X) w6 -> RightAt base b w hash over under par k v l r pl pr gr w6 -> Calls prog 150 #[.pointer pr, intoV lo hi, atV xl xa] w6 fun e w7 => e = .returned (.bool true) /\ Around wg B0 base lb sb c gb xl xa lo hi b w RR.2.1 (ps ++ (LR.2.2 ++ X ++ RR.2.2)) w7) := fun pl pr gr w6 h1 h2 => by
         refine (K5.out pl pr gr w6 hl0 h1 h2).mono ?_
         rintro e w7 ⟨he7, h7, _⟩
         exact ⟨he7, h7 hr0⟩
        have K4' : Hid (∀ pl pr gr w5, Around wg B0 base lb sb c gb xl xa lo hi b w LR.2.1 (ps ++ LR.2.2) w5 -> RightAt base b w hash over under par k v l r pl pr gr w5 -> Calls prog 152 #[.pointer (some ⟨b, 0, none⟩), .int .i64 1, .pointer (some ⟨xl, 0, none⟩), .pointer (some ⟨xa, 0, none⟩)] w5 fun e w6 => e = .returned (.bool true) /\ Around wg B0 base lb sb c gb xl xa lo hi b w LR.2.1 (ps ++ LR.2.2 ++ X) w6 /\ RightAt base b w hash over under par k v l r pl pr gr w6) := fun pl pr gr w5 => K4.out pl pr gr w5 hl0
        clear K3 K5 K4 hl0 hr0
        go_enter func150, ntmps150
        go_wp2_with (first | (go_at_call 119; refine HI.mono ?_; rintro e w2 ⟨rfl, hb2⟩) | (go_at_call_of 152 (Value.int .i64 0); refine (K1.out _ hb2).mono ?_; rintro e w3 ⟨rfl, pl, pr, gl, gr, hA3, hR3, hF3⟩) | (go_at_call 206; refine (K2.out _ _ _ _ _ hA3 hR3 hF3).mono ?_; rintro e w4 ⟨rfl, hA4, hR4, hF4⟩) | (go_at_call_of 150 (Value.pointer pl); refine (K3'.out _ _ _ _ _ hA4 hR4 hF4).mono ?_; rintro e w5 ⟨rfl, hA5, hR5⟩) | (go_at_call_of 152 (Value.int .i64 1); refine (K4'.out _ _ _ _ hA5 hR5).mono ?_; rintro e w6 ⟨rfl, hA6, hR6⟩) | (go_at_call_of 150 (Value.pointer pr); refine (K5'.out _ _ _ _ hA6 hR6).mono ?_; rintro e w7 ⟨rfl, hA7⟩) | (go_at_call_of 152 (Value.int .i64 2); refine (K6.out _ _ _ hA7).mono ?_; rintro e w8 ⟨rfl, hA8⟩))
        go_ret
        exact HP.out _ hA8
      · rw [if_pos hr0]
        rw [decide_eq_false hr0] at K5
        have HP : Hid (∀ w7, ((∃ m, LD lb sb m RR.1 w7) /\ Fr base (NWk (some ⟨b, 0, none⟩) lb c) w w7) -> WPost base lb sb c ps (NWk (some ⟨b, 0, none⟩) lb c) w (RR.1, 0, []) (.returned (.bool false)) w7) := fun w7 hA => ⟨by rw [decide_eq_false hr0], hA.2, fun h => absurd h hr0, fun _ => hA.1⟩
        have K3' : Hid (∀ pl pr gl gr w4, Around wg B0 base lb sb c gb xl xa lo hi b w (cnt + 1) ps w4 -> RightAt base b w hash over under par k v l r pl pr gr w4 -> LeftAt base w over k l pl pr gl w4 -> Calls prog 150 #[.pointer pl, intoV lo hi, atV xl xa] w4 fun e w5 => e = .returned (.bool true) /\ Around wg B0 base lb sb c gb xl xa lo hi b w LR.2.1 (ps ++ LR.2.2) w5 /\ RightAt base b w hash over under par k v l r pl pr gr w5) := fun pl pr gl gr w4 h1 h2 h3 => by
         refine (K3.out pl pr gl gr w4 h1 h2 h3).mono ?_
         rintro e w5 ⟨he5, h5, _⟩
         exact ⟨he5, h5 hl0⟩
        have K5' : Hid (∀ pl pr gr w6, Around wg B0 base lb sb c gb xl xa lo hi b w LR.2.1 (ps ++ LR.2.2 ++ X) w6 -> RightAt base b w hash over under par k v l r pl pr gr w6 -> Calls prog 150 #[.pointer pr, intoV lo hi, atV xl xa] w6 fun e w7 => e = .returned (.bool false) /\ WPost base lb sb c ps (NWk (some ⟨b, 0, none⟩) lb c) w (RR.1, 0, []) (.returned (.bool false)) w7) := fun pl pr gr w6 h1 h2 => by
         refine (K5.out pl pr gr w6 hl0 h1 h2).mono ?_
         rintro e w7 ⟨he7, _, h7⟩
         exact ⟨he7, HP.out _ (h7 hr0)⟩
        have K4' : Hid (∀ pl pr gr w5, Around wg B0 base lb sb c gb xl xa lo hi b w LR.2.1 (ps ++ LR.2.2) w5 -> RightAt base b w hash over under par k v l r pl pr gr w5 -> Calls prog 152 #[.pointer (some ⟨b, 0, none⟩), .int .i64 1, .pointer (some ⟨xl, 0, none⟩), .pointer (some ⟨xa, 0, none⟩)] w5 fun e w6 => e = .returned (.bool true) /\ Around wg B0 base lb sb c gb xl xa lo hi b w LR.2.1 (ps ++ LR.2.2 ++ X) w6 /\ RightAt base b w hash over under par k v l r pl pr gr w6) := fun pl pr gr w5 => K4.out pl pr gr w5 hl0
        clear K3 K5 K4 hl0 hr0 K6 HP
        go_enter func150, ntmps150
        go_wp2_with (first | (go_at_call 119; refine HI.mono ?_; rintro e w2 ⟨rfl, hb2⟩) | (go_at_call_of 152 (Value.int .i64 0); refine (K1.out _ hb2).mono ?_; rintro e w3 ⟨rfl, pl, pr, gl, gr, hA3, hR3, hF3⟩) | (go_at_call 206; refine (K2.out _ _ _ _ _ hA3 hR3 hF3).mono ?_; rintro e w4 ⟨rfl, hA4, hR4, hF4⟩) | (go_at_call_of 150 (Value.pointer pl); refine (K3'.out _ _ _ _ _ hA4 hR4 hF4).mono ?_; rintro e w5 ⟨rfl, hA5, hR5⟩) | (go_at_call_of 152 (Value.int .i64 1); refine (K4'.out _ _ _ _ hA5 hR5).mono ?_; rintro e w6 ⟨rfl, hA6, hR6⟩) | (go_at_call_of 150 (Value.pointer pr); refine (K5'.out _ _ _ _ hA6 hR6).mono ?_; rintro e w7 ⟨rfl, hA7⟩))
        go_ret
        exact hA7
    · rw [if_pos hl0]
      rw [decide_eq_false hl0] at K3
      have K3' : Hid (∀ pl pr gl gr w4, Around wg B0 base lb sb c gb xl xa lo hi b w (cnt + 1) ps w4 -> RightAt base b w hash over under par k v l r pl pr gr w4 -> LeftAt base w over k l pl pr gl w4 -> Calls prog 150 #[.pointer pl, intoV lo hi, atV xl xa] w4 fun e w5 => e = .returned (.bool false) /\ WPost base lb sb c ps (NWk (some ⟨b, 0, none⟩) lb c) w (LR.1, 0, []) (.returned (.bool false)) w5) := fun pl pr gl gr w4 h1 h2 h3 => by
       refine (K3.out pl pr gl gr w4 h1 h2 h3).mono ?_
       rintro e w5 ⟨he5, _, h5⟩
       exact ⟨he5, by rw [decide_eq_false hl0], (h5 hl0).2, fun h => absurd h hl0, fun _ => (h5 hl0).1⟩
      clear K3 K5 K4 hl0 K6
      go_enter func150, ntmps150
      go_wp2_with (first | (go_at_call 119; refine HI.mono ?_; rintro e w2 ⟨rfl, hb2⟩) | (go_at_call_of 152 (Value.int .i64 0); refine (K1.out _ hb2).mono ?_; rintro e w3 ⟨rfl, pl, pr, gl, gr, hA3, hR3, hF3⟩) | (go_at_call 206; refine (K2.out _ _ _ _ _ hA3 hR3 hF3).mono ?_; rintro e w4 ⟨rfl, hA4, hR4, hF4⟩) | (go_at_call_of 150 (Value.pointer pl); refine (K3'.out _ _ _ _ _ hA4 hR4 hF4).mono ?_; rintro e w5 ⟨rfl, hA5⟩))
      go_ret
      exact hA5
  · rw [goF_code hskip hC]
    obtain ⟨C, hCC⟩ : ∃ C, codeF fnd hash over under pk (cnt + 1) = C := ⟨_, rfl⟩
    rw [hCC] at HB hC ⊢
    have HP : Hid (∀ w0 w', Below w.heap.size w w0 -> Fr w0.heap.size (fun q => q = b \/ q = lb) w0 w' -> LD lb sb (cnt + 1) C w' -> WPost base lb sb c ps (NWk (some ⟨b, 0, none⟩) lb c) w (C, 0, []) (.returned (.bool false)) w') := fun w0 w' hb0 f2 hL2 => ⟨by rw [decide_eq_false hC], (Fr.of_below hb0).trans (f2.base (Nat.le_trans hE.hs hb0.size)) (fun q _ e => by rcases e with e | e; exact .inl ⟨_, rfl, e⟩; exact .inr (.inl e)), fun h => absurd h hC, fun _ => ⟨_, hL2⟩⟩
    rw [decide_eq_false hC] at HB
    clear hCC hE hP hL hS hB HF HR
    go_enter func150, ntmps150
    go_wp2_with (first | (go_at_call 119; refine HI.mono ?_; rintro e w2 ⟨rfl, hb2⟩) | (go_at_call 152; refine (HB.out _ hb2).mono ?_; rintro e w3 ⟨rfl, f3, hL3, _⟩))
    go_ret
    exact HP.out _ _ hb2 f3 hL3
end Go.Proofs.YtfmpjlpakldheaaGreatDoor
