import Derived.Test.YtmfhfehemoeeeaaGreatDoorZsbh
import Derived.Test.YtmfhfehemoeeeaaGreatDoorZsbf
set_option maxRecDepth 100000
set_option maxHeartbeats 2000000
namespace Go.Proofs.YtmfhfehemoeeeaaGreatDoor
open Go.RowKit Go.Proofs.Sha

theorem root_any (m : Nat) (t : Tr PairT) (p : Option Addr) (w : World) {n0 : Nat} (h : TA n0 (hf m) t p w) : Calls Tryz.prog 51 #[.pointer p] w fun e w' => e = .returned (.string (rootT m t)) ∧ w' = w := by
  have hp := h.ptr
  cases t with
  | nil =>
    obtain rfl : p = none := h
    have q := ptr_nil w
    have hr : Hid (rootT m .nil = ⟨#[]⟩) := rfl
    clear hp
    go_enter Tryz.func51, Tryz.ntmps51
    go_wp2_with fail
    go_ret
    exact ⟨by rw [hr.out]; rfl, rfl⟩
  | node l x r =>
    obtain ⟨b, pl, pr, rfl, _, hb, _, _⟩ := h
    have q := ptr_some _ w hp
    have c := hb.c38
    have e : (hf m (.node l x r)).2 = rootT m (.node l x r) := rfl
    rw [e] at c
    generalize rootT m (.node l x r) = H at c
    clear hp hb e
    go_enter Tryz.func51, Tryz.ntmps51
    go_wp2_with fail
    go_ret
    exact ⟨rfl, rfl⟩
def someT : Tr PairT → Bool
  | .nil => false
  | .node _ _ _ => true
theorem isUn_any (t : Tr PairT) (p : Option Addr) (w : World) {n0 : Nat} (h : TA n0 bare t p w) : Calls Tryz.prog 86 #[.pointer p] w fun e w' => e = .returned (.bool (someT t)) ∧ w' = w := by
  have hp := h.ptr
  cases t with
  | nil =>
    obtain rfl : p = none := h
    have q : (binOp .neq 61 (.pointer none) (.pointer none)).run Tryz.prog w = .ok (.bool false) w := by
      have := ptr_nil w
      simp only [binOp] at this ⊢
      cases hq : (Op.equal 61 (.pointer none) (.pointer none)).run Tryz.prog w <;> simp_all
    clear hp
    go_enter Tryz.func86, Tryz.ntmps86
    go_wp2_with fail
    go_ret
    exact ⟨rfl, rfl⟩
  | node l x r =>
    obtain ⟨b, pl, pr, rfl, _, hb, _, _⟩ := h
    have q : (binOp .neq 61 (.pointer (some ⟨b, 0, none⟩)) (.pointer none)).run Tryz.prog w = .ok (.bool true) w := by
      have := ptr_some _ w hp
      simp only [binOp] at this ⊢
      cases hq : (Op.equal 61 (.pointer (some ⟨b, 0, none⟩)) (.pointer none)).run Tryz.prog w <;> simp_all
    have c := hb.c37
    have e : (bare (.node l x r)).1 = ⟨#[]⟩ := rfl
    rw [e] at c
    clear hp hb e
    go_enter Tryz.func86, Tryz.ntmps86
    go_wp2_with fail
    go_ret
    exact ⟨rfl, rfl⟩
theorem subs_any (b : Nat) (x : PairT) (l r : Option Addr) (e : ByteArray × ByteArray) (w : World) (h : TB b x l r e w) : Calls Tryz.prog 130 #[.pointer (some ⟨b, 0, none⟩)] w fun e w' => e = .returned (.tuple #[.pointer l, .pointer r]) ∧ Below w.heap.size w w' := by
  have c1 := h.c35
  have c2 := h.c36
  clear h
  go_enter Tryz.func130, Tryz.ntmps130
  go_wp2_with fail
  go_region_held3 (fun W => W.cell? ⟨b, 35, none⟩ = some (.pointer l) ∧ W.cell? ⟨b, 36, none⟩ = some (.pointer r)) (exact ⟨c1, c2⟩) (fail)
  go_wp2_with fail
  go_ret2
  exact ⟨rfl, (Below.refl _ _).drew⟩
/-- The table of the hash lies in the first block. -/
def KTab (w : World) : Prop := ∀ j, j < 64 → w.cell? ⟨0, j, none⟩ = some (.int .u32 ((kTab.getD j 0).toNat : Int))
theorem KTab.below {w w' : World} (h : KTab w) (hb : Below w.heap.size w w') : KTab w' := fun j hj => (hb.cell (World.block_lt_of_cell? w _ (h j hj))).trans (h j hj)
theorem KTab.upd {M : Nat → Prop} {w w' : World} (h : KTab w) (hu : Upd M w w') (hn : ¬ M 0) : KTab w' := fun j hj => hu.cell (h j hj) hn
theorem TB.ne0 {b : Nat} {x : PairT} {l r : Option Addr} {e : ByteArray × ByteArray} {w : World} (h : TB b x l r e w) (hk : KTab w) : 0 ≠ b := fun q => by
  subst q
  have := h.c0.symm.trans (hk 0 (by omega))
  simp at this

theorem addHash_any (m : Nat) (h1 : 1 ≤ m) (h2 : m ≤ 32) (b : Nat) (x : PairT) (pl pr : Option Addr) (l r : Tr PairT) (e0 : ByteArray × ByteArray) (w : World) (hb : TB b x pl pr e0 w) {n0 : Nat} (hl : TA n0 (hf m) l pl w) (hr : TA n0 (hf m) r pr w) (hx1 : x.1.size ≤ 1048576) (hx2 : x.2.size ≤ 1048576) (hk : KTab w) :
    Calls Tryz.prog 88 #[.pointer (some ⟨b, 0, none⟩), .int .i64 (m : Int)] w fun e w' => e = .returned (.tuple #[]) ∧ TB b x pl pr (hf m (.node l x r)) w' ∧ Upd (fun k => k = b) w w' := by
  have HC : Hid (∀ w', Below w.heap.size w w' → w'.cell? ⟨b, 0, none⟩ = some (.string x.1) ∧ w'.cell? ⟨b, 1, none⟩ = some (.string x.2) ∧ w'.cell? ⟨b, 35, none⟩ = some (.pointer pl) ∧ w'.cell? ⟨b, 36, none⟩ = some (.pointer pr)) := fun w' h => ⟨(hb.below h (Nat.le_refl _)).c0, (hb.below h (Nat.le_refl _)).c1, (hb.below h (Nat.le_refl _)).c35, (hb.below h (Nat.le_refl _)).c36⟩
  have HL : Hid (∀ w', Below w.heap.size w w' → Calls Tryz.prog 51 #[.pointer pl] w' fun e w'' => e = .returned (.string (rootT m l)) ∧ w'' = w') := fun w' h => root_any m l pl w' (hl.below h (Nat.le_refl _))
  have HR : Hid (∀ w', Below w.heap.size w w' → Calls Tryz.prog 51 #[.pointer pr] w' fun e w'' => e = .returned (.string (rootT m r)) ∧ w'' = w') := fun w' h => root_any m r pr w' (hr.below h (Nat.le_refl _))
  have hsl := rootT_size m h2 l
  have hsr := rootT_size m h2 r
  have HE : Hid (∀ w', Calls Tryz.prog 103 #[.agg #[.string x.1, .string x.2, .string (rootT m l), .string (rootT m r)], .int .i64 (m : Int)] w' fun e w'' => ∃ t, e = .returned (.string t) ∧ Hid (t = encT m (.node l x r)) ∧ Below w'.heap.size w' w'') := fun w' => enc_impl x.1 x.2 _ _ _ w' hx1 hx2 (by omega) (by omega)
  have HT : Hid (hf m (.node l x r) = (encT m (.node l x r), digB (encT m (.node l x r)) m)) := rfl
  have hes : (encT m (.node l x r)).size ≤ 1048576 := by
    have := (encS_size x.1 x.2 (rootT m l) (rootT m r) m).1
    show (encS x.1 x.2 (rootT m l) (rootT m r) m).size ≤ 1048576
    omega
  clear hsl hsr
  generalize hf m (.node l x r) = F at HT ⊢
  generalize encT m (.node l x r) = E at HE HT hes
  generalize rootT m l = A at HL HE
  generalize rootT m r = C at HR HE
  have HD : Hid (∀ w', KTab w' → Calls Tryz.prog 104 #[.string E, .int .i64 (m : Int)] w' fun e w'' => e = .returned (.string (digB E m)) ∧ Below w'.heap.size w' w'') := fun w' h => edig_any E m w' hes h1 h2 h
  generalize digB E m = G at HD HT
  have hne := hb.ne0 hk
  obtain ⟨xk, xv⟩ := x
  dsimp only at HC HE hx1 hx2
  have HB : Hid (TB b (xk, xv) pl pr e0 w) := hb
  have HKT : Hid (KTab w) := hk
  clear hl hr hb hk hes hx1 hx2
  have hb0 : Below w.heap.size w w.drew := (Below.refl _ _).drew
  go_enter Tryz.func88, Tryz.ntmps88
  go_upto_region 0 with fail
  go_region_held3 (fun W => W.cell? ⟨b, 0, none⟩ = some (.string xk) ∧ W.cell? ⟨b, 1, none⟩ = some (.string xv) ∧ W.cell? ⟨b, 35, none⟩ = some (.pointer pl) ∧ W.cell? ⟨b, 36, none⟩ = some (.pointer pr)) (first | exact HC.out _ hb0 | exact HC.out _ hb2 | exact ⟨HS3.out.c0, HS3.out.c1, HS3.out.c35, HS3.out.c36⟩) (first | (go_at_call_of 51 (Value.pointer pl); refine (HL.out _ hb0).mono ?_; rintro e w1 ⟨rfl, rfl⟩) | (go_at_call_of 51 (Value.pointer pr); refine (HR.out _ hb0).mono ?_; rintro e w1 ⟨rfl, rfl⟩) | (go_at_call 103; refine (HE.out _).mono ?_; rintro e w2 ⟨t, rfl, ht, hb2'⟩; have hb2 : Below w.heap.size w w2 := hb0.trans hb2'; have hB2 := HB.out.below hb2 (Nat.le_refl _); have c37 := hB2.c37; have f37 := hB2.frozen (o := 37); have HS3 : Hid (TB b (xk, xv) pl pr (t, e0.2) (w2.setCell ⟨b, 37, none⟩ (.string t))) := hB2.setEnc t; clear hb2'))
  have hU : Upd (fun k => k = b) w (w2.setCell ⟨b, 37, none⟩ (.string t)) := (Upd.of_below hb2).setCell b 37 _ rfl
  have hT3 : TB b (xk, xv) pl pr (t, e0.2) (w2.setCell ⟨b, 37, none⟩ (.string t)) := HS3.out
  have hk3 := HKT.out.upd hU hne
  clear HS3 f37 c37 hB2 hb2 HKT HB HC HL HR HE hb0 hne
  generalize w2.setCell ⟨b, 37, none⟩ (.string t) = w3 at hU hT3 hk3 ⊢
  obtain rfl : t = E := ht.out
  have c37 := hT3.c37
  have HK3 : Hid (KTab w3) := hk3
  clear hk3
  dsimp only at c37
  go_wp2_with (first | (go_at_call 104; refine (HD.out _ HK3.out).mono ?_; rintro e w4 ⟨rfl, hb4⟩; have hT4 := hT3.below hb4 (Nat.le_refl _); have c38 := hT4.c38; have f38 := hT4.frozen (o := 38)))
  go_end0
  refine ⟨rfl, ?_, (hU.trans (Upd.of_below hb4)).setCell b 38 _ rfl⟩
  rw [HT.out]
  exact hT4.setHash G
theorem clo_no (c : Nat) (p : Option Addr) (i : Int) (hi : i = 0 ∨ i = 1) (w : World) : Calls Tryz.prog 87 #[.pointer p, .int .i64 i, .pointer (some ⟨c, 0, none⟩)] w fun e w' => e = .returned (.bool true) ∧ w' = w := by
  have hz : (i == 2) = false := by rcases hi with rfl | rfl <;> rfl
  go_enter Tryz.func87, Tryz.ntmps87
  go_wp2_with fail
  go_ret
  exact ⟨rfl, rfl⟩
theorem clo_yes (m : Nat) (h1 : 1 ≤ m) (h2 : m ≤ 32) (c b : Nat) (x : PairT) (pl pr : Option Addr) (l r : Tr PairT) (e0 : ByteArray × ByteArray) (w : World) (hb : TB b x pl pr e0 w) {n0 : Nat} (hl : TA n0 (hf m) l pl w) (hr : TA n0 (hf m) r pr w) (hx1 : x.1.size ≤ 1048576) (hx2 : x.2.size ≤ 1048576) (hk : KTab w) (hc : w.cell? ⟨c, 0, none⟩ = some (.int .i64 (m : Int))) :
    Calls Tryz.prog 87 #[.pointer (some ⟨b, 0, none⟩), .int .i64 2, .pointer (some ⟨c, 0, none⟩)] w fun e w' => e = .returned (.bool true) ∧ TB b x pl pr (hf m (.node l x r)) w' ∧ Upd (fun k => k = b) w w' := by
  have HA := addHash_any m h1 h2 b x pl pr l r e0 w hb hl hr hx1 hx2 hk
  clear hb hl hr hk hx1 hx2
  go_enter Tryz.func87, Tryz.ntmps87
  go_wp2_with (go_at_call 88; refine HA.mono ?_; rintro e w1 ⟨rfl, hT, hU⟩)
  go_ret
  exact ⟨rfl, hT, hU⟩
theorem walk_hash (m : Nat) (h1 : 1 ≤ m) (h2 : m ≤ 32) (c n0 : Nat) : ∀ (t : Tr PairT) (p : Option Addr) (bs : List Nat) (w : World), TAL n0 bare t p bs w → bs.Nodup → (∀ x ∈ t.inord, x.1.size ≤ 1048576 ∧ x.2.size ≤ 1048576) → KTab w → w.cell? ⟨c, 0, none⟩ = some (.int .i64 (m : Int)) →
    Calls Tryz.prog 70 #[.pointer p, .func (.func 86) #[] #[], .func (.func 87) #[] #[.pointer (some ⟨c, 0, none⟩)]] w fun e w' => e = .returned (.bool true) ∧ TAL n0 (hf m) t p bs w' ∧ Upd (fun k => k ∈ bs) w w' := by
  intro t
  induction t with
  | nil =>
    intro p bs w ht hnd hsz hk hc
    obtain ⟨rfl, rfl⟩ := ht
    have HU := isUn_any .nil none w (n0 := n0) rfl
    have hs : someT .nil = false := rfl
    rw [hs] at HU
    clear hs hsz hk hc hnd
    go_enter Tryz.func70, Tryz.ntmps70
    go_wp2_with (go_at_call 86; refine HU.mono ?_; rintro e w1 ⟨rfl, rfl⟩)
    go_ret
    exact ⟨rfl, ⟨rfl, rfl⟩, Upd.refl _ _⟩
  | node l x r ihl ihr =>
    intro p bs w ht hnd hsz hk hc
    have HU := isUn_any (.node l x r) p w ht.ta
    have hs : someT (.node l x r) = true := rfl
    rw [hs] at HU
    clear hs
    obtain ⟨b, pl, pr, bl, br, rfl, rfl, hge, hb, hl, hr⟩ := ht
    obtain ⟨n1, n2, n3⟩ := List.nodup_append.1 hnd
    obtain ⟨n4, n5⟩ := List.nodup_cons.1 n2
    have d1 : b ∉ bl := fun q => n3 b q b (by simp) rfl
    have d2 : ∀ k ∈ br, k ∉ bl := fun k hk q => n3 k q k (by simp [hk]) rfl
    have hm : ∀ w' : World, (method 356 61 (.pointer (some ⟨b, 0, none⟩)) "loop.example/s03048/impl.subtrees").run Tryz.prog w' = .ok (130, .pointer (some ⟨b, 0, none⟩)) w' := fun _ => by kernel_rfl
    have H0 := fun w' => clo_no c (some ⟨b, 0, none⟩) 0 (.inl rfl) w'
    have H1 := fun w' => clo_no c (some ⟨b, 0, none⟩) 1 (.inr rfl) w'
    have HS := subs_any b x pl pr _ w hb
    have HL : Hid (∀ w0, Below w.heap.size w w0 → Calls Tryz.prog 70 #[.pointer pl, .func (.func 86) #[] #[], .func (.func 87) #[] #[.pointer (some ⟨c, 0, none⟩)]] w0 fun e w' => e = .returned (.bool true) ∧ TAL n0 (hf m) l pl bl w' ∧ Upd (fun k => k ∈ bl) w w') := fun w0 hb0 => by
      have u0 : Upd (fun _ => False) w w0 := Upd.of_below hb0
      refine (ihl pl bl w0 (hl.upd u0 (fun _ _ q => q)) n1 (fun y hy => hsz y (by simp [Tr.inord, hy])) (hk.below hb0) (u0.cell hc id)).mono ?_
      rintro e w' ⟨he, hT, hU⟩
      exact ⟨he, hT, (Upd.of_below hb0).trans hU⟩
    have hc0 : c ∉ bl ∧ c ∉ br ∧ c ≠ b := ⟨hl.notin c hc (fun s => by simp), hr.notin c hc (fun s => by simp), fun q => by
      subst q
      have := hb.c0.symm.trans hc
      simp at this⟩
    have hk0 : 0 ∉ bl ∧ 0 ∉ br ∧ 0 ≠ b := ⟨hl.notin 0 (hk 0 (by omega)) (fun s => by simp), hr.notin 0 (hk 0 (by omega)) (fun s => by simp), hb.ne0 hk⟩
    have HR : Hid (∀ w1, Upd (fun k => k ∈ bl) w w1 → Calls Tryz.prog 70 #[.pointer pr, .func (.func 86) #[] #[], .func (.func 87) #[] #[.pointer (some ⟨c, 0, none⟩)]] w1 fun e w' => e = .returned (.bool true) ∧ TAL n0 (hf m) r pr br w' ∧ Upd (fun k => k ∈ br) w1 w') := fun w1 hu1 => ihr pr br w1 (hr.upd hu1 (fun k hk q => d2 k hk q)) n5 (fun y hy => hsz y (by simp [Tr.inord, hy])) (hk.upd hu1 hk0.1) (hu1.cell hc hc0.1)
    have HY : Hid (∀ w1 w2, Upd (fun k => k ∈ bl) w w1 → TAL n0 (hf m) l pl bl w1 → Upd (fun k => k ∈ br) w1 w2 → TAL n0 (hf m) r pr br w2 → Calls Tryz.prog 87 #[.pointer (some ⟨b, 0, none⟩), .int .i64 2, .pointer (some ⟨c, 0, none⟩)] w2 fun e w3 => e = .returned (.bool true) ∧ TAL n0 (hf m) (.node l x r) (some ⟨b, 0, none⟩) (bl ++ b :: br) w3 ∧ Upd (fun k => k ∈ bl ++ b :: br) w w3) := fun w1 w2 u1 t1 u2 t2 => by
      have tl2 : TAL n0 (hf m) l pl bl w2 := t1.upd u2 (fun k hk q => d2 k q hk)
      have tb2 : TB b x pl pr (bare (.node l x r)) w2 := (hb.upd u1 d1).upd u2 n4
      refine (clo_yes m h1 h2 c b x pl pr l r _ w2 tb2 tl2.ta t2.ta (hsz x (by simp [Tr.inord])).1 (hsz x (by simp [Tr.inord])).2 ((hk.upd u1 hk0.1).upd u2 hk0.2.1) (u2.cell (u1.cell hc hc0.1) hc0.2.1)).mono ?_
      rintro e w3 ⟨he, hT, hU⟩
      refine ⟨he, ⟨b, pl, pr, bl, br, rfl, rfl, hge, hT, tl2.upd hU (fun k hk q => d1 (q ▸ hk)), t2.upd hU (fun k hk q => n4 (q ▸ hk))⟩, ?_⟩
      exact ((u1.mono (fun k hk => by simp [hk])).trans (u2.mono (fun k hk => by simp [hk]))).trans (hU.mono (fun k hk => by simp [hk]))
    clear hb hl hr hk hc hnd n1 n2 n3 n4 n5 d1 d2 hc0 hk0 hsz ihl ihr
    go_enter Tryz.func70, Tryz.ntmps70
    go_wp2_with (first | (go_at_call 86; refine HU.mono ?_; rintro e w1 ⟨rfl, rfl⟩) | (go_at_call_of 87 (Value.int .i64 0); refine (H0 _).mono ?_; rintro e w1 ⟨rfl, rfl⟩) | (go_at_call_of 87 (Value.int .i64 1); refine (H1 _).mono ?_; rintro e w1 ⟨rfl, rfl⟩) | (go_at_call 130; refine HS.mono ?_; rintro e w0 ⟨rfl, hb0⟩) | (go_at_call_of 70 (Value.pointer pl); refine (HL.out _ hb0).mono ?_; rintro e w1 ⟨rfl, ht1, hu1⟩) | (go_at_call_of 70 (Value.pointer pr); refine (HR.out _ hu1).mono ?_; rintro e w2 ⟨rfl, ht2, hu2⟩) | (go_at_call_of 87 (Value.int .i64 2); refine (HY.out _ _ hu1 ht1 hu2 ht2).mono ?_; rintro e w3 ⟨rfl, ht3, hu3⟩))
    go_ret
    exact ⟨rfl, ht3, hu3⟩
def isW (n : Int) : Bool := decide (1 ≤ n) && decide (n ≤ 32)
theorem isW_out {n : Int} (h : isW n = true) : ∃ m : Nat, n = (m : Int) ∧ 1 ≤ m ∧ m ≤ 32 := by
  unfold isW at h
  rw [Bool.and_eq_true, decide_eq_true_eq, decide_eq_true_eq] at h
  exact ⟨n.toNat, by omega, by omega, by omega⟩
theorem isW_spec (n : Int) (w : World) : Calls Tryz.prog 19 #[.int .i64 n] w fun e w' => e = .returned (.bool (isW n)) ∧ w' = w := by
  unfold isW
  by_cases h : 1 ≤ n
  · have z : decide (1 ≤ n) = true := decide_eq_true h
    rw [z, Bool.true_and]
    go_enter Tryz.func19, Tryz.ntmps19
    go_wp2_with fail
    go_ret
    exact ⟨rfl, rfl⟩
  · have z : decide (1 ≤ n) = false := decide_eq_false h
    rw [z, Bool.false_and]
    go_enter Tryz.func19, Tryz.ntmps19
    go_wp2_with fail
    go_ret
    exact ⟨rfl, rfl⟩
theorem rank_said : RankSaid KTab := fun s w hs hk => rank_any s w hs hk

theorem addHashes_any (m : Nat) (h1 : 1 ≤ m) (h2 : m ≤ 32) (n0 : Nat) (t : Tr PairT) (p : Option Addr) (w : World) (ht : TA n0 bare t p w) (ha : Apart t.inord) (hsz : ∀ x ∈ t.inord, x.1.size ≤ 1048576 ∧ x.2.size ≤ 1048576) (hk : KTab w) :
    Calls Tryz.prog 69 #[.pointer p, .int .i64 (m : Int)] w fun e w' => e = .returned (.tuple #[]) ∧ ∃ bs, TAL n0 bare t p bs w ∧ TAL n0 (hf m) t p bs w' ∧ Upd (fun k => k ∈ bs) w w' := by
  obtain ⟨bs, hb⟩ := ht.list
  have hbA : Below w.heap.size w (w.alloc (.cells #[.int .i64 (m : Int)] 3)) := (Below.refl _ _).alloc (Nat.le_refl _) _
  have hcA : (w.alloc (.cells #[.int .i64 (m : Int)] 3)).cell? ⟨w.heap.size, 0, none⟩ = some (.int .i64 (m : Int)) := Lib.cell_of_heap (heap_alloc_new w _) 0
  have HW := walk_hash m h1 h2 w.heap.size n0 t p bs _ (hb.upd (M := fun _ => False) (Upd.of_below hbA) (fun _ _ q => q)) (hb.nodup ha) hsz (hk.below hbA) hcA
  have hmf : ∀ (fn : Fn) (first cap : Array Value) (w : World), (Instr.makeFunc fn first cap).run Tryz.prog w = .ok (.func fn first cap) w := fun _ _ _ _ => rfl
  have HB : Hid (TAL n0 bare t p bs w) := hb
  clear ht ha hsz hk hcA hb
  go_enter Tryz.func69, Tryz.ntmps69
  go_wp2_with (go_at_call 70; refine HW.mono ?_; rintro e w1 ⟨rfl, hT, hU⟩)
  go_end0
  exact ⟨rfl, bs, HB.out, hT, (Upd.of_below hbA).trans hU⟩

/-- The root of a map. -/
def rootS (ps : List PairT) (n : Int) : ByteArray := if (isMapT ps && isW n) = true then rootT n.toNat (cutTree ps) else ⟨#[]⟩
theorem shash_any (k v l r : ByteArray) (n : Int) (w : World) (hk : k.size ≤ 1048576) (hv : v.size ≤ 1048576) (hl : l.size ≤ 1048576) (hr : r.size ≤ 1048576) :
    Calls Tryz.prog 46 #[.agg #[.string k, .string v, .string l, .string r], .int .i64 n] w fun e w' => ∃ t, e = .returned (.string t) ∧ Hid (t = hashS k v l r n) ∧ Below w.heap.size w w' := by
  have hsz := encS_size k v l r n
  obtain ⟨q, hq⟩ : ∃ q, encS k v l r n = q := ⟨_, rfl⟩
  have HA : Hid (∀ w', Calls Tryz.prog 45 #[.agg #[.string k, .string v, .string l, .string r], .int .i64 n] w' fun e w'' => e = .returned (.string q) ∧ Below w'.heap.size w' w'') := fun w' => (enc_any k v l r n w' hk hv hl hr).mono (by rintro e w'' ⟨t, rfl, HX, hb⟩; exact ⟨by rw [HX.out, hq], hb⟩)
  have HR : Hid (hashS k v l r n = if q.size = 0 then ⟨#[]⟩ else ⟨((sha (78 :: q.data.toList)).take n.toNat).toArray⟩) := by show _ = _; unfold hashS; rw [hq]
  rw [hq] at hsz
  clear hq hk hv hl hr
  by_cases h0 : q.size = 0
  · have z : ((q.size : Int) == 0) = true := by rw [h0]; rfl
    go_enter Tryz.func46, Tryz.ntmps46
    go_wp2_with (first | (go_at_call 45; refine (HA.out _).mono ?_; rintro e w1 ⟨rfl, hb1⟩))
    go_ret
    refine ⟨_, rfl, ?_, ((Below.refl _ w).alloc (Nat.le_refl _) _).trans (hb1.mono (by simp))⟩
    show _ = _
    rw [HR.out, if_pos h0]
  · have z : ((q.size : Int) == 0) = false := by rw [beq_eq_false_iff_ne]; omega
    obtain ⟨m, rfl⟩ := Int.eq_ofNat_of_zero_le (show 0 ≤ n by have := hsz.2 h0; omega)
    have hm := hsz.2 h0
    have HD : Hid (∀ (t : ByteArray) w', t.size ≤ 10001 → Calls Tryz.prog 28 #[.string t, .int .i64 (m : Int)] w' fun e w'' => e = .returned (.string ⟨((sha t.data.toList).take m).toArray⟩) ∧ Below w'.heap.size w' w'') := fun t w' ht => sdig_yes t m w' (by omega) (by omega) (by omega)
    go_enter Tryz.func46, Tryz.ntmps46
    go_wp2_with (first | (go_at_call 45; refine (HA.out _).mono ?_; rintro e w1 ⟨rfl, hb1⟩) | (go_at_call 68; refine (text_any q _ hsz.1).mono ?_; rintro e w2 ⟨t, rfl, ht, HT, rfl⟩) | (go_at_call 28; refine (HD.out t _ ht).mono ?_; rintro e w3 ⟨rfl, hb3⟩))
    go_ret
    have hw1 : Below w.heap.size w w1 := ((Below.refl _ w).alloc (Nat.le_refl _) _).trans (hb1.mono (by simp))
    refine ⟨_, rfl, ?_, hw1.trans (hb3.mono hw1.size)⟩
    show _ = _
    rw [HR.out, if_neg h0, HT.out, Int.toNat_natCast]
end Go.Proofs.YtmfhfehemoeeeaaGreatDoor
