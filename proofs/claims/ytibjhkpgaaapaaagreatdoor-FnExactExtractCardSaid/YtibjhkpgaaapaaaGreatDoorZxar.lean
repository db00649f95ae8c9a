import Derived.Test.YtibjhkpgaaapaaaGreatDoorZxaq
import Derived.Test.YtibjhkpgaaapaaaGreatDoorZxan
namespace Go.Proofs.YtibjhkpgaaapaaaGreatDoor
open Go.RowKit Go.Proofs.Sha

set_option maxRecDepth 100000 in
set_option maxHeartbeats 2000000 in
theorem walk_hash (m : Nat) (h1 : 1 ≤ m) (h2 : m ≤ 32) (c n0 : Nat) : ∀ (t : Tr PairT) (p : Option Addr) (bs : List Nat) (w : World), TAL n0 bare t p bs w → bs.Nodup → (∀ x ∈ t.inord, x.1.size ≤ 1048576 ∧ x.2.size ≤ 1048576) → KTab w → w.cell? ⟨c, 0, none⟩ = some (.int .i64 (m : Int)) →
    Calls Tryz.prog 159 #[.pointer p, .func (.func 177) #[] #[], .func (.func 178) #[] #[.pointer (some ⟨c, 0, none⟩)]] w fun e w' => e = .returned (.bool true) ∧ TAL n0 (hf m) t p bs w' ∧ Upd (fun k => k ∈ bs) w w' := by
  intro t
  induction t with
  | nil =>
    intro p bs w ht hnd hsz hk hc
    obtain ⟨rfl, rfl⟩ := ht
    have HU := isUn_any .nil none w (n0 := n0) rfl
    have hs : someT .nil = false := rfl
    rw [hs] at HU
    clear hs hsz hk hc hnd
    go_enter Tryz.func159, Tryz.ntmps159
    go_wp2_with (go_at_call 177; refine HU.mono ?_; rintro e w1 ⟨rfl, rfl⟩)
    go_ret
    exact ⟨rfl, ⟨rfl, rfl⟩, Upd.refl _ _⟩
  | node l x r ihl ihr =>
    intro p bs w ht hnd hsz hk hc
    have HU := isUn_any (.node l x r) p w ht.ta
    have hs : someT (.node l x r) = true := rfl
    rw [hs] at HU
    clear hs
    obtain ⟨b, pl, pr, bl, br, rfl, rfl, hge, hb, hl, hr⟩ := ht
    obtain ⟨n1, n2, n3⟩ := List.nodup_append.1 hnd
    obtain ⟨n4, n5⟩ := List.nodup_cons.1 n2
    have d1 : b ∉ bl := fun q => n3 b q b (by simp) rfl
    have d2 : ∀ k ∈ br, k ∉ bl := fun k hk q => n3 k q k (by simp [hk]) rfl
    have hm : ∀ w' : World, (method 427 115 (.pointer (some ⟨b, 0, none⟩)) "loop.example/s03048/impl.subtrees").run Tryz.prog w' = .ok (227, .pointer (some ⟨b, 0, none⟩)) w' := fun _ => by kernel_rfl
    have H0 := fun w' => clo_no c (some ⟨b, 0, none⟩) 0 (.inl rfl) w'
    have H1 := fun w' => clo_no c (some ⟨b, 0, none⟩) 1 (.inr rfl) w'
    have HS := subs_any b x pl pr _ w hb
    have HL : Hid (∀ w0, Below w.heap.size w w0 → Calls Tryz.prog 159 #[.pointer pl, .func (.func 177) #[] #[], .func (.func 178) #[] #[.pointer (some ⟨c, 0, none⟩)]] w0 fun e w' => e = .returned (.bool true) ∧ TAL n0 (hf m) l pl bl w' ∧ Upd (fun k => k ∈ bl) w w') := fun w0 hb0 => by
      have u0 : Upd (fun _ => False) w w0 := Upd.of_below hb0
      refine (ihl pl bl w0 (hl.upd u0 (fun _ _ q => q)) n1 (fun y hy => hsz y (by simp [Tr.inord, hy])) (hk.below hb0) (u0.cell hc id)).mono ?_
      rintro e w' ⟨he, hT, hU⟩
      exact ⟨he, hT, (Upd.of_below hb0).trans hU⟩
    have hc0 : c ∉ bl ∧ c ∉ br ∧ c ≠ b := ⟨hl.notin c hc (fun s => by simp), hr.notin c hc (fun s => by simp), fun q => by
      subst q
      have := hb.c0.symm.trans hc
      simp at this⟩
    have hk0 : 0 ∉ bl ∧ 0 ∉ br ∧ 0 ≠ b := ⟨hl.notin 0 (hk 0 (by omega)) (fun s => by simp), hr.notin 0 (hk 0 (by omega)) (fun s => by simp), hb.ne0 hk⟩
    have HR : Hid (∀ w1, Upd (fun k => k ∈ bl) w w1 → Calls Tryz.prog 159 #[.pointer pr, .func (.func 177) #[] #[], .func (.func 178) #[] #[.pointer (some ⟨c, 0, none⟩)]] w1 fun e w' => e = .returned (.bool true) ∧ TAL n0 (hf m) r pr br w' ∧ Upd (fun k => k ∈ br) w1 w') := fun w1 hu1 => ihr pr br w1 (hr.upd hu1 (fun k hk q => d2 k hk q)) n5 (fun y hy => hsz y (by simp [Tr.inord, hy])) (hk.upd hu1 hk0.1) (hu1.cell hc hc0.1)
    have HY : Hid (∀ w1 w2, Upd (fun k => k ∈ bl) w w1 → TAL n0 (hf m) l pl bl w1 → Upd (fun k => k ∈ br) w1 w2 → TAL n0 (hf m) r pr br w2 → Calls Tryz.prog 178 #[.pointer (some ⟨b, 0, none⟩), .int .i64 2, .pointer (some ⟨c, 0, none⟩)] w2 fun e w3 => e = .returned (.bool true) ∧ TAL n0 (hf m) (.node l x r) (some ⟨b, 0, none⟩) (bl ++ b :: br) w3 ∧ Upd (fun k => k ∈ bl ++ b :: br) w w3) := fun w1 w2 u1 t1 u2 t2 => by
      have tl2 : TAL n0 (hf m) l pl bl w2 := t1.upd u2 (fun k hk q => d2 k q hk)
      have tb2 : TB b x pl pr (bare (.node l x r)) w2 := (hb.upd u1 d1).upd u2 n4
      refine (clo_yes m h1 h2 c b x pl pr l r _ w2 tb2 tl2.ta t2.ta (hsz x (by simp [Tr.inord])).1 (hsz x (by simp [Tr.inord])).2 ((hk.upd u1 hk0.1).upd u2 hk0.2.1) (u2.cell (u1.cell hc hc0.1) hc0.2.1)).mono ?_
      rintro e w3 ⟨he, hT, hU⟩
      refine ⟨he, ⟨b, pl, pr, bl, br, rfl, rfl, hge, hT, tl2.upd hU (fun k hk q => d1 (q ▸ hk)), t2.upd hU (fun k hk q => n4 (q ▸ hk))⟩, ?_⟩
      exact ((u1.mono (fun k hk => by simp [hk])).trans (u2.mono (fun k hk => by simp [hk]))).trans (hU.mono (fun k hk => by simp [hk]))
    clear hb hl hr hk hc hnd n1 n2 n3 n4 n5 d1 d2 hc0 hk0 hsz ihl ihr
    go_enter Tryz.func159, Tryz.ntmps159
    go_wp2_with (first | (go_at_call 177; refine HU.mono ?_; rintro e w1 ⟨rfl, rfl⟩) | (go_at_call_of 178 (Value.int .i64 0); refine (H0 _).mono ?_; rintro e w1 ⟨rfl, rfl⟩) | (go_at_call_of 178 (Value.int .i64 1); refine (H1 _).mono ?_; rintro e w1 ⟨rfl, rfl⟩) | (go_at_call 227; refine HS.mono ?_; rintro e w0 ⟨rfl, hb0⟩) | (go_at_call_of 159 (Value.pointer pl); refine (HL.out _ hb0).mono ?_; rintro e w1 ⟨rfl, ht1, hu1⟩) | (go_at_call_of 159 (Value.pointer pr); refine (HR.out _ hu1).mono ?_; rintro e w2 ⟨rfl, ht2, hu2⟩) | (go_at_call_of 178 (Value.int .i64 2); refine (HY.out _ _ hu1 ht1 hu2 ht2).mono ?_; rintro e w3 ⟨rfl, ht3, hu3⟩))
    go_ret
    exact ⟨rfl, ht3, hu3⟩
end Go.Proofs.YtibjhkpgaaapaaaGreatDoor
namespace Go.Proofs.YtibjhkpgaaapaaaGreatDoor
open Go.RowKit Go.Proofs.Sha

def isW (n : Int) : Bool := decide (1 ≤ n) && decide (n ≤ 32)
theorem isW_out {n : Int} (h : isW n = true) : ∃ m : Nat, n = (m : Int) ∧ 1 ≤ m ∧ m ≤ 32 := by
  unfold isW at h
  rw [Bool.and_eq_true, decide_eq_true_eq, decide_eq_true_eq] at h
  exact ⟨n.toNat, by omega, by omega, by omega⟩
theorem isW_any (n : Int) (w : World) : Calls Tryz.prog 94 #[.int .i64 n] w fun e w' => e = .returned (.bool (isW n)) ∧ w' = w := by
  unfold isW
  by_cases h : 1 ≤ n
  · have z : decide (1 ≤ n) = true := decide_eq_true h
    rw [z, Bool.true_and]
    go_enter Tryz.func94, Tryz.ntmps94
    go_wp2_with fail
    go_ret
    exact ⟨rfl, rfl⟩
  · have z : decide (1 ≤ n) = false := decide_eq_false h
    rw [z, Bool.false_and]
    go_enter Tryz.func94, Tryz.ntmps94
    go_wp2_with fail
    go_ret
    exact ⟨rfl, rfl⟩
theorem isW_spec (n : Int) (w : World) : Calls Tryz.prog 63 #[.int .i64 n] w fun e w' => e = .returned (.bool (isW n)) ∧ w' = w := by
  unfold isW
  by_cases h : 1 ≤ n
  · have z : decide (1 ≤ n) = true := decide_eq_true h
    rw [z, Bool.true_and]
    go_enter Tryz.func63, Tryz.ntmps63
    go_wp2_with fail
    go_ret
    exact ⟨rfl, rfl⟩
  · have z : decide (1 ≤ n) = false := decide_eq_false h
    rw [z, Bool.false_and]
    go_enter Tryz.func63, Tryz.ntmps63
    go_wp2_with fail
    go_ret
    exact ⟨rfl, rfl⟩
theorem rank_said : RankSaid KTab := fun s w hs hk => rank_any s w hs hk

theorem addHashes_any (m : Nat) (h1 : 1 ≤ m) (h2 : m ≤ 32) (n0 : Nat) (t : Tr PairT) (p : Option Addr) (w : World) (ht : TA n0 bare t p w) (ha : Apart t.inord) (hsz : ∀ x ∈ t.inord, x.1.size ≤ 1048576 ∧ x.2.size ≤ 1048576) (hk : KTab w) :
    Calls Tryz.prog 158 #[.pointer p, .int .i64 (m : Int)] w fun e w' => e = .returned (.tuple #[]) ∧ ∃ bs, TAL n0 bare t p bs w ∧ TAL n0 (hf m) t p bs w' ∧ Upd (fun k => k ∈ bs) w w' := by
  obtain ⟨bs, hb⟩ := ht.list
  have hbA : Below w.heap.size w (w.alloc (.cells #[.int .i64 (m : Int)] 3)) := (Below.refl _ _).alloc (Nat.le_refl _) _
  have hcA : (w.alloc (.cells #[.int .i64 (m : Int)] 3)).cell? ⟨w.heap.size, 0, none⟩ = some (.int .i64 (m : Int)) := Lib.cell_of_heap (heap_alloc_new w _) 0
  have HW := walk_hash m h1 h2 w.heap.size n0 t p bs _ (hb.upd (M := fun _ => False) (Upd.of_below hbA) (fun _ _ q => q)) (hb.nodup ha) hsz (hk.below hbA) hcA
  have hmf : ∀ (fn : Fn) (first cap : Array Value) (w : World), (Instr.makeFunc fn first cap).run Tryz.prog w = .ok (.func fn first cap) w := fun _ _ _ _ => rfl
  have HB : Hid (TAL n0 bare t p bs w) := hb
  clear ht ha hsz hk hcA hb
  go_enter Tryz.func158, Tryz.ntmps158
  go_wp2_with (go_at_call 159; refine HW.mono ?_; rintro e w1 ⟨rfl, hT, hU⟩)
  go_end0
  exact ⟨rfl, bs, HB.out, hT, (Upd.of_below hbA).trans hU⟩

/-- The root of a map. -/
def rootS (ps : List PairT) (n : Int) : ByteArray := if (isMapT ps && isW n) = true then rootT n.toNat (cutTree ps) else ⟨#[]⟩
end Go.Proofs.YtibjhkpgaaapaaaGreatDoor
namespace Go.Proofs.YtibjhkpgaaapaaaGreatDoor
open Go.RowKit Go.Proofs.Sha

set_option maxRecDepth 100000 in
set_option maxHeartbeats 1000000 in
theorem shash_any (k v l r : ByteArray) (n : Int) (w : World) (hk : k.size ≤ 1048576) (hv : v.size ≤ 1048576) (hl : l.size ≤ 1048576) (hr : r.size ≤ 1048576) :
    Calls Tryz.prog 119 #[.agg #[.string k, .string v, .string l, .string r], .int .i64 n] w fun e w' => ∃ t, e = .returned (.string t) ∧ Hid (t = hashS k v l r n) ∧ Below w.heap.size w w' := by
  have hsz := encS_size k v l r n
  obtain ⟨q, hq⟩ : ∃ q, encS k v l r n = q := ⟨_, rfl⟩
  have HA : Hid (∀ w', Calls Tryz.prog 40 #[.agg #[.string k, .string v, .string l, .string r], .int .i64 n] w' fun e w'' => e = .returned (.string q) ∧ Below w'.heap.size w' w'') := fun w' => (enc_any k v l r n w' hk hv hl hr).mono (by rintro e w'' ⟨t, rfl, HX, hb⟩; exact ⟨by rw [HX.out, hq], hb⟩)
  have HR : Hid (hashS k v l r n = if q.size = 0 then ⟨#[]⟩ else ⟨((sha (78 :: q.data.toList)).take n.toNat).toArray⟩) := by show _ = _; unfold hashS; rw [hq]
  rw [hq] at hsz
  clear hq hk hv hl hr
  by_cases h0 : q.size = 0
  · have z : ((q.size : Int) == 0) = true := by rw [h0]; rfl
    go_enter Tryz.func119, Tryz.ntmps119
    go_wp2_with (first | (go_at_call 40; refine (HA.out _).mono ?_; rintro e w1 ⟨rfl, hb1⟩))
    go_ret
    refine ⟨_, rfl, ?_, ((Below.refl _ w).alloc (Nat.le_refl _) _).trans (hb1.mono (by simp))⟩
    show _ = _
    rw [HR.out, if_pos h0]
  · have z : ((q.size : Int) == 0) = false := by rw [beq_eq_false_iff_ne]; omega
    obtain ⟨m, rfl⟩ := Int.eq_ofNat_of_zero_le (show 0 ≤ n by have := hsz.2 h0; omega)
    have hm := hsz.2 h0
    have HD : Hid (∀ (t : ByteArray) w', t.size ≤ 10001 → Calls Tryz.prog 23 #[.string t, .int .i64 (m : Int)] w' fun e w'' => e = .returned (.string ⟨((sha t.data.toList).take m).toArray⟩) ∧ Below w'.heap.size w' w'') := fun t w' ht => sdig_yes t m w' (by omega) (by omega) (by omega)
    go_enter Tryz.func119, Tryz.ntmps119
    go_wp2_with (first | (go_at_call 40; refine (HA.out _).mono ?_; rintro e w1 ⟨rfl, hb1⟩) | (go_at_call 39; refine (text_any q _ hsz.1).mono ?_; rintro e w2 ⟨t, rfl, ht, HT, rfl⟩) | (go_at_call 23; refine (HD.out t _ ht).mono ?_; rintro e w3 ⟨rfl, hb3⟩))
    go_ret
    have hw1 : Below w.heap.size w w1 := ((Below.refl _ w).alloc (Nat.le_refl _) _).trans (hb1.mono (by simp))
    refine ⟨_, rfl, ?_, hw1.trans (hb3.mono hw1.size)⟩
    show _ = _
    rw [HR.out, if_neg h0, HT.out, Int.toNat_natCast]
end Go.Proofs.YtibjhkpgaaapaaaGreatDoor
