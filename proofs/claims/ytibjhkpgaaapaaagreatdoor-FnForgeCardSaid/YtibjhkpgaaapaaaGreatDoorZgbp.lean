import Derived.Test.YtibjhkpgaaapaaaGreatDoorZgbo
import Derived.Test.YtibjhkpgaaapaaaGreatDoorZgbb
import Derived.Test.YtibjhkpgaaapaaaGreatDoorZgbc
import Derived.Test.YtibjhkpgaaapaaaGreatDoorZgax
import Derived.Test.YtibjhkpgaaapaaaGreatDoorZgbm
import Derived.Test.YtibjhkpgaaapaaaGreatDoorZgbl
import Derived.Test.YtibjhkpgaaapaaaGreatDoorZgai
import Derived.Test.YtibjhkpgaaapaaaGreatDoorZgak
set_option maxRecDepth 100000
set_option maxHeartbeats 1000000
namespace Go.Proofs.YtibjhkpgaaapaaaGreatDoor
open Go.RowKit Go.Proofs.Sha

theorem ssave_any (HD : Hid DigSaid) (n : Int) (a : Option Addr) (ss : List ByteArray) (c : Nat) (a2 : Option Addr) (ps : List PairT) (c2 : Nat) (w : World) (h : SArg a ss w) (hq : Hid (∀ j, (ss.getD j ⟨#[]⟩).size ≤ 1048575)) (h2 : PArg a2 ps w) (hc2 : ps.length ≤ c2) :
    Calls Tryz.prog 33 #[.agg #[.int .i64 n, .slice a ss.length c], .slice a2 ps.length c2] w (SavedIs (saveO n ss ps) w) := by
  by_cases hpm : (poolOk n ss.length && isMapT ps) = true
  · have hp2 := (Bool.and_eq_true _ _).mp hpm
    have hp' : 1 ≤ n ∧ n ≤ 32 ∧ ss.length ≤ 20000 := of_decide_eq_true hp2.1
    obtain ⟨wd, rfl⟩ : ∃ wd : Nat, n = (wd : Int) := ⟨n.toNat, by omega⟩
    have ho : saveO (wd : Int) ss ps = savO wd ss (cutTree ps) := by unfold saveO; rw [if_pos hpm]; rfl
    rw [ho]
    exact ssave_yes HD wd a ss c a2 ps c2 w h hq h2 hc2 (by omega) (by omega) hp'.2.2 hp2.2
  have ho : saveO n ss ps = codeO 1 := by unfold saveO; rw [if_neg hpm]
  rw [ho]
  have HV : Hid (∀ w', Calls Tryz.prog 79 #[.agg #[.int .i64 n, .slice a ss.length c]] w' fun e w'' => e = .returned (.bool (poolOk n ss.length)) ∧ Below w'.heap.size w' w'') := fun w' => poolOk_any n a ss.length c w' h.le
  have HM : Hid (∀ w', Below w.heap.size w w' → Calls Tryz.prog 68 #[.slice a2 ps.length c2] w' fun e w'' => e = .returned (.bool (isMapT ps)) ∧ Below w'.heap.size w' w'') := fun w' hb => mapOk_any a2 ps c2 w' (h2.below hb)
  have hbA : Below w.heap.size w ((w.alloc (.cells #[.int .i64 n, .slice a ss.length c] 31)).alloc (.cells #[.int .i64 0, .int .i64 0, .slice none 0 0, .string ⟨#[]⟩, .string ⟨#[]⟩, .string ⟨#[]⟩] 56)) := ((Below.refl _ _).alloc (Nat.le_refl _) _).alloc (by simp) _
  have nB := heap_alloc_new (w.alloc (.cells #[.int .i64 n, .slice a ss.length c] 31)) (.cells #[.int .i64 0, .int .i64 0, .slice none 0 0, .string ⟨#[]⟩, .string ⟨#[]⟩, .string ⟨#[]⟩] 56)
  have nA := (Below.heap_alloc (w.alloc (.cells #[.int .i64 n, .slice a ss.length c] 31)) (.cells #[.int .i64 0, .int .i64 0, .slice none 0 0, .string ⟨#[]⟩, .string ⟨#[]⟩, .string ⟨#[]⟩] 56) w.heap.size (by simp)).trans (heap_alloc_new w _)
  rw [World.size_alloc] at nB
  obtain ⟨gp, hgp⟩ : ∃ g, w.heap.size = g := ⟨_, rfl⟩
  have hge' : w.heap.size ≤ gp + 1 := by omega
  clear h h2 ho
  go_enter Tryz.func33, Tryz.ntmps33
  go_upto_region 1 with fail
  generalize (w.alloc (.cells #[.int .i64 n, .slice a ss.length c] 31)).alloc (.cells #[.int .i64 0, .int .i64 0, .slice none 0 0, .string ⟨#[]⟩, .string ⟨#[]⟩, .string ⟨#[]⟩] 56) = wA at hbA nA nB ⊢
  try rw [hgp]
  rw [hgp] at nA nB
  have p0 := Lib.cell_of_heap nA 0
  have p1 := Lib.cell_of_heap nA 1
  have HB : Hid (∀ W, Below wA.heap.size wA W → Below w.heap.size w W ∧ SB (gp + 1) 0 0 none 0 0 ⟨#[]⟩ ⟨#[]⟩ ⟨#[]⟩ W) := fun W hW => ⟨hbA.trans (hW.mono hbA.size), pblk_below hW nB⟩
  cases hp : poolOk n ss.length with
  | false =>
    rw [hp] at HV
    go_wp2_with (first | (go_at_call 79; refine (HV.out _).mono ?_; rintro e w1 ⟨rfl, hb1⟩; obtain ⟨hbw, hB1⟩ := HB.out _ hb1; obtain ⟨d0, d1, d2, d3, d4, d5, df⟩ := hB1.at))
    exact retS Tryz.results33 rfl rfl (hB1.all 1 0 none 0 0 ⟨#[]⟩ ⟨#[]⟩ ⟨#[]⟩) (SavedIs.code hbw hB1 hge')
  | true =>
    have hm : isMapT ps = false := by
      cases hm : isMapT ps with
      | false => rfl
      | true => exact absurd (by rw [hp, hm]; rfl) hpm
    rw [hp] at HV
    rw [hm] at HM
    go_wp2_with (first | (go_at_call 79; refine (HV.out _).mono ?_; rintro e w1 ⟨rfl, hb1⟩) | (go_at_call 68; refine (HM.out _ (hbA.trans (hb1.mono hbA.size))).mono ?_; rintro e w2 ⟨rfl, hb2⟩; obtain ⟨hbw, hB1⟩ := HB.out _ (hb1.trans (hb2.mono hb1.size)); obtain ⟨d0, d1, d2, d3, d4, d5, df⟩ := hB1.at))
    exact retS Tryz.results33 rfl rfl (hB1.all 1 0 none 0 0 ⟨#[]⟩ ⟨#[]⟩ ⟨#[]⟩) (SavedIs.code hbw hB1 hge')
theorem wout_mem {ps : List PairT} {k : ByteArray} {p : PairT} (h : p ∈ wout ps k) : p ∈ ps := (List.mem_filter.1 h).1
theorem ins_mem {k v : ByteArray} : ∀ {ps : List PairT} {p : PairT}, p ∈ ins k v ps → p = (k, v) ∨ p ∈ ps
  | [], p, h => .inl (List.mem_singleton.1 h)
  | q :: qs, p, h => by
    rw [ins] at h
    split at h
    · exact List.mem_cons.1 h
    · rcases List.mem_cons.1 h with h | h
      · exact .inr (by rw [h]; exact List.mem_cons_self ..)
      · rcases ins_mem h with h | h
        · exact .inl h
        · exact .inr (List.mem_cons_of_mem _ h)
theorem ins_len (k v : ByteArray) : ∀ (ps : List PairT), (ins k v ps).length = ps.length + 1
  | [] => rfl
  | q :: qs => by
    rw [ins]
    split
    · rfl
    · rw [List.length_cons, ins_len k v qs]; rfl
theorem wth_mem {ps : List PairT} {k v : ByteArray} {p : PairT} (h : p ∈ wth ps k v) : p = (k, v) ∨ p ∈ ps := by
  rcases ins_mem h with h | h
  · exact .inl h
  · exact .inr (wout_mem h)
theorem wthLen (ps : List PairT) (k v : ByteArray) : (wth ps k v).length ≤ ps.length + 1 := by
  unfold wth
  rw [ins_len]
  have := wout_le ps k
  omega
theorem smallP_of {ps : List PairT} (h : ps.length ≤ 1048576) (hs : ∀ p ∈ ps, p.1.size ≤ 1048576 ∧ p.2.size ≤ 1048576) : SmallP ps := by
  refine ⟨h, fun j => ?_⟩
  by_cases hj : j < ps.length
  · rw [getD_lt ps j hj]
    exact hs _ (List.getElem_mem _)
  · rw [pget_out ps j (by omega)]
    exact noP_small
theorem own2_le {w : World} {base n m c : Nat} {a : Option Addr} {xs : List Value} (h : w.ownsRow base 81 2 (.slice a m c) n xs) : m ≤ c := by
  rcases h.2 with ⟨e, h0⟩ | ⟨g, cap, cur, e, hb, hg, q1, q2, q3, q4⟩
  · simp only [Value.slice.injEq] at e; omega
  · simp only [Value.slice.injEq] at e
    omega
theorem less_nil (k : ByteArray) : lessB k ⟨#[]⟩ = false := by
  unfold lessB
  rw [ByteArray.toList_eq, ByteArray.toList_eq]
  cases k.data.toList <;> rfl
theorem nil_less {k : ByteArray} (h : emp k = false) : lessB ⟨#[]⟩ k = true := by
  unfold emp at h
  have h1 : ¬ k.size = 0 := of_decide_eq_false h
  unfold lessB
  rw [ByteArray.toList_eq, ByteArray.toList_eq]
  have h2 : ¬ k.data.toList.length = 0 := h1
  cases hk : k.data.toList with
  | nil => rw [hk] at h2; exact absurd rfl h2
  | cons x xs => simp [Op.bytesLess]
theorem canW_all (over under : ByteArray) : canW over under ⟨#[]⟩ ⟨#[]⟩ = true := by
  unfold canW
  have e0 : emp ⟨#[]⟩ = true := rfl
  rw [e0, Bool.true_or, Bool.true_and]
  cases h : emp under with
  | true => rfl
  | false => rw [nil_less h]; rfl
theorem hasW_all (k : ByteArray) : hasW ⟨#[]⟩ ⟨#[]⟩ k = true := by
  unfold hasW
  rw [less_nil]
  rfl
theorem less_le {a b c : ByteArray} (h : lessB a b = true) (k : lessB c b = false) : lessB a c = true := by
  by_cases e : b = c
  · subst e; exact h
  · have := lessB_or c b k (fun q => e q.symm)
    exact lessB_tr h this
theorem canW_no {over under lo hi x : ByteArray} (h : canW over under lo hi = false) (h1 : lessB over x = true) (h2 : emp under = true ∨ lessB x under = true) : hasW lo hi x = false := by
  unfold canW at h
  unfold hasW
  rcases Bool.and_eq_false_iff.1 h with h | h
  · rcases Bool.or_eq_false_iff.1 h with ⟨he, hb⟩
    rw [he, Bool.false_or]
    rcases Bool.and_eq_false_iff.1 hb with hb | hb
    · cases hx : lessB x hi with
      | false => rw [Bool.and_false]
      | true => rw [less_le hx hb]; rfl
    · cases hx : lessB x hi with
      | false => rw [Bool.and_false]
      | true =>
        have := lessB_tr h1 hx
        rw [this] at hb
        cases hb
  · rcases Bool.or_eq_false_iff.1 h with ⟨he, hb⟩
    rcases h2 with h2 | h2
    · rw [h2] at he; cases he
    · rw [less_le h2 hb]; rfl
/-- Where a whole tree loads, a range is the part of it that is within the bounds. -/
theorem goF_range {fnd : ByteArray → FN} {hg : ByteArray → ByteArray → Bool} {wd : Nat} (hfo : FndOk wd fnd) (lo hi : ByteArray) : ∀ (f : Nat) (hash over under par : ByteArray) (cnt cnt' : Nat), cnt' ≤ cnt → cnt ≤ 500 → (goF fnd hg ⟨#[]⟩ ⟨#[]⟩ f hash over under par cnt).1 = 0 →
    (goF fnd hg lo hi f hash over under par cnt').1 = 0 ∧ (goF fnd hg lo hi f hash over under par cnt').2.1 ≤ (goF fnd hg ⟨#[]⟩ ⟨#[]⟩ f hash over under par cnt).2.1 ∧ (goF fnd hg lo hi f hash over under par cnt').2.2 = (goF fnd hg ⟨#[]⟩ ⟨#[]⟩ f hash over under par cnt).2.2.filter (fun p => hasW lo hi p.1)
  | 0, _, _, _, _, _, _, _, _, h => by rw [goF] at h; exact absurd h (by decide)
  | f + 1, hash, over, under, par, cnt, cnt', hc, h5, h => by
    have hup := (goF_up (hg := hg) (lo := ⟨#[]⟩) (hi := ⟨#[]⟩) hfo (f + 1) hash over under par cnt).2
    cases he : emp hash with
    | true =>
      have s1 : (emp hash || !canW over under ⟨#[]⟩ ⟨#[]⟩) = true := by rw [he]; rfl
      have s2 : (emp hash || !canW over under lo hi) = true := by rw [he]; rfl
      rw [goF_skip s1, goF_skip s2]
      exact ⟨rfl, hc, rfl⟩
    | false =>
      have s1 : (emp hash || !canW over under ⟨#[]⟩ ⟨#[]⟩) = false := by rw [he, canW_all]; rfl
      by_cases h2 : (fnd hash).2 = 2
      · rw [goF_missing s1 h2] at h; exact absurd h (by decide)
      · by_cases h20 : (fnd hash).2 = 0
        · cases h3 : (insW over under (fnd hash).1.1 && parW hg par (fnd hash).1.1) with
          | false => rw [goF_place s1 h20 h3] at h; exact absurd h (by decide)
          | true =>
            by_cases h4 : 500 < cnt + 1
            · rw [goF_many s1 h20 h3 h4] at h; exact absurd h (by decide)
            · have e : fnd hash = (((fnd hash).1.1, (fnd hash).1.2.1, (fnd hash).1.2.2.1, (fnd hash).1.2.2.2), 0) := by rw [← h20]
              have hn := goF_node (cnt := cnt) (f := f) s1 e h3 (by omega) rfl rfl
              rw [hn] at h hup ⊢
              have hL0 : (goF fnd hg ⟨#[]⟩ ⟨#[]⟩ f (fnd hash).1.2.2.1 over (fnd hash).1.1 (fnd hash).1.1 (cnt + 1)).1 = 0 := by
                by_cases q : (goF fnd hg ⟨#[]⟩ ⟨#[]⟩ f (fnd hash).1.2.2.1 over (fnd hash).1.1 (fnd hash).1.1 (cnt + 1)).1 = 0
                · exact q
                · rw [if_pos q] at h; exact absurd h q
              rw [if_neg (by rw [hL0]; simp)] at h hup ⊢
              have hR0 : (goF fnd hg ⟨#[]⟩ ⟨#[]⟩ f (fnd hash).1.2.2.2 (fnd hash).1.1 under (fnd hash).1.1 (goF fnd hg ⟨#[]⟩ ⟨#[]⟩ f (fnd hash).1.2.2.1 over (fnd hash).1.1 (fnd hash).1.1 (cnt + 1)).2.1).1 = 0 := by
                by_cases q : (goF fnd hg ⟨#[]⟩ ⟨#[]⟩ f (fnd hash).1.2.2.2 (fnd hash).1.1 under (fnd hash).1.1 (goF fnd hg ⟨#[]⟩ ⟨#[]⟩ f (fnd hash).1.2.2.1 over (fnd hash).1.1 (fnd hash).1.1 (cnt + 1)).2.1).1 = 0
                · exact q
                · rw [if_pos q] at h; exact absurd h q
              rw [if_neg (by rw [hR0]; simp)] at h hup ⊢
              rw [hasW_all, if_pos rfl] at hup ⊢
              have hcl := goF_cnt (fnd := fnd) (hg := hg) (lo := ⟨#[]⟩) (hi := ⟨#[]⟩) f (fnd hash).1.2.2.1 over (fnd hash).1.1 (fnd hash).1.1 (cnt + 1) (by omega) hL0
              have hcr := goF_cnt (fnd := fnd) (hg := hg) (lo := ⟨#[]⟩) (hi := ⟨#[]⟩) f (fnd hash).1.2.2.2 (fnd hash).1.1 under (fnd hash).1.1 _ hcl.2 hR0
              cases hcw : canW over under lo hi with
              | false =>
                have s2 : (emp hash || !canW over under lo hi) = true := by rw [hcw, Bool.not_false, Bool.or_true]
                rw [goF_skip s2]
                refine ⟨rfl, ?_, ?_⟩
                · show cnt' ≤ _
                  have := hcl.1
                  have := hcr.1
                  simp only
                  omega
                · symm
                  refine filter_no fun p hp => ?_
                  have := hup p.1 (mem_keys hp)
                  exact canW_no hcw this.1 this.2
              | true =>
                have s2 : (emp hash || !canW over under lo hi) = false := by rw [he, hcw]; rfl
                obtain ⟨a1, a2, a3⟩ := goF_range hfo lo hi f (fnd hash).1.2.2.1 over (fnd hash).1.1 (fnd hash).1.1 (cnt + 1) (cnt' + 1) (by omega) (by omega) hL0
                obtain ⟨b1, b2, b3⟩ := goF_range hfo lo hi f (fnd hash).1.2.2.2 (fnd hash).1.1 under (fnd hash).1.1 _ _ a2 hcl.2 hR0
                rw [goF_node s2 e h3 (by omega) rfl rfl, if_neg (by rw [a1]; simp), if_neg (by rw [b1]; simp)]
                refine ⟨rfl, b2, ?_⟩
                simp only [List.filter_append]
                rw [a3, b3]
                congr 2
                rw [List.filter_cons]
                split <;> rfl
        · rw [goF, if_neg (by rw [s1]; decide), if_neg h2, if_pos h20] at h; exact absurd h (by decide)
/-- A slice of bytes that was handed in, and what it holds. -/
structure BL (a : Option Addr) (xs : List Nat) (w : World) : Prop where
  at_ : 0 < xs.length → ∃ b off : Nat, a = some ⟨b, off, none⟩ ∧ b < w.heap.size ∧ ∀ j, j < xs.length → w.cell? ⟨b, off + j, none⟩ = some (.int .u8 ((xs.getD j 0 : Nat) : Int))
theorem BL.below {a : Option Addr} {xs : List Nat} {w w' : World} (h : BL a xs w) (hb : Below w.heap.size w w') : BL a xs w' := by
  refine ⟨fun hn => ?_⟩
  obtain ⟨b, off, ha, hlt, hc⟩ := h.at_ hn
  exact ⟨b, off, ha, Nat.lt_of_lt_of_le hlt hb.size, fun j hj => (hb.cell hlt).trans (hc j hj)⟩
/-- The bytes of a code. -/
structure Code8 (xs : List Nat) : Prop where
  le : xs.length ≤ 1048576
  lt : ∀ j, xs.getD j 0 < 256

theorem i64_xor_nat (a b : Nat) (ha : a < 4294967296) (hb : b < 4294967296) : bits .xor .i64 (a : Int) (b : Int) = ((a ^^^ b : Nat) : Int) := by
  have hx : a ^^^ b < 2 ^ 32 := Nat.xor_lt_two_pow (by omega) (by omega)
  show IntKind.i64.wrap ((BitVec.ofInt 64 (a : Int) ^^^ BitVec.ofInt 64 (b : Int)).toNat : Int) = _
  rw [BitVec.toNat_xor, ofInt_u64 a (by omega), ofInt_u64 b (by omega)]
  exact wrap_i64_in _ (by omega) (by omega)

theorem take_det (a : Option Addr) (xs : List Nat) (cap : Nat) (p m : Nat) (hX : Code8 xs) (hp : p ≤ 100000) (hm1 : 1 ≤ m) (hm : m ≤ 100000) :
    ∃ x : Nat, x < m ∧ ∀ w, BL a xs w → Calls Tryz.prog 58 #[.slice a xs.length cap, .int .i64 (p : Int), .int .i64 (m : Int)] w fun e w' => e = .returned (.tuple #[.int .i64 (x : Int), .int .i64 ((p + 1 : Nat) : Int)]) ∧ Below w.heap.size w w' := by
  have z0 : decide ((m : Int) < 1) = false := by simp; omega
  have hn := hX.le
  have y1 : IntKind.i64.wrap ((p : Int) + 1) = ((p + 1 : Nat) : Int) := by rw [wrap_i64_in _ (by omega) (by omega)]; omega
  obtain ⟨n, hnn⟩ : ∃ n, xs.length = n := ⟨_, rfl⟩
  rw [hnn] at hn ⊢
  by_cases h0 : n = 0
  · subst h0
    refine ⟨0, hm1, fun w h => ?_⟩
    go_enter Tryz.func58, Tryz.ntmps58
    go_wp2_with fail
    go_ret2
    exact ⟨rfl, Below.refl _ _⟩
  · have z1 : ((n : Int) == 0) = false := by rw [beq_eq_false_iff_ne]; omega
    by_cases h1 : p < n ∧ m ≤ 256
    · have z2 : decide ((p : Int) < (n : Int)) = true := by simp; omega
      have z3 : decide ((m : Int) ≤ 256) = true := by simp; omega
      obtain ⟨x, hx⟩ : ∃ x, xs.getD p 0 = x := ⟨_, rfl⟩
      have hxl : x < 256 := by rw [← hx]; exact hX.lt p
      refine ⟨x % m, Nat.mod_lt _ (by omega), fun w h => ?_⟩
      obtain ⟨b, off, rfl, hlt, hc⟩ := h.at_ (by omega)
      have hcx := hc p (by omega)
      rw [hx] at hcx
      clear hc
      go_enter Tryz.func58, Tryz.ntmps58
      go_wp2_with fail
      go_ret2
      exact ⟨rfl, Below.refl _ _⟩
    · obtain ⟨i1, hi1⟩ : ∃ i, p % n = i := ⟨_, rfl⟩
      obtain ⟨i2, hi2⟩ : ∃ i, (p * 7 + 3) % n = i := ⟨_, rfl⟩
      have l1 : i1 < n := by rw [← hi1]; exact Nat.mod_lt _ (by omega)
      have l2 : i2 < n := by rw [← hi2]; exact Nat.mod_lt _ (by omega)
      obtain ⟨x, hx'⟩ : ∃ x, xs.getD i1 0 = x := ⟨_, rfl⟩
      obtain ⟨y, hy'⟩ : ∃ x, xs.getD i2 0 = x := ⟨_, rfl⟩
      have hx : x < 256 := by rw [← hx']; exact hX.lt i1
      have hy : y < 256 := by rw [← hy']; exact hX.lt i2
      obtain ⟨d, hd⟩ : ∃ d, p / n = d := ⟨_, rfl⟩
      have hdp : d ≤ p := by rw [← hd]; exact Nat.div_le_self _ _
      have u1 : (p : Int) % (n : Int) = (i1 : Int) := by rw [← hi1]; rfl
      have u2 : ((p : Int) * 7 + 3) % (n : Int) = (i2 : Int) := by rw [← hi2]; rfl
      have u3 : (p : Int) / (n : Int) = (d : Int) := by rw [← hd]; rfl
      have z2 : (decide ((p : Int) < (n : Int)) && decide ((m : Int) ≤ 256)) = false := by
        rw [Bool.and_eq_false_iff]
        by_cases g : p < n
        · exact .inr (by simp; omega)
        · exact .inl (by simp; omega)
      clear hi1 hi2 hd
      obtain ⟨Y, HY⟩ : ∃ Y : Nat, Hid ((bits .xor .i64 ((x : Int) * 131 + (y : Int) * 1117 + (p : Int) * 29 + (d : Int) * 53) (((x : Int) * 131 + (y : Int) * 1117 + (p : Int) * 29 + (d : Int) * 53) / 64)) = (Y : Int)) :=
        ⟨_, i64_xor_nat (x * 131 + y * 1117 + p * 29 + d * 53) ((x * 131 + y * 1117 + p * 29 + d * 53) / 64) (by omega) (by omega)⟩
      have HR : Hid ((bits .xor .i64 ((x : Int) * 131 + (y : Int) * 1117 + (p : Int) * 29 + (d : Int) * 53) (((x : Int) * 131 + (y : Int) * 1117 + (p : Int) * 29 + (d : Int) * 53) / 64)).tmod (m : Int) = ((Y % m : Nat) : Int)) := by
        show _ = _
        rw [HY.out]; rfl
      refine ⟨Y % m, Nat.mod_lt _ (by omega), fun w h => ?_⟩
      obtain ⟨b, off, rfl, hlt, hc⟩ := h.at_ (by omega)
      have hcx := hc i1 (by omega)
      have hcy := hc i2 (by omega)
      rw [hx'] at hcx
      rw [hy'] at hcy
      clear hc
      by_cases g : p < n
      · have z3 : decide ((p : Int) < (n : Int)) = true := by simp; omega
        have z4 : decide ((m : Int) ≤ 256) = false := by simp; omega
        go_enter Tryz.func58, Tryz.ntmps58
        go_wp2_with fail
        go_ret2
        exact ⟨by rw [HR.out]; rfl, Below.refl _ _⟩
      · have z3 : decide ((p : Int) < (n : Int)) = false := by simp; omega
        go_enter Tryz.func58, Tryz.ntmps58
        go_wp2_with fail
        go_ret2
        exact ⟨by rw [HR.out]; rfl, Below.refl _ _⟩

theorem width_det (a : Option Addr) (xs : List Nat) (cap : Nat) (p : Nat) (hX : Code8 xs) (hp : p ≤ 100000) :
    ∃ x : Nat, (1 ≤ x ∧ x ≤ 32) ∧ ∀ w, BL a xs w → Calls Tryz.prog 73 #[.slice a xs.length cap, .int .i64 (p : Int)] w fun e w' => e = .returned (.tuple #[.int .i64 (x : Int), .int .i64 ((p + 1 : Nat) : Int)]) ∧ Below w.heap.size w w' := by
  obtain ⟨x, hx, HT⟩ := take_det a xs cap p 10 hX hp (by omega) (by omega)
  replace HT : Hid _ := HT
  by_cases h3 : x < 3
  · have z1 : decide ((x : Int) < 3) = true := by simp; omega
    refine ⟨1, by omega, fun w h => ?_⟩
    go_enter Tryz.func73, Tryz.ntmps73
    go_wp2_with fail
    refine (HT.out w h).mono ?_
    rintro e w1 ⟨rfl, hb⟩
    go_wp2_with fail
    go_ret2
    exact ⟨rfl, hb⟩
  have z1 : decide ((x : Int) < 3) = false := by simp; omega
  by_cases h5 : x < 5
  · have z2 : decide ((x : Int) < 5) = true := by simp; omega
    refine ⟨2, by omega, fun w h => ?_⟩
    go_enter Tryz.func73, Tryz.ntmps73
    go_wp2_with fail
    refine (HT.out w h).mono ?_
    rintro e w1 ⟨rfl, hb⟩
    go_wp2_with fail
    go_ret2
    exact ⟨rfl, hb⟩
  have z2 : decide ((x : Int) < 5) = false := by simp; omega
  by_cases h7 : x < 7
  · have z3 : decide ((x : Int) < 7) = true := by simp; omega
    refine ⟨32, by omega, fun w h => ?_⟩
    go_enter Tryz.func73, Tryz.ntmps73
    go_wp2_with fail
    refine (HT.out w h).mono ?_
    rintro e w1 ⟨rfl, hb⟩
    go_wp2_with fail
    go_ret2
    exact ⟨rfl, hb⟩
  have z3 : decide ((x : Int) < 7) = false := by simp; omega
  refine ⟨x, by omega, fun w h => ?_⟩
  go_enter Tryz.func73, Tryz.ntmps73
  go_wp2_with fail
  refine (HT.out w h).mono ?_
  rintro e w1 ⟨rfl, hb⟩
  go_wp2_with fail
  go_ret2
  exact ⟨rfl, hb⟩
/-- A number in four bytes, the lowest first. -/
def four (n : Nat) : List UInt8 := [UInt8.ofNat (n % 256), UInt8.ofNat (n / 256 % 256), UInt8.ofNat (n / 65536 % 256), UInt8.ofNat (n / 16777216 % 256)]

theorem four_any (n : Nat) (hn : n ≤ 1048576) (w : World) :
    Calls Tryz.prog 185 #[.int .i64 (n : Int)] w fun e w' => ∃ t : ByteArray, e = .returned (.string t) ∧ t.size ≤ 4 ∧ Hid (t = T (four n)) ∧ Below w.heap.size w w' := by
  go_enter Tryz.func185, Tryz.ntmps185
  go_wp2_with fail
  refine (byte_i _ (by omega) (by omega) _).mono ?_
  rintro e w1 ⟨t1, rfl, hz1, HT1, hb1⟩
  go_wp2_with fail
  refine (byte_i _ (by omega) (by omega) _).mono ?_
  rintro e w2 ⟨t2, rfl, hz2, HT2, hb2⟩
  go_wp2_with fail
  refine (byte_i _ (by omega) (by omega) _).mono ?_
  rintro e w3 ⟨t3, rfl, hz3, HT3, hb3⟩
  go_wp2_with fail
  refine (byte_i _ (by omega) (by omega) _).mono ?_
  rintro e w4 ⟨t4, rfl, hz4, HT4, hb4⟩
  have hf : ¬ (9223372036854775807 < t1.size + t2.size + t3.size + t4.size) := by omega
  go_wp2
  go_ret
  refine ⟨t1 ++ t2 ++ t3 ++ t4, rfl, by simp only [ByteArray.size_append]; omega, ?_, ((hb1.trans (hb2.mono hb1.size)).trans (hb3.mono (Nat.le_trans hb1.size hb2.size))).trans (hb4.mono (Nat.le_trans (Nat.le_trans hb1.size hb2.size) hb3.size))⟩
  show t1 ++ t2 ++ t3 ++ t4 = T (four n)
  rw [HT1.out, HT2.out, HT3.out, HT4.out, byteS_T, byteS_T, byteS_T, byteS_T, T_append, T_append, T_append]
  have e1 : ((n : Int) % 256).toNat = n % 256 := by omega
  have e2 : ((n : Int) / 256 % 256).toNat = n / 256 % 256 := by omega
  have e3 : ((n : Int) / 65536 % 256).toNat = n / 65536 % 256 := by omega
  have e4 : ((n : Int) / 16777216 % 256).toNat = n / 16777216 % 256 := by omega
  rw [e1, e2, e3, e4]; rfl

def reps (n : Nat) (c : UInt8) : ByteArray := T (List.replicate n c)
theorem reps_size (n : Nat) (c : UInt8) : (reps n c).size = n := by unfold reps; rw [T_size, List.length_replicate]
theorem reps_add (n m : Nat) (c : UInt8) : reps n c ++ reps m c = reps (n + m) c := by unfold reps; rw [T_append, List.replicate_append_replicate]

theorem long_any (c : UInt8) (n : Nat) : ∀ (_hn : n ≤ 1048576) (w : World),
    Calls Tryz.prog 134 #[.int .i64 (n : Int), .string ⟨#[c]⟩] w fun e w' => ∃ t : ByteArray, e = .returned (.string t) ∧ t.size = n ∧ Hid (t = reps n c) ∧ Below w.heap.size w w' := by
  induction n using Nat.strongRecOn with
  | ind n ih =>
  intro hn w
  have hU : Hid ((⟨#[c]⟩ : ByteArray) = reps 1 c ∧ (⟨#[c]⟩ : ByteArray).size = 1) := ⟨rfl, rfl⟩
  by_cases h0 : 0 < n
  · have z0 : decide ((0 : Int) < (n : Int)) = true := by simp; omega
    have hu : (⟨#[c]⟩ : ByteArray).size = 1 := rfl
    obtain ⟨u, hu'⟩ : ∃ u : ByteArray, ⟨#[c]⟩ = u := ⟨_, rfl⟩
    rw [hu'] at hU hu ih ⊢
    clear hu'
    go_enter Tryz.func134, Tryz.ntmps134
    go_wp2_with fail
    go_loopw [5] (fun t wr => ∃ (m : Nat) (x : ByteArray), 1 ≤ m ∧ m ≤ n ∧ t = .string x ∧ x.size = m ∧ Hid (x = reps m c) ∧ wr = w) (fun t _ => n - (match t with | .string x => x.size | _ => 0))
    case atStart => exact ⟨1, u, by omega, by omega, rfl, hu, hU.out.1, rfl⟩
    case round =>
      obtain ⟨m, x, hm1, hm2, rfl, hx, HX, rfl⟩ := hrel
      by_cases h1 : 2 * m ≤ n
      · have z1 : decide ((x.size : Int) * 2 ≤ (n : Int)) = true := by simp; omega
        go_wp2_with fail
        refine ⟨⟨m + m, x ++ x, by omega, by omega, rfl, by rw [ByteArray.size_append, hx], ?_, trivial⟩, ?_⟩
        · show x ++ x = _
          rw [HX.out, reps_add]
        · show n - (x ++ x).size < n - x.size
          rw [ByteArray.size_append, hx]; omega
      · have z1 : decide ((x.size : Int) * 2 ≤ (n : Int)) = false := by simp; omega
        by_cases h2 : m < n
        · have z2 : decide ((x.size : Int) < (n : Int)) = true := by simp; omega
          have z3 : IntKind.i64.wrap ((n : Int) - (m : Int)) = ((n - m : Nat) : Int) := by rw [wrap_i64_in _ (by omega) (by omega)]; omega
          go_wp2_with fail
          refine (ih (n - m) (by omega) (by omega) _).mono ?_
          rintro e w1 ⟨t, rfl, ht, HT, hb⟩
          have z4 : ¬ (9223372036854775807 < x.size + t.size) := by omega
          go_wp2
          go_ret
          refine ⟨x ++ t, rfl, by rw [ByteArray.size_append]; omega, ?_, hb⟩
          show x ++ t = _
          rw [HX.out, HT.out, reps_add]
          congr 1
          omega
        · have z2 : decide ((x.size : Int) < (n : Int)) = false := by simp; omega
          go_wp2
          go_ret
          exact ⟨x, rfl, by omega, by show x = _; rw [HX.out]; congr 1; omega, Below.refl _ _⟩
  · have hn0 : n = 0 := by omega
    subst hn0
    clear ih
    go_enter Tryz.func134, Tryz.ntmps134
    go_wp2_with fail
    go_loopw [5] (fun t wr => t = .string ⟨#[]⟩ ∧ wr = w) (fun _ _ => 0)
    case atStart => exact ⟨rfl, rfl⟩
    case round =>
      obtain ⟨rfl, rfl⟩ := hrel
      go_wp2
      go_ret
      exact ⟨⟨#[]⟩, rfl, rfl, rfl, Below.refl _ _⟩
end Go.Proofs.YtibjhkpgaaapaaaGreatDoor
