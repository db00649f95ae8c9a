import Derived.Test.YtdnbhejacpjgfaaGreatDoorZbe
import Derived.Test.YtdnbhejacpjgfaaGreatDoorZbq
import Derived.Test.YtdnbhejacpjgfaaGreatDoorZbs
import Derived.Test.YtdnbhejacpjgfaaGreatDoorZbx
import Derived.ProofKit
import Derived.OpenShut
import Derived.ChangeSlices
import Derived.Deep.Strs
import Derived.Lib.SmallJoins
namespace Go.Proofs.YtdnbhejacpjgfaaGreatDoor
open Go.RowKit Go.Proofs.Sha

theorem goF_ok {fnd : ByteArray → FN} {hg : ByteArray → ByteArray → Bool} {lo hi : ByteArray} {wd : Nat} (hfo : FndOk wd fnd) : ∀ (f : Nat) (hash over under par : ByteArray) (cnt : Nat), ∀ p ∈ (goF fnd hg lo hi f hash over under par cnt).2.2, okKey p.1 = true ∧ okVal p.2 = true
  | 0, _, _, _, _, _, p, hp => by rw [goF] at hp; cases hp
  | f + 1, hash, over, under, par, cnt, p, hp => by
    cases h1 : (emp hash || !canW over under lo hi) with
    | true => rw [goF_skip h1] at hp; cases hp
    | false =>
      by_cases h2 : (fnd hash).2 = 2
      · rw [goF_missing h1 h2] at hp; cases hp
      · by_cases h20 : (fnd hash).2 = 0
        · cases h3 : (insW over under (fnd hash).1.1 && parW hg par (fnd hash).1.1) with
          | false => rw [goF_place h1 h20 h3] at hp; cases hp
          | true =>
            by_cases h4 : 500 < cnt + 1
            · rw [goF_many h1 h20 h3 h4] at hp; cases hp
            · have e : fnd hash = (((fnd hash).1.1, (fnd hash).1.2.1, (fnd hash).1.2.2.1, (fnd hash).1.2.2.2), 0) := by rw [← h20]
              rw [goF_node h1 e h3 (by omega) rfl rfl] at hp
              split at hp
              · cases hp
              · split at hp
                · cases hp
                · rcases List.mem_append.1 hp with hp | hp
                  · rcases List.mem_append.1 hp with hp | hp
                    · exact goF_ok hfo f _ _ _ _ _ p hp
                    · split at hp
                      · rw [List.mem_singleton] at hp
                        subst hp
                        exact ⟨(hfo.node hash h20).1, (hfo.node hash h20).2.1⟩
                      · cases hp
                  · exact goF_ok hfo f _ _ _ _ _ p hp
        · rw [goF, if_neg (by rw [h1]; decide), if_neg h2, if_pos h20] at hp; cases hp
theorem noP_small : noPair.1.size ≤ 1048576 ∧ noPair.2.size ≤ 1048576 := ⟨Nat.zero_le _, Nat.zero_le _⟩
theorem nil_small : SmallP [] := ⟨by decide, fun j => by rw [pget_out _ _ (Nat.zero_le _)]; exact noP_small⟩
theorem rangeM_small {fnd : ByteArray → FN} {wd : Nat} (hfo : FndOk wd fnd) (n : Int) (m : Nat) (root lo hi : ByteArray) : (rangeM fnd n m root lo hi).1.length ≤ 500 ∧ SmallP (rangeM fnd n m root lo hi).1 := by
  have hnil : ([] : List PairT).length ≤ 500 ∧ SmallP [] := ⟨by decide, nil_small⟩
  unfold rangeM
  split
  · split
    · rename_i h0
      have h1 := goF_cnt 501 root ⟨#[]⟩ ⟨#[]⟩ ⟨#[]⟩ 0 (by decide) h0
      have h2 := goF_len 501 root ⟨#[]⟩ ⟨#[]⟩ ⟨#[]⟩ 0 h0
      have h3 := goF_ok hfo 501 root ⟨#[]⟩ ⟨#[]⟩ ⟨#[]⟩ 0 (hg := hgW) (lo := lo) (hi := hi)
      generalize goF fnd hgW lo hi 501 root ⟨#[]⟩ ⟨#[]⟩ ⟨#[]⟩ 0 = R at h0 h1 h2 h3 ⊢
      refine ⟨by simp only; omega, by simp only; omega, fun j => ?_⟩
      by_cases hj : j < R.2.2.length
      · obtain ⟨q1, q2⟩ := h3 _ (List.getElem_mem hj)
        simp only [List.getD_eq_getElem?_getD, List.getElem?_eq_getElem hj, Option.getD_some]
        unfold okKey at q1
        unfold okVal at q2
        have q1 := of_decide_eq_true q1
        have q2 := of_decide_eq_true q2
        omega
      · rw [pget_out _ _ (by simp only; omega)]
        exact noP_small
    · exact hnil
  · exact hnil
theorem decOk_of {n : Int} {s k v l r : ByteArray} (h : decPost s n (.returned (.tuple #[nodeV k v l r, .bool true]))) : nodeOk k.size v.size l.size r.size n = true := by
  rcases h with ⟨k', v', l', r', hE, e⟩ | ⟨_, e⟩
  · simp only [nodeV, Ending.returned.injEq, Value.tuple.injEq, Array.mk.injEq, List.cons.injEq, Value.agg.injEq, Value.string.injEq] at e
    obtain ⟨⟨rfl, rfl, rfl, rfl, _⟩, _⟩ := e
    exact hE.1
  · simp at e
theorem law_range (n : Int) (a : Option Addr) (ss : List ByteArray) (c : Nat) (root lo hi : ByteArray) (w : World) (hN : ss.length ≤ maxLen) (hM : ∀ j, (ss.getD j ⟨#[]⟩).size ≤ maxLen)
    (h : 0 < ss.length → ∃ b off : Nat, a = some ⟨b, off, none⟩ ∧ b < w.heap.size ∧ ∀ j, j < ss.length → w.cell? ⟨b, off + j, none⟩ = some (.string (ss.getD j ⟨#[]⟩))) (hr : root.size ≤ maxLen) (hlo : lo.size ≤ maxLen) (hhi : hi.size ≤ maxLen)
    (hK : ∀ j, j < 64 → w.cell? ⟨0, j, none⟩ = some (.int .u32 ((kTab.getD j 0).toNat : Int))) :
    Calls Tryz.prog 3 #[.agg #[.int .i64 n, .slice a ss.length c], .string root, .string lo, .string hi] w fun e w' => e = .returned (.bool true) ∧ Below w.heap.size w w' := by
  obtain ⟨f, hf⟩ := Classical.axiomOfChoice (dec_ex n)
  obtain ⟨D, hD⟩ : ∃ D : Dec, D = ⟨fun s => (f s).1, fun s => (f s).2.1, fun s => (f s).2.2.1, fun s => (f s).2.2.2.1, fun s => (f s).2.2.2.2⟩ := ⟨_, rfl⟩
  have hdo : ∀ wd : Nat, (wd : Int) = n → DecOk wd D := fun wd hwd s hs => by
    have h1 := hf s
    rw [hD] at hs
    simp only at hs
    rw [hs] at h1
    have h2 := nodeOk_out (decOk_of h1)
    rw [hD]
    simp only
    unfold okKey okVal
    refine ⟨decide_eq_true (by omega), decide_eq_true (by omega), by omega, by omega⟩
  have HD1 : Hid (∀ wd : Nat, (wd : Int) = n → 1 ≤ wd → wd ≤ 32 → DecSaid 70 wd D) := by
    intro wd hwd _ _ s w' hs
    refine (dec_impl s wd w' hs).mono ?_
    rintro e w'' ⟨h1, hb⟩
    rw [hwd] at h1
    rw [hD]
    exact ⟨h1.one (hf s), hb⟩
  have HD2 : Hid (∀ wd : Nat, (wd : Int) = n → 1 ≤ wd → wd ≤ 32 → DecSaid 42 wd D) := by
    intro wd hwd _ _ s w' hs
    refine (dec_any s wd w' hs).mono ?_
    rintro e w'' ⟨h1, hb⟩
    rw [hwd] at h1
    rw [hD]
    exact ⟨h1.one (hf s), hb⟩
  have hsm : (rangeM (fndD D n.toNat ss) n ss.length root lo hi).1.length ≤ 500 ∧ SmallP (rangeM (fndD D n.toNat ss) n ss.length root lo hi).1 := by
    by_cases hp : (poolOk n ss.length && hashOk root.size n) = true
    · have hp' : 1 ≤ n ∧ n ≤ 32 ∧ ss.length ≤ 20000 := of_decide_eq_true ((Bool.and_eq_true _ _).mp hp).1
      exact rangeM_small (fndD_ok D n.toNat ss (hdo n.toNat (by omega))) n ss.length root lo hi
    · rw [rangeM_bad (by simpa using hp)]
      exact ⟨by decide, nil_small⟩
  obtain ⟨⟨P, xc⟩, hX⟩ : ∃ X, rangeM (fndD D n.toNat ss) n ss.length root lo hi = X := ⟨_, rfl⟩
  rw [hX] at hsm
  refine law_rg (K := KT) (fun w1 w2 h1 hb => KT.below h1 hb) n a ss c root lo hi w ⟨h⟩ hN hM hr hlo hhi hK P xc hsm.1 hsm.2 ?_ ?_
  · intro q1 q2 q3 hs g w' hS
    rw [← hX]
    cases hp : (poolOk n ss.length && hashOk root.size n) with
    | false => rw [rangeM_bad hp]; exact srange_bad n _ ss.length ss.length root lo hi w' hS.le q1 hp
    | true =>
      have hp2 := (Bool.and_eq_true _ _).mp hp
      have hp' : 1 ≤ n ∧ n ≤ 32 ∧ ss.length ≤ 20000 := of_decide_eq_true hp2.1
      obtain ⟨wd, rfl⟩ : ∃ wd : Nat, n = (wd : Int) := ⟨n.toNat, by omega⟩
      rw [Int.toNat_natCast]
      exact srange_good (fun t k w' ht h1 h2 => sdig_yes t k w' ht h1 h2) D wd (HD2.out wd rfl (by omega) (by omega)) (hdo wd rfl) _ ss ss.length root lo hi w' hS hs.2 (by omega) (by omega) q1 q2 q3 hp2.1 hp2.2
  · intro q1 g w' hS hk
    rw [← hX]
    exact irange_any (fun s w' hs hk => ehash_any s w' hs hk) D n HD1 hdo _ ss ss.length root lo hi w' hS hk q1
end Go.Proofs.YtdnbhejacpjgfaaGreatDoor
namespace Go.Proofs.Pools
open Go Go.ChangeShapes Go.WideShapes Go.ChangeAt Go.RowKit

/-- A struct of a number and a slice of texts that is handed in: what it holds, and that it reads so in every world in which what was there is as it was. -/
theorem open_pool {P : Program} {H : Type} {enc : TypeId × Value → H} {W : World} {b0 : Nat} {t e : TypeId} {f0 f1 : Field} {v : Value} {d : DataW H} {p : List MemPlace} (hs : P.underlying t = some (.struct #[f0, f1])) (hone : Go.Deep.oneCellFields P #[f0, f1] = true) (hC : P.cellsOf t = 2)
    (h0 : P.underlying f0.type = some (.int .i64)) (ht : P.underlying f1.type = some (.slice e)) (he : P.underlying e = some .string) (hc : P.cellsOf e = 1)
    (hv : Value.okWide P W .any b0 t v) (h : DataW.Trod enc P W 0 (fun _ => true) true t v d p) :
    ∃ (n : Int) (a : Option Addr) (c : Nat) (ss : List ByteArray), v = .agg #[.int .i64 n, .slice a ss.length c] ∧ ss.length ≤ maxLen ∧ (∀ j, (ss.getD j ⟨#[]⟩).size ≤ maxLen) ∧
      (0 < ss.length → ∃ b off : Nat, a = some ⟨b, off, none⟩ ∧ b < W.heap.size ∧ ∀ j, j < ss.length → W.cell? ⟨b, off + j, none⟩ = some (.string (ss.getD j ⟨#[]⟩))) ∧
      (∀ W' : World, Below W.heap.size W W' → DataW.Trod enc P W' 0 (fun b => decide (b < W.heap.size)) true t v d p) := by
  obtain ⟨v0, v1, y0, y1, m, rfl, rfl, rfl, hy0, hy1⟩ := Joins.open_agg2 hs hone hC hv h
  obtain ⟨n, e0, rfl, wn⟩ := DataW.trod_int h0 hy0
  simp only [List.cons.injEq, and_true] at e0
  subst e0
  rcases Deep.open_strs ht he hc hy1 with ⟨hc0, rfl⟩ | ⟨a, len, cap, q, Sx, hcs, _, hl, hm, hq, rfl, hx⟩
  · simp only [List.cons.injEq, and_true] at hc0
    subst hc0
    refine ⟨n, none, 0, [], rfl, Nat.zero_le _, fun _ => Nat.zero_le _, fun hx => absurd hx (Nat.lt_irrefl 0), fun W' _ => ?_⟩
    exact Joins.shut_agg2 hs hone hC (shut_int h0 wn) (shut_slice_nil ht)
  · simp only [List.cons.injEq, and_true] at hcs
    subst hcs
    simp only [if_true] at hq
    subst hq
    obtain ⟨b, off, spot⟩ := a
    have hcells : 0 < q → spot = none ∧ b < W.heap.size := fun h => by
      have h1 := (hx 0 (by omega)).1
      have hsp : spot = none := by simpa [Addr.add] using World.cell?_spot h1
      subst hsp
      rw [add_plain] at h1
      exact ⟨rfl, World.block_lt_of_cell? _ _ h1⟩
    have hlen : ((List.range len).map Sx).length = len := by rw [List.length_map, List.length_range]
    have hget : ∀ j, j < len → ((List.range len).map Sx).getD j ⟨#[]⟩ = Sx j := fun j hj => by
      rw [List.getD_eq_getElem?_getD, List.getElem?_map, List.getElem?_range hj]
      rfl
    refine ⟨n, some ⟨b, off, spot⟩, q, (List.range len).map Sx, by rw [hlen], by rw [hlen]; omega, fun j => ?_, fun hpos => ?_, fun W' hb => ?_⟩
    · by_cases hj : j < len
      · rw [hget j hj]; exact (hx j (by omega)).2
      · rw [List.getD_eq_getElem?_getD, List.getElem?_eq_none (by rw [hlen]; omega)]; exact Nat.zero_le _
    · rw [hlen] at hpos
      obtain ⟨rfl, hlt⟩ := hcells (by omega)
      refine ⟨b, off, rfl, hlt, fun j hj => ?_⟩
      rw [hlen] at hj
      rw [hget j hj, ← add_plain]
      exact (hx j (by omega)).1
    · refine Joins.shut_agg2 hs hone hC (shut_int h0 wn) ?_
      by_cases h0 : 0 < q
      · obtain ⟨rfl, hlt⟩ := hcells h0
        refine Deep.shut_strs_whole ht he hc (Nat.zero_le _) hl hm (by simpa using hlt) Sx (fun i hi => ?_) (fun i hi => (hx i hi).2)
        rw [hb.cell hlt, ← add_plain]
        exact (hx i hi).1
      · obtain rfl : q = 0 := by omega
        obtain rfl : len = 0 := by omega
        by_cases hlt : b < W.heap.size
        · have := Deep.shut_slice_whole_cells (enc := enc) (w := W') (base := 0) (spare := fun b => decide (b < W.heap.size)) (held := true) (a := ⟨b, off, spot⟩) (len := 0) (cap := 0) ht (Nat.zero_le _) hl hm (by simpa using hlt) (fun i => .lit (.string (Sx i).data.toList)) (fun _ => []) (fun i hi => absurd hi (Nat.not_lt_zero i))
          rwa [hc, Nat.mul_one, Deep.flatMap_nils, List.append_nil] at this
        · have := Deep.shut_slice_cells (enc := enc) (w := W') (base := 0) (spare := fun b => decide (b < W.heap.size)) (held := true) (a := ⟨b, off, spot⟩) (len := 0) (cap := 0) ht (Nat.zero_le _) hl hm (by simpa using hlt) (fun i => .lit (.string (Sx i).data.toList)) (fun _ => []) (fun i hi => absurd hi (Nat.not_lt_zero i))
          rwa [hc, Nat.mul_one, Deep.flatMap_nils, List.append_nil] at this
end Go.Proofs.Pools
