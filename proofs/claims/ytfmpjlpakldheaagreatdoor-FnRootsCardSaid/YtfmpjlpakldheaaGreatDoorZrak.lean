import Derived.Test.YtfmpjlpakldheaaGreatDoorZraj
import Derived.Test.YtfmpjlpakldheaaGreatDoorZrai
import Derived.Laws.MakeOwn
import Derived.Laws.OwnMore
import Derived.Deep.QuietTactic
import Derived.BigQuiet
import Derived.Test.YtfmpjlpakldheaaGreatDoorZraa
import Derived.OrdersHeld
import Derived.Deep.RegionHeld3
import Derived.LaidEql
set_option maxRecDepth 100000
set_option maxHeartbeats 400000
namespace Go.Proofs.YtfmpjlpakldheaaGreatDoor
open Go.RowKit Go.Proofs.Sha Tryz
def KeysUp : List ByteArray -> Prop
 | [] => True
 | k :: ks => (∀ x ∈ ks, lessB k x = true) /\ KeysUp ks
theorem bl_irr (a : List UInt8) : Op.bytesLess a a = false := by
 induction a with
 | nil => rfl
 | cons x y ih => rw [Op.bytesLess]; simp [ih]
theorem bl_tr : ∀ (a b c : List UInt8), Op.bytesLess a b = true -> Op.bytesLess b c = true -> Op.bytesLess a c = true
 | [], [], _, h, _ => by simp [Op.bytesLess] at h
 | [], _ :: _, [], _, k => by simp [Op.bytesLess] at k
 | [], _ :: _, _ :: _, _, _ => by simp [Op.bytesLess]
 | _ :: _, [], _, h, _ => by simp [Op.bytesLess] at h
 | _ :: _, _ :: _, [], _, k => by simp [Op.bytesLess] at k
 | x :: xs, y :: ys, z :: zs, h, k => by
  rw [Op.bytesLess] at h k ⊢
  simp only [Bool.or_eq_true, Bool.and_eq_true, decide_eq_true_eq, beq_iff_eq] at h k ⊢
  rcases h with h | ⟨rfl, h⟩
  · rcases k with k | ⟨rfl, k⟩
    · exact .inl (by rw [UInt8.lt_iff_toNat_lt] at *; omega)
    · exact .inl h
  · rcases k with k | ⟨rfl, k⟩
    · exact .inl k
    · exact .inr ⟨rfl, bl_tr xs ys zs h k⟩
theorem lessB_irr (a : ByteArray) : lessB a a = false := bl_irr _
theorem lessB_tr {a b c : ByteArray} (h : lessB a b = true) (k : lessB b c = true) : lessB a c = true := bl_tr _ _ _ h k
theorem lessB_or (a b : ByteArray) (h : lessB a b = false) (hne : a ≠ b) : lessB b a = true := by
 rw [lessB_tri] at h
 rcases (Bool.or_eq_true _ _).mp (by cases hq : (lessB b a || (b.toList == a.toList)) with | true => rfl | false => rw [hq] at h; cases h) with h | h
 · exact h
 · have e : b.toList = a.toList := by simpa using h
   rw [ByteArray.toList_eq, ByteArray.toList_eq] at e
   exact absurd (ByteArray.ext (Array.toList_inj.1 e.symm)) hne
theorem KeysUp.one : ∀ {a b : List ByteArray}, KeysUp a -> KeysUp b -> (∀ x, x ∈ a ↔ x ∈ b) -> a = b
 | [], [], _, _, _ => rfl
 | [], y :: ys, _, _, h => absurd ((h y).2 (List.mem_cons_self)) (by simp)
 | x :: xs, [], _, _, h => absurd ((h x).1 (List.mem_cons_self)) (by simp)
 | x :: xs, y :: ys, ha, hb, h => by
  have e : x = y := by
   rcases List.mem_cons.1 ((h x).1 List.mem_cons_self) with h1 | h1
   · exact h1
   · rcases List.mem_cons.1 ((h y).2 List.mem_cons_self) with h2 | h2
     · exact h2.symm
     · have q1 := hb.1 x h1
       have q2 := ha.1 y h2
       have := lessB_tr q1 q2
       rw [lessB_irr] at this
       cases this
  subst e
  rw [KeysUp.one ha.2 hb.2 (fun z => ?_)]
  constructor
  · intro hz
    rcases List.mem_cons.1 ((h z).1 (List.mem_cons_of_mem _ hz)) with h1 | h1
    · subst h1
      have := ha.1 z hz
      rw [lessB_irr] at this
      cases this
    · exact h1
  · intro hz
    rcases List.mem_cons.1 ((h z).2 (List.mem_cons_of_mem _ hz)) with h1 | h1
    · subst h1
      have := hb.1 z hz
      rw [lessB_irr] at this
      cases this
    · exact h1
def wout (ps : List PairT) (k : ByteArray) : List PairT := ps.filter fun p => decide (p.1 ≠ k)
def ins (k v : ByteArray) : List PairT -> List PairT
 | [] => [(k, v)]
 | p :: ps => if lessB k p.1 = true then (k, v) :: p :: ps else p :: ins k v ps
def wth (ps : List PairT) (k v : ByteArray) : List PairT := ins k v (wout ps k)
abbrev keys (ps : List PairT) : List ByteArray := ps.map Prod.fst
theorem ku_wout {ps : List PairT} (h : KeysUp (keys ps)) (k : ByteArray) : KeysUp (keys (wout ps k)) := by
 induction ps with
 | nil => exact h
 | cons p ps ih =>
  unfold wout at ih ⊢
  rw [List.filter_cons]
  split
  · refine ⟨fun x hx => ?_, ih h.2⟩
    obtain ⟨y, hy, rfl⟩ := List.mem_map.1 hx
    exact h.1 _ (List.mem_map.2 ⟨y, (List.mem_filter.1 hy).1, rfl⟩)
  · exact ih h.2
theorem mem_wout {ps : List PairT} {k x : ByteArray} : x ∈ keys (wout ps k) ↔ x ∈ keys ps /\ x ≠ k := by
 unfold wout
 constructor
 · intro h
   obtain ⟨y, hy, rfl⟩ := List.mem_map.1 h
   obtain ⟨h1, h2⟩ := List.mem_filter.1 hy
   exact ⟨List.mem_map.2 ⟨y, h1, rfl⟩, by simpa using h2⟩
 · rintro ⟨h, hn⟩
   obtain ⟨y, hy, rfl⟩ := List.mem_map.1 h
   exact List.mem_map.2 ⟨y, List.mem_filter.2 ⟨hy, by simpa using hn⟩, rfl⟩
theorem mem_ins {k v x : ByteArray} : ∀ {ps : List PairT}, x ∈ keys (ins k v ps) ↔ x = k \/ x ∈ keys ps
 | [] => by simp [ins]
 | p :: ps => by
  rw [ins]
  split
  · simp
  · have ih := mem_ins (k := k) (v := v) (x := x) (ps := ps)
    simp only [keys, List.map_cons, List.mem_cons] at ih ⊢
    rw [ih]
    constructor
    · rintro (h | h | h)
      · exact .inr (.inl h)
      · exact .inl h
      · exact .inr (.inr h)
    · rintro (h | h | h)
      · exact .inr (.inl h)
      · exact .inl h
      · exact .inr (.inr h)
theorem ku_ins {k v : ByteArray} : ∀ {ps : List PairT}, KeysUp (keys ps) -> (∀ x ∈ keys ps, x ≠ k) -> KeysUp (keys (ins k v ps))
 | [], _, _ => ⟨fun _ h => by simp at h, trivial⟩
 | p :: ps, h, hn => by
  rw [ins]
  split
  · rename_i hl
    refine ⟨fun x hx => ?_, h⟩
    rcases List.mem_cons.1 hx with e | hx
    · rw [e]; exact hl
    · exact lessB_tr hl (h.1 x hx)
  · rename_i hl
    refine ⟨fun x hx => ?_, ku_ins h.2 (fun x hx => hn x (List.mem_cons_of_mem _ hx))⟩
    rcases mem_ins.1 hx with e | hx
    · rw [e]
      exact lessB_or _ _ (by simpa using hl) (fun e => hn p.1 List.mem_cons_self e.symm)
    · exact h.1 x hx
theorem ku_wth {ps : List PairT} (h : KeysUp (keys ps)) (k v : ByteArray) : KeysUp (keys (wth ps k v)) := ku_ins (ku_wout h k) (fun _ hx => (mem_wout.1 hx).2)
theorem mem_wth {ps : List PairT} {k v x : ByteArray} : x ∈ keys (wth ps k v) ↔ x = k \/ x ∈ keys ps := by
 unfold wth
 rw [mem_ins, mem_wout]
 constructor
 · rintro (h | h)
   · exact .inl h
   · exact .inr h.1
 · rintro (h | h)
   · exact .inl h
   · by_cases e : x = k
     · exact .inl e
     · exact .inr ⟨h, e⟩
abbrev ChT := ByteArray × Bool × ByteArray × Bool × ByteArray
def getP : List PairT -> ByteArray -> ByteArray × Bool
 | [], _ => (⟨#[]⟩, false)
 | p :: ps, k => if p.1 = k then (p.2, true) else getP ps k
def kU : List PairT -> List PairT -> List ByteArray
 | [], [] => []
 | p :: ps, [] => p.1 :: kU ps []
 | [], q :: qs => q.1 :: kU [] qs
 | p :: ps, q :: qs => if p.1 = q.1 then p.1 :: kU ps qs else if lessB p.1 q.1 = true then p.1 :: kU ps (q :: qs) else q.1 :: kU (p :: ps) qs
termination_by ps qs => ps.length + qs.length
theorem mem_kU (x : ByteArray) : ∀ (n : Nat) (ps qs : List PairT), ps.length + qs.length = n -> (x ∈ kU ps qs ↔ x ∈ keys ps \/ x ∈ keys qs) := by
 intro n
 induction n using Nat.strongRecOn with
 | ind n ih =>
  intro ps qs hn
  match ps, qs with
  | [], [] => rw [kU]; simp
  | p :: ps, [] =>
   rw [kU, List.mem_cons, ih _ (by simp at hn ⊢; omega) ps [] rfl]
   simp
  | [], q :: qs =>
   rw [kU, List.mem_cons, ih _ (by simp at hn ⊢; omega) [] qs rfl]
   simp
  | p :: ps, q :: qs =>
   rw [kU]
   split
   · rename_i e
     rw [List.mem_cons, ih _ (by simp at hn ⊢; omega) ps qs rfl]
     simp only [keys, List.map_cons, List.mem_cons]
     rw [e]
     constructor
     · rintro (h | h | h)
       · exact .inl (.inl h)
       · exact .inl (.inr h)
       · exact .inr (.inr h)
     · rintro ((h | h) | (h | h))
       · exact .inl h
       · exact .inr (.inl h)
       · exact .inl h
       · exact .inr (.inr h)
   · split
     · rw [List.mem_cons, ih _ (by simp at hn ⊢; omega) ps (q :: qs) rfl]
       simp only [keys, List.map_cons, List.mem_cons]
       constructor
       · rintro (h | h | h)
         · exact .inl (.inl h)
         · exact .inl (.inr h)
         · exact .inr h
       · rintro ((h | h) | h)
         · exact .inl h
         · exact .inr (.inl h)
         · exact .inr (.inr h)
     · rw [List.mem_cons, ih _ (by simp at hn ⊢; omega) (p :: ps) qs rfl]
       simp only [keys, List.map_cons, List.mem_cons]
       constructor
       · rintro (h | h | h)
         · exact .inr (.inl h)
         · exact .inl h
         · exact .inr (.inr h)
       · rintro (h | (h | h))
         · exact .inr (.inl h)
         · exact .inl h
         · exact .inr (.inr h)
theorem getP_none {ps : List PairT} {k : ByteArray} (h : k ∉ keys ps) : getP ps k = (⟨#[]⟩, false) := by
 induction ps with
 | nil => rfl
 | cons p ps ih =>
  simp only [keys, List.map_cons, List.mem_cons, not_or] at h
  rw [getP, if_neg (fun e => h.1 e.symm)]
  exact ih h.2
theorem getP_hit (p : PairT) (ps : List PairT) : getP (p :: ps) p.1 = (p.2, true) := by rw [getP, if_pos rfl]
theorem getP_skip {p : PairT} {ps : List PairT} {k : ByteArray} (h : p.1 ≠ k) : getP (p :: ps) k = getP ps k := by rw [getP, if_neg h]
theorem ne_of_less {a b : ByteArray} (h : lessB a b = true) : a ≠ b := fun e => by subst e; rw [lessB_irr] at h; cases h
theorem wr_in64 (n : Int) (h : -9223372036854775808 <= n /\ n <= 9223372036854775807) : wrap64 n = n := by unfold wrap64; omega
def SmallP (ps : List PairT) : Prop := ps.length <= 1048576 /\ ∀ j, (ps.getD j noPair).1.size <= 1048576 /\ (ps.getD j noPair).2.size <= 1048576
theorem pget_out (ps : List PairT) (j : Nat) (h : ps.length <= j) : ps.getD j noPair = noPair := by
 rw [List.getD_eq_getElem?_getD, List.getElem?_eq_none h]; rfl
def flatP : List PairT -> List Value
 | [] => []
 | p :: l => .string p.1 :: .string p.2 :: flatP l
theorem flatP_len : ∀ l : List PairT, (flatP l).length = l.length * 2
 | [] => rfl
 | p :: l => by simp only [flatP, List.length_cons, flatP_len l]; omega
theorem flatP_app : ∀ l m : List PairT, flatP (l ++ m) = flatP l ++ flatP m
 | [], m => rfl
 | p :: l, m => by simp only [List.cons_append, flatP, flatP_app l m]
theorem flatP_get : ∀ (l : List PairT) (j : Nat), j < l.length -> (flatP l)[j * 2]? = some (.string (l.getD j noPair).1) /\ (flatP l)[j * 2 + 1]? = some (.string (l.getD j noPair).2)
 | [], j, h => absurd h (Nat.not_lt_zero _)
 | p :: l, 0, _ => ⟨rfl, rfl⟩
 | p :: l, j + 1, h => by
  have := flatP_get l j (by simpa using h)
  rw [show (j + 1) * 2 = j * 2 + 2 by omega]
  simpa [flatP] using this
theorem flatP_set : ∀ (l : List PairT) (k : Nat) (x y : ByteArray), k < l.length -> ((flatP l).set (k * 2) (.string x)).set (k * 2 + 1) (.string y) = flatP (l.set k (x, y))
 | [], k, _, _, h => absurd h (Nat.not_lt_zero _)
 | p :: l, 0, _, _, _ => rfl
 | p :: l, k + 1, x, y, h => by
  have := flatP_set l k x y (by simpa using h)
  rw [show (k + 1) * 2 = k * 2 + 2 by omega]
  simpa [flatP] using this
theorem Row.parg {w : World} {base g c n : Nat} {ps : List PairT} (h : Row w base g n c (flatP ps)) (hs : SmallP ps) : PArg (some ⟨g, 0, none⟩) ps w := by
 refine ⟨hs.1, hs.2, fun _ => ⟨g, 0, rfl, h.lt, fun j hj => ?_⟩⟩
 have hn := h.len
 rw [flatP_len] at hn
 obtain ⟨e0, e1⟩ := flatP_get ps j hj
 rw [Nat.zero_add]
 exact ⟨(h.cell _ (by omega)).trans e0, (h.cell _ (by omega)).trans e1⟩
theorem info37 : (prog.info? 34).map (fun i => (i.zero, i.size, i.bytes)) = some (some (.agg #[.string ⟨#[]⟩, .string ⟨#[]⟩]), 2, 32) := by kernel_rfl
theorem info_parts2 {i : Option TypeInfo} {a : Option Value} {b c : Nat} (h : i.map (fun i => (i.zero, i.size, i.bytes)) = some (a, b, c)) : ∃ j, i = some j /\ j.zero = a /\ j.size = b /\ j.bytes = c := by
 cases i with
 | none => cases h
 | some j => simp only [Option.map_some, Option.some.injEq, Prod.mk.injEq] at h; exact ⟨j, rfl, h.1, h.2.1, h.2.2⟩
theorem pairOk_any (k v : ByteArray) (w : World) (hk : k.size <= 1048576) (hv : v.size <= 1048576) : Calls prog 90 #[.string k, .string v] w fun e w' => e = .returned (.bool (okKey k && okVal v)) /\ w = w' := by
 have hr : okVal v = decide ((v.size : Int) <= 2000) := by
  unfold okVal
  by_cases c2 : v.size <= 2000
  · rw [decide_eq_true (by omega), decide_eq_true (by omega)]
  · rw [decide_eq_false (by omega), decide_eq_false (by omega)]
 by_cases c1 : 1 <= k.size
 · by_cases c2 : k.size <= 256
   · have hq : okKey k = true := by unfold okKey; rw [decide_eq_true (by omega)]
     rw [hq, hr, Bool.true_and]
     have z1 : decide ((k.size : Int) ≥ 1) = true := by rw [decide_eq_true_eq]; omega
     have z2 : decide ((1 : Int) <= (k.size : Int)) = true := by rw [decide_eq_true_eq]; omega
     have z3 : decide ((k.size : Int) <= 256) = true := by rw [decide_eq_true_eq]; omega
     have z4 : 0 < k.size := by omega
     have z5 : decide (1 <= k.size) = true := decide_eq_true c1
     clear hr hq
     go_enter func90, ntmps90
     go_wp2_with fail
     go_ret
     exact ⟨rfl, rfl⟩
   · have hq : okKey k = false := by unfold okKey; rw [decide_eq_false (by omega)]
     rw [hq, Bool.false_and]
     have z1 : decide ((k.size : Int) ≥ 1) = true := by rw [decide_eq_true_eq]; omega
     have z2 : decide ((1 : Int) <= (k.size : Int)) = true := by rw [decide_eq_true_eq]; omega
     have z3 : decide ((k.size : Int) <= 256) = false := by rw [decide_eq_false_iff_not]; omega
     have z4 : 0 < k.size := by omega
     have z5 : decide (1 <= k.size) = true := decide_eq_true c1
     clear hr hq
     go_enter func90, ntmps90
     go_wp2_with fail
     go_ret
     exact ⟨rfl, rfl⟩
 · have hq : okKey k = false := by unfold okKey; rw [decide_eq_false (by omega)]
   rw [hq, Bool.false_and]
   have z1 : decide ((k.size : Int) ≥ 1) = false := by rw [decide_eq_false_iff_not]; omega
   have z2 : decide ((1 : Int) <= (k.size : Int)) = false := by rw [decide_eq_false_iff_not]; omega
   have z0 : k.size = 0 := by omega
   clear hr hq
   go_enter func90, ntmps90
   go_wp2_with fail
   go_ret
   exact ⟨rfl, rfl⟩
theorem drew1 {w wr : World} (h : ∃ m, wr = w.drewN m) : ∃ m, wr.drew = w.drewN m := by
 obtain ⟨m, rfl⟩ := h
 exact ⟨m + 1, by rw [<- World.drewN_drewN]; rfl⟩
theorem less_q (p q : ByteArray) (w : World) (hp : p.size <= 1048576) (hq : q.size <= 1048576) :
 Calls prog 95 #[.string p, .string q] w fun e w' => e = .returned (.bool (Op.bytesLess p.data.toList q.data.toList)) /\ (∃ m, w' = w.drewN m) := by
 have hpl : p.data.toList.length = p.size := rfl
 have hql : q.data.toList.length = q.size := rfl
 go_enter func95, ntmps95
 go_wp2_with fail
 go_loopw [5] (fun t wr => ∃ k : Nat, k <= p.size /\ k <= q.size /\ t = .int .i64 (k : Int) /\ Hid (Op.bytesLess p.data.toList q.data.toList = Op.bytesLess (p.data.toList.drop k) (q.data.toList.drop k)) /\ ∃ m, wr = w.drewN m) (fun t _ => p.size - (intOf t).toNat)
 case atStart => exact ⟨0, by omega, by omega, rfl, rfl, 0, rfl⟩
 case round =>
  obtain ⟨k, hk1, hk2, rfl, HL, hb⟩ := hrel
  by_cases h1 : k < p.size
  · by_cases h2 : k < q.size
    · have z1 : (0 : Int) <= (k : Int) := by omega
      have z2 : (k : Int) < (p.size : Int) := by omega
      have z3 : (k : Int) < (q.size : Int) := by omega
      go_wp2_with fail
      go_region
      rw [bget p k h1, bget q k h2]
      have HE := less_eq p.data.toList q.data.toList k h1 h2
      have HN := less_ne p.data.toList q.data.toList k h1 h2
      obtain ⟨x, hx⟩ : ∃ x, p.data.toList.getD k 0 = x := ⟨_, rfl⟩
      obtain ⟨y, hy⟩ : ∃ y, q.data.toList.getD k 0 = y := ⟨_, rfl⟩
      rw [hx, hy] at HE HN
      rw [hx, hy]
      have HXY : Hid (p.data.toList.getD k 0 = x /\ q.data.toList.getD k 0 = y) := ⟨hx, hy⟩
      clear hx hy
      by_cases hxy : x = y
      · have c0 : ((x.toNat : Int) != (y.toNat : Int)) = false := by rw [hxy]; simp
        have HE' : Hid (Op.bytesLess p.data.toList q.data.toList = Op.bytesLess (p.data.toList.drop (k + 1)) (q.data.toList.drop (k + 1))) := HL.out.trans (HE hxy)
        clear HE HN hxy
        go_wp2_with fail
        go_roundw
        case rel => exact ⟨k + 1, by omega, by omega, by go_num, HE', drew1 hb⟩
        case measure => simp [intOf]; omega
      · have c0 : ((x.toNat : Int) != (y.toNat : Int)) = true := by
         rw [bne_iff_ne]; exact fun h => hxy (UInt8.toNat_inj.1 (by omega))
        have HN' : Hid (Op.bytesLess p.data.toList q.data.toList = decide (x.toNat < y.toNat)) := (HL.out.trans (HN hxy)).trans (by simp)
        clear HE HN hxy
        go_wp2_with fail
        go_region
        rw [bget p k h1, bget q k h2, HXY.out.1, HXY.out.2]
        go_wp2
        go_ret
        exact ⟨by rw [HN'.out]; rfl, drew1 (drew1 hb)⟩
    · have HN' : Hid (Op.bytesLess p.data.toList q.data.toList = decide (p.size < q.size)) := (HL.out.trans (less_end p.data.toList q.data.toList k (.inr (by omega)) (by omega) (by omega))).trans (by simp)
      go_wp2
      go_ret
      exact ⟨by rw [HN'.out]; rfl, hb⟩
  · have HN' : Hid (Op.bytesLess p.data.toList q.data.toList = decide (p.size < q.size)) := (HL.out.trans (less_end p.data.toList q.data.toList k (.inl (by omega)) (by omega) (by omega))).trans (by simp)
    go_wp2
    go_ret
    exact ⟨by rw [HN'.out]; rfl, hb⟩
theorem pairOk_q (k v : ByteArray) (w : World) (hk : k.size <= 1048576) (hv : v.size <= 1048576) : Calls prog 90 #[.string k, .string v] w fun e w' => e = .returned (.bool (okKey k && okVal v)) /\ w' = w :=
 (pairOk_any k v w hk hv).mono fun _ _ ⟨he, hw⟩ => ⟨he, hw.symm⟩
theorem lessL (a b : ByteArray) : Op.bytesLess a.data.toList b.data.toList = lessB a b := by unfold lessB; rw [ByteArray.toList_eq, ByteArray.toList_eq]
theorem lessS_q (p q : ByteArray) (w : World) (hp : p.size <= 1048576) (hq : q.size <= 1048576) : Calls prog 95 #[.string p, .string q] w fun e w' => e = .returned (.bool (lessB p q)) /\ (∃ m, w' = w.drewN m) := by
 have := less_q p q w hp hq
 rw [lessL] at this
 exact this
theorem draws_below {a w : World} {B : Nat} (n : Nat) (h : Below B a w) : Below B a (w.drewN n) := ⟨h.os, h.tape, h.output, h.size, h.block⟩
theorem zq1 {α : Type _} (l : List α) (i : Nat) (a : α) : l.toArray.setIfInBounds i a = (l.set i a).toArray := List.setIfInBounds_toArray l i a
theorem zq2 {α : Type _} {x : α} {xs : List α} {a : α} : (x :: xs).set 0 a = a :: xs := List.set_cons_zero
theorem zq3 {α : Type _} {x : α} {xs : List α} {i : Nat} {a : α} : (x :: xs).set (i + 1) a = x :: xs.set i a := List.set_cons_succ
theorem zq4 {α : Type _} {xs : List α} {i : Nat} (h : i < xs.toArray.size) : xs.toArray[i] = xs[i] := List.getElem_toArray h
theorem zq5 {α : Type _} (a : α) (bs : List α) (h : 0 < (a :: bs).length) : (a :: bs)[0] = a := List.getElem_cons_zero a bs h
theorem zq6 {α : Type _} (a : α) (bs : List α) (i : Nat) (h : i + 1 < (a :: bs).length) : (a :: bs)[i + 1] = bs[i]'(Nat.lt_of_succ_lt_succ h) := List.getElem_cons_succ a bs i h
theorem tkH {P : Program} {md : Region.Mode} {ops : Array Oper} {Q : Exit -> Act -> World -> Prop} {S : World -> Prop} {i : Nat} {oi : Oper} {v : Value} {fuel : Nat} {listed : Array Bool} {a : Act} {w : World} (hi : ops[i]? = some oi) (hy : YieldsIf P ops S oi v a)
 (h : wpAnyH P md ops Q S fuel (listed.setIfInBounds i true) (a.put oi.dst v) w)
 (hs : Region.noSelect ops = true := by kernel_rfl) (hf : Region.free md ops listed i = true := by kernel_rfl) (hr : (Region.ready md ops listed).contains i = true := by kernel_rfl)
 (hQ : ∀ c a w, Q (.panic c) (a.put oi.dst v) w -> Q (.panic c) a w := by exact fun _ _ _ h => h) (hS : S w := by assumption) : wpAnyH P md ops Q S (fuel + 1) listed a w := wpAnyH_take hi hs hf hr hQ hy hS h
theorem zq {α : Type _} : (∀ (l : List α) (i : Nat) (a : α), l.toArray.setIfInBounds i a = (l.set i a).toArray) /\ (∀ (x : α) xs a, (x :: xs).set 0 a = a :: xs) /\ (∀ (x : α) xs i a, (x :: xs).set (i + 1) a = x :: xs.set i a) /\ (∀ (xs : List α) i (h : i < xs.toArray.size), xs.toArray[i] = xs[i]) /\ (∀ (a : α) bs (h : 0 < (a :: bs).length), (a :: bs)[0] = a) /\ (∀ (a : α) bs i (h : i + 1 < (a :: bs).length), (a :: bs)[i + 1] = bs[i]'(Nat.lt_of_succ_lt_succ h)) :=
 ⟨zq1, fun _ _ _ => zq2, fun _ _ _ _ => zq3, fun _ _ => zq4, zq5, zq6⟩
theorem tkI {P : Program} {md : Region.Mode} {ops : Array Oper} {Q : Exit -> Act -> World -> Prop} {S : World -> Prop} (i : Nat) {oi : Oper} {v : Value} {fuel : Nat} {listed : Array Bool} {a : Act} {w : World}
 (h : wpAnyH P md ops Q S fuel (listed.setIfInBounds i true) (a.put oi.dst v) w) (hi : ops[i]? = some oi := by rfl) (hy : YieldsIf P ops S oi v a := by refine Or.inl ⟨by rfl, ?_⟩; intro w hSw; go_simp; rfl)
 (hs : Region.noSelect ops = true := by kernel_rfl) (hf : Region.free md ops listed i = true := by kernel_rfl) (hr : (Region.ready md ops listed).contains i = true := by kernel_rfl)
 (hQ : ∀ c a w, Q (.panic c) (a.put oi.dst v) w -> Q (.panic c) a w := by exact fun _ _ _ h => h) (hS : S w := by assumption) : wpAnyH P md ops Q S (fuel + 1) listed a w := tkH hi hy h hs hf hr hQ hS
theorem rdH {P : Program} {md : Region.Mode} {ops : Array Oper} {Q : Exit -> Act -> World -> Prop} {S : World -> Prop} (i : Nat) {o : Oper} {fuel : Nat} {listed : Array Bool} {a : Act} {w : World}
 (h : ∀ K' : Act -> World -> Prop, Shut (∀ a w, S w -> (S w -> wpAnyH P md ops Q S fuel (listed.setIfInBounds i true) a w) -> K' a w) -> if Region.wanted o (yielded ops a.tmps) = true then Oper.wp P o a w K' Q else K' (a.put o.dst undef) w)
 (hr : Region.ready md ops listed = [i] := by kernel_rfl) (ho : ops[i]? = some o := by rfl) : wpAnyH P md ops Q S (fuel + 1) listed a w := wpAnyH_ready hr (by simp) (AllReadyH.cons ho h AllReadyH.nil)
end Go.Proofs.YtfmpjlpakldheaaGreatDoor
namespace Go.Proofs.Sha
open Go Go.RowKit
theorem run_equalIn_ptr {P : Program} (d : Nat) (t te : TypeId) (j : TypeInfo) (hu : P.underlying t = some (.pointer te)) (hj : P.info? te = some j) (hz : j.size ≠ 0) (a b : Option Addr) (w : World)
 (ha : a = none \/ ∃ (x : Nat) (cs : Array Value) (u : TypeId), a = some ⟨x, 0, none⟩ /\ w.heap[x]? = some (.cells cs u (0, 0))) (hb : b = none \/ ∃ (x : Nat) (cs : Array Value) (u : TypeId), b = some ⟨x, 0, none⟩ /\ w.heap[x]? = some (.cells cs u (0, 0))) :
 (Op.equalIn (d + 1) t (.pointer a) (.pointer b)).run P w = .ok (decide (a = b)) w := by
 rcases ha with rfl | ⟨x, cs, u, rfl, hx⟩ <;> rcases hb with rfl | ⟨y, ds, v, rfl, hy⟩
 · simp [Op.equalIn, run_underlying hu]
 · simp [Op.equalIn, run_underlying hu]
 · simp [Op.equalIn, run_underlying hu]
 · by_cases e : x = y
   · subst e
     simp [Op.equalIn, run_underlying hu, sizeOf, typeInfo, hj, run_sameAddr_same]
   · have hne : (⟨x, 0, none⟩ : Addr) ≠ ⟨y, 0, none⟩ := fun q => e (congrArg Addr.block q)
     simp [Op.equalIn, run_underlying hu, sizeOf, typeInfo, hj, hz, run_sameAddr_other w hne hx hy]
theorem run_eql_ptr {P : Program} (t te : TypeId) (j : TypeInfo) (hu : P.underlying t = some (.pointer te)) (hj : P.info? te = some j) (hz : j.size ≠ 0) (a b : Option Addr) (w : World)
 (ha : a = none \/ ∃ (x : Nat) (cs : Array Value) (u : TypeId), a = some ⟨x, 0, none⟩ /\ w.heap[x]? = some (.cells cs u (0, 0))) (hb : b = none \/ ∃ (x : Nat) (cs : Array Value) (u : TypeId), b = some ⟨x, 0, none⟩ /\ w.heap[x]? = some (.cells cs u (0, 0))) :
 (binOp .eql t (.pointer a) (.pointer b)).run P w = .ok (.bool (decide (a = b))) w := by
 have key : (Op.equal t (.pointer a) (.pointer b)).run P w = .ok (decide (a = b)) w := run_equalIn_ptr 9999 t te j hu hj hz a b w ha hb
 simp only [binOp]
 simp [key]
end Go.Proofs.Sha
