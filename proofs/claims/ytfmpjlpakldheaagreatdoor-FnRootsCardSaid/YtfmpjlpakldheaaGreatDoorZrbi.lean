import Derived.Test.YtfmpjlpakldheaaGreatDoorZraw
import Derived.Test.YtfmpjlpakldheaaGreatDoorZrbf
import Derived.Test.YtfmpjlpakldheaaGreatDoorZrbh
import Derived.Test.YtfmpjlpakldheaaGreatDoorZrab
import Derived.Test.YtfmpjlpakldheaaGreatDoorZrbc
import Derived.Test.YtfmpjlpakldheaaGreatDoorZrak
import Derived.Test.YtfmpjlpakldheaaGreatDoorZram
namespace Go.Proofs.YtfmpjlpakldheaaGreatDoor
open Go.RowKit Go.Proofs.Sha Tryz
theorem u8_wf {x : Int} (h : (Lit.int .u8 x).wf = true) : 0 <= x /\ x < 256 := by
 have e1 : IntKind.u8.min = 0 := rfl
 have e2 : IntKind.u8.max = 255 := rfl
 unfold Lit.wf at h
 rw [Bool.and_eq_true, decide_eq_true_eq, decide_eq_true_eq, e1, e2] at h
 omega
theorem BL.of {a : Option Addr} {xs : List Int} {w : World} (hl : xs.length <= 1048576) (hw : ∀ x ∈ xs, (Lit.int .u8 x).wf = true)
 (h : 0 < xs.length -> ∃ b off : Nat, a = some ⟨b, off, none⟩ /\ b < w.heap.size /\ ∀ j, j < xs.length -> w.cell? ⟨b, off + j, none⟩ = some (.int .u8 (xs.getD j 0))) : ∃ ys : List Nat, ys.length = xs.length /\ Code8 ys /\ BL a ys w := by
 have hg : ∀ j, (xs.map Int.toNat).getD j 0 = (xs.getD j 0).toNat := fun j => by
  rw [List.getD_eq_getElem?_getD, List.getD_eq_getElem?_getD, List.getElem?_map]
  cases xs[j]? <;> rfl
 have hm : ∀ j, 0 <= xs.getD j 0 /\ xs.getD j 0 < 256 := fun j => by
  by_cases hj : j < xs.length
  · have : xs.getD j 0 ∈ xs := by
     rw [List.getD_eq_getElem?_getD, List.getElem?_eq_getElem hj]
     exact List.getElem_mem hj
    exact u8_wf (hw _ this)
  · rw [List.getD_eq_getElem?_getD, List.getElem?_eq_none (by omega)]
    exact ⟨Int.le_refl _, by decide⟩
 refine ⟨xs.map Int.toNat, List.length_map _, ⟨by rw [List.length_map]; exact hl, fun j => ?_⟩, ⟨fun hp => ?_⟩⟩
 · rw [hg]
   have := hm j
   omega
 · rw [List.length_map] at hp
   obtain ⟨b, off, ha, hlt, hc⟩ := h hp
   refine ⟨b, off, ha, hlt, fun j hj => ?_⟩
   rw [List.length_map] at hj
   rw [hc j hj, hg, Int.toNat_of_nonneg (hm j).1]
def DecEnc (wd : Nat) (D : Dec) : Prop := ∀ k v l r, nodeOk k.size v.size l.size r.size (wd : Int) = true -> D.ok (encS k v l r wd) = true /\ D.k (encS k v l r wd) = k /\ D.v (encS k v l r wd) = v /\ D.l (encS k v l r wd) = l /\ D.r (encS k v l r wd) = r
theorem fst2_more {wd : Nat} {ss ad : List ByteArray} {h u x : ByteArray} (hf : fst2 wd ss ad h = some u) : fst2 wd ss (ad ++ [x]) h = some u := by
 unfold fst2 at hf ⊢
 cases hi : firstI (hitB wd (ss ++ ad) h) (ss.length + ad.length) with
 | none => rw [hi] at hf; cases hf
 | some i =>
  have hl := firstI_lt hi
  have e : ∀ j, j < ss.length + ad.length -> (ss ++ (ad ++ [x])).getD j ⟨#[]⟩ = (ss ++ ad).getD j ⟨#[]⟩ := fun j hj => by
   rw [<- List.append_assoc, List.getD_eq_getElem?_getD, List.getD_eq_getElem?_getD, List.getElem?_append_left (by rw [List.length_append]; exact hj)]
  have h1 : firstI (hitB wd (ss ++ (ad ++ [x])) h) (ss.length + ad.length) = some i := by
   rw [<- hi]
   refine firstI_congr fun j hj => ?_
   unfold hitB
   rw [e j hj]
  have h2 := firstI_up h1 1
  rw [hi] at hf
  rw [List.length_append, List.length_singleton, <- Nat.add_assoc, h2, Option.map_some, e i hl]
  exact hf
theorem fst2_last {wd : Nat} {ss ad : List ByteArray} {e : ByteArray} (hf : fst2 wd ss ad (hashT wd e) = none) : fst2 wd ss (ad ++ [e]) (hashT wd e) = some e := by
 unfold fst2 at hf ⊢
 cases hi : firstI (hitB wd (ss ++ ad) (hashT wd e)) (ss.length + ad.length) with
 | some i => rw [hi] at hf; cases hf
 | none =>
  have g : (ss ++ (ad ++ [e])).getD (ss.length + ad.length) ⟨#[]⟩ = e := by
   rw [<- List.append_assoc, List.getD_eq_getElem?_getD, List.getElem?_append_right (by rw [List.length_append]; exact Nat.le_refl _), List.length_append, Nat.sub_self]
   rfl
  have h1 : firstI (hitB wd (ss ++ (ad ++ [e])) (hashT wd e)) (ss.length + ad.length) = none := by
   rw [<- hi]
   refine firstI_congr fun j hj => ?_
   unfold hitB
   rw [<- List.append_assoc, List.getD_eq_getElem?_getD, List.getD_eq_getElem?_getD, List.getElem?_append_left (by rw [List.length_append]; exact hj)]
  have h2 : hitB wd (ss ++ (ad ++ [e])) (hashT wd e) (ss.length + ad.length) = true := by
   unfold hitB
   rw [g]
   exact decide_eq_true rfl
  rw [List.length_append, List.length_singleton, <- Nat.add_assoc, firstI_step_yes h1 h2, Option.map_some, g]
theorem sv_has (wd : Nat) (ss : List ByteArray) : ∀ (es ad0 ad : List ByteArray), es.foldl (svStep wd ss) (.go ad0) = .go ad -> (∀ h u, fst2 wd ss ad0 h = some u -> fst2 wd ss ad h = some u) /\ ∀ e ∈ es, fst2 wd ss ad (hashT wd e) = some e
 | [], ad0, ad, h => by
  have : ad0 = ad := by injection h
  subst this
  exact ⟨fun _ _ q => q, fun e he => by cases he⟩
 | e :: es, ad0, ad, h => by
  rw [List.foldl_cons] at h
  cases hf : fst2 wd ss ad0 (hashT wd e) with
  | some u =>
   rw [svStep_some hf] at h
   by_cases hu : u = e
   · subst hu
     rw [if_pos rfl] at h
     obtain ⟨a1, a2⟩ := sv_has wd ss es ad0 ad h
     refine ⟨a1, fun x hx => ?_⟩
     rcases List.mem_cons.1 hx with rfl | hx
     · exact a1 _ _ hf
     · exact a2 x hx
   · rw [if_neg hu, sv_stuck wd ss es _ rfl] at h; cases h
  | none =>
   rw [svStep_none hf] at h
   split at h
   · rw [sv_stuck wd ss es _ rfl] at h; cases h
   · obtain ⟨a1, a2⟩ := sv_has wd ss es _ ad h
     refine ⟨fun q u hq => a1 q u (fst2_more hq), fun x hx => ?_⟩
     rcases List.mem_cons.1 hx with rfl | hx
     · exact a1 _ _ (fst2_last hf)
     · exact a2 x hx
theorem fnd_of (D : Dec) (wd : Nat) (hD : DecEnc wd D) {ss ad : List ByteArray} {k v l r : ByteArray} (ho : nodeOk k.size v.size l.size r.size (wd : Int) = true) (hf : fst2 wd ss ad (hashT wd (encS k v l r wd)) = some (encS k v l r wd)) : fndD D wd (ss ++ ad) (hashT wd (encS k v l r wd)) = ((k, v, l, r), 0) := by
 unfold fst2 at hf
 unfold fndD
 rw [List.length_append]
 cases hi : firstI (hitB wd (ss ++ ad) (hashT wd (encS k v l r wd))) (ss.length + ad.length) with
 | none => rw [hi] at hf; cases hf
 | some i =>
  rw [hi] at hf
  have g : (ss ++ ad).getD i ⟨#[]⟩ = encS k v l r wd := Option.some.inj hf
  obtain ⟨q1, q2, q3, q4, q5⟩ := hD k v l r ho
  show (if D.ok ((ss ++ ad).getD i ⟨#[]⟩) = true then ((D.k ((ss ++ ad).getD i ⟨#[]⟩), D.v ((ss ++ ad).getD i ⟨#[]⟩), D.l ((ss ++ ad).getD i ⟨#[]⟩), D.r ((ss ++ ad).getD i ⟨#[]⟩)), (0 : Int)) else ((⟨#[]⟩, ⟨#[]⟩, ⟨#[]⟩, ⟨#[]⟩), 3)) = _
  rw [g, if_pos q1, q2, q3, q4, q5]
def HasT (fnd : ByteArray -> FN) (wd : Nat) : Tr PairT -> Prop
 | .nil => True
 | .node l x r => fnd (rootT wd (.node l x r)) = ((x.1, x.2, rootT wd l, rootT wd r), 0) /\ HasT fnd wd l /\ HasT fnd wd r
theorem nodeOk_of {wd : Nat} (h1 : 1 <= wd) (h2 : wd <= 32) {x : PairT} {l r : Tr PairT} (hk : okKey x.1 = true) (hv : okVal x.2 = true) : nodeOk x.1.size x.2.size (rootT wd l).size (rootT wd r).size (wd : Int) = true := by
 unfold okKey at hk
 unfold okVal at hv
 rw [decide_eq_true_eq] at hk hv
 have hl := rootT_size wd h2 l
 have hr := rootT_size wd h2 r
 unfold nodeOk hashOk
 rw [Bool.and_eq_true, Bool.and_eq_true, decide_eq_true_eq]
 refine ⟨by omega, ?_, ?_⟩
 · rw [Bool.or_eq_true, decide_eq_true_eq, decide_eq_true_eq]; omega
 · rw [Bool.or_eq_true, decide_eq_true_eq, decide_eq_true_eq]; omega
theorem has_all (D : Dec) (wd : Nat) (hD : DecEnc wd D) (h1 : 1 <= wd) (h2 : wd <= 32) {ss ad : List ByteArray} : ∀ (t : Tr PairT), (∀ p ∈ t.inord, okKey p.1 = true /\ okVal p.2 = true) -> (∀ e ∈ encsT wd t, fst2 wd ss ad (hashT wd e) = some e) -> HasT (fndD D wd (ss ++ ad)) wd t
 | .nil, _, _ => trivial
 | .node l x r, hok, he => by
  have hx := hok x (by simp [Tr.inord])
  have hm : encT wd (.node l x r) ∈ encsT wd (.node l x r) := by simp [encsT]
  refine ⟨?_, has_all D wd hD h1 h2 l (fun p hp => hok p (by simp [Tr.inord, hp])) (fun e q => he e (by simp [encsT, q])), has_all D wd hD h1 h2 r (fun p hp => hok p (by simp [Tr.inord, hp])) (fun e q => he e (by simp [encsT, q]))⟩
  exact fnd_of D wd hD (nodeOk_of h1 h2 hx.1 hx.2) (he _ hm)
theorem goF_tree {fnd : ByteArray -> FN} {wd : Nat} (h1 : 1 <= wd) (h2 : wd <= 32) : ∀ (t : Tr PairT) (f : Nat) (over under par : ByteArray) (cnt : Nat), t.size < f -> t.heap abP -> KeysUp (keys t.inord) -> (∀ p ∈ t.inord, lessB over p.1 = true /\ (emp under = true \/ lessB p.1 under = true) /\ (emp par = true \/ hgW par p.1 = true)) -> cnt + t.size <= 500 -> HasT fnd wd t -> goF fnd hgW ⟨#[]⟩ ⟨#[]⟩ f (rootT wd t) over under par cnt = (0, cnt + t.size, t.inord)
 | .nil, 0, _, _, _, _, h, _, _, _, _, _ => by simp [Tr.size] at h
 | .nil, f + 1, over, under, par, cnt, _, _, _, _, _, _ => by
  rw [goF_skip (by rfl)]
  rfl
 | .node l x r, 0, _, _, _, _, h, _, _, _, _, _ => by simp at h
 | .node l x r, f + 1, over, under, par, cnt, hf, hh, hk, hp, hc, hs => by
  obtain ⟨q1, q2, q3, q4⟩ := hh
  obtain ⟨s1, s2, s3⟩ := hs
  have h' : KeysUp (keys l.inord ++ x.1 :: keys r.inord) := by
   have e : keys (Tr.node l x r).inord = keys l.inord ++ x.1 :: keys r.inord := by simp [Tr.inord, keys]
   rw [<- e]; exact hk
  obtain ⟨k1, ⟨k4, k5⟩, k3⟩ := ku_app h'
  have hlx : ∀ y ∈ l.inord, lessB y.1 x.1 = true := fun y hy => k3 _ (mem_keys hy) _ (List.mem_cons_self ..)
  have hxr : ∀ y ∈ r.inord, lessB x.1 y.1 = true := fun y hy => k4 _ (mem_keys hy)
  have hx := hp x (by simp [Tr.inord])
  simp only [Tr.size] at hf hc
  have hrs : emp (rootT wd (.node l x r)) = false := by
   unfold emp
   have : (rootT wd (.node l x r)).size = wd := digB_size _ _ h2
   rw [this, decide_eq_false]
   omega
  have hL := goF_tree h1 h2 l f over x.1 x.1 (cnt + 1) (by omega) q3 k1 (fun p hpl => ⟨(hp p (by simp [Tr.inord, hpl])).1, .inr (hlx p hpl), .inr (q1 p hpl)⟩) (by omega) s2
  have hR := goF_tree h1 h2 r f x.1 under x.1 (cnt + 1 + l.size) (by omega) q4 k5 (fun p hpr => ⟨hxr p hpr, (hp p (by simp [Tr.inord, hpr])).2.1, .inr (q2 p hpr)⟩) (by omega) s3
  have hins : (insW over under x.1 && parW hgW par x.1) = true := by
   unfold insW parW
   rw [hx.1, Bool.true_and, Bool.and_eq_true, Bool.or_eq_true, Bool.or_eq_true]
   exact ⟨hx.2.1, hx.2.2⟩
  rw [goF_node (by rw [hrs, canW_all]; rfl) s1 hins (by omega) hL hR, if_neg (by simp), if_neg (by simp), hasW_all, if_pos rfl]
  simp only [Tr.size, Tr.inord, Prod.mk.injEq, true_and]
  refine ⟨by omega, ?_⟩
  rw [List.append_assoc]
  rfl
theorem ku_of_map {ps : List PairT} (h : isMapT ps = true) : KeysUp (keys ps) := by
 have hm : mapTo ps ps.length = true := by
  unfold isMapT at h
  exact ((Bool.and_eq_true _ _).mp h).2
 have key : ∀ (l : List PairT), (∀ i j, i < j -> j < l.length -> lessB (l.getD i noPair).1 (l.getD j noPair).1 = true) -> KeysUp (keys l) := by
  intro l
  induction l with
  | nil => intro _; trivial
  | cons x xs ih =>
   intro hl
   refine ⟨fun k hk => ?_, ih fun i j hij hj => ?_⟩
   · obtain ⟨p, hp, rfl⟩ := List.mem_map.1 hk
     obtain ⟨i, hi, rfl⟩ := List.getElem_of_mem hp
     have := hl 0 (i + 1) (by omega) (by simpa using hi)
     have e0 : (x :: xs).getD 0 noPair = x := by simp [List.getD_eq_getElem?_getD]
     have e1 : (x :: xs).getD (i + 1) noPair = xs[i] := by simp [List.getD_eq_getElem?_getD, hi]
     rw [e0, e1] at this
     exact this
   · have := hl (i + 1) (j + 1) (by omega) (by simpa using hj)
     have e0 : ∀ q, (x :: xs).getD (q + 1) noPair = xs.getD q noPair := fun q => by simp [List.getD_eq_getElem?_getD]
     rw [e0, e0] at this
     exact this
 refine key ps fun i j hij hj => ?_
 have := mapTo_less ps ps.length hm i j hij hj
 unfold lessB
 rw [ByteArray.toList_eq, ByteArray.toList_eq]
 exact this
theorem saved_loads (D : Dec) (wd : Nat) (hD : DecEnc wd D) (h1 : 1 <= wd) (h2 : wd <= 32) {ss ad : List ByteArray} {ps : List PairT} (hm : isMapT ps = true) (hs : svAll wd ss (encsT wd (cutTree ps)) = .go ad) (hl : (ss ++ ad).length <= 20000) :
 rangeM (fndD D wd (ss ++ ad)) (wd : Int) (ss ++ ad).length (rootT wd (cutTree ps)) ⟨#[]⟩ ⟨#[]⟩ = (ps, 0) := by
 have hku := ku_of_map hm
 have hok := isMapT_ok ps hm
 have hin := cutTree_inord ps
 have hsz := cutTree_size ps
 have hps : ps.length <= 500 := by
  unfold isMapT at hm
  exact of_decide_eq_true ((Bool.and_eq_true _ _).mp hm).1
 have hH := has_all D wd hD h1 h2 (ss := ss) (ad := ad) (cutTree ps) (by rw [hin]; exact hok) (sv_has wd ss _ [] ad hs).2
 have hg := goF_tree h1 h2 (cutTree ps) 501 ⟨#[]⟩ ⟨#[]⟩ ⟨#[]⟩ 0 (by omega) (cutTree_heap ps (ku_apart hku)) (by rw [hin]; exact hku) (by
  rw [hin]
  intro p hp
  have hk := (hok p hp).1
  refine ⟨nil_less ?_, .inl rfl, .inl rfl⟩
  unfold okKey at hk
  rw [decide_eq_true_eq] at hk
  unfold emp
  exact decide_eq_false (by omega)) (by omega) hH
 have hpo : poolOk (wd : Int) (ss ++ ad).length = true := decide_eq_true ⟨by omega, by omega, hl⟩
 have hho : hashOk (rootT wd (cutTree ps)).size (wd : Int) = true := by
  have := rootT_size wd h2 (cutTree ps)
  unfold hashOk
  rw [Bool.or_eq_true, decide_eq_true_eq, decide_eq_true_eq]
  omega
 unfold rangeM
 rw [hpo, hho, Bool.and_self, if_pos rfl, hg, if_pos rfl, hin]
theorem getP_mem {ps : List PairT} {k : ByteArray} : (getP ps k).2 = true ↔ k ∈ keys ps := by
 induction ps with
 | nil => simp [getP, keys]
 | cons p ps ih =>
  rw [getP]
  by_cases e : p.1 = k
  · rw [if_pos e]; simp [keys, e]
  · rw [if_neg e, ih]
    have e' : ¬ k = p.1 := fun q => e q.symm
    simp [keys, e']
theorem getP_wout (ps : List PairT) (k x : ByteArray) : getP (wout ps k) x = if x = k then (⟨#[]⟩, false) else getP ps x := by
 induction ps with
 | nil => simp [wout, getP]
 | cons p ps ih =>
  unfold wout at ih ⊢
  rw [List.filter_cons]
  by_cases e : p.1 = k
  · rw [if_neg (by simp [e]), ih, getP]
    by_cases hx : x = k
    · rw [if_pos hx, if_pos hx]
    · rw [if_neg hx, if_neg hx, if_neg (by rw [e]; exact fun q => hx q.symm)]
  · rw [if_pos (by simp [e]), getP, getP, ih]
    by_cases h1 : p.1 = x
    · rw [if_pos h1, if_pos h1, if_neg (by rw [<- h1]; exact e)]
    · rw [if_neg h1, if_neg h1]
theorem getP_ins (k v x : ByteArray) : ∀ (ps : List PairT), (∀ y ∈ keys ps, y ≠ k) -> getP (ins k v ps) x = if x = k then (v, true) else getP ps x
 | [], _ => by
  by_cases h : x = k
  · rw [if_pos h, h]; simp [ins, getP]
  · rw [if_neg h]; simp [ins, getP]; exact fun q => h q.symm
 | p :: ps, hn => by
  have ih := getP_ins k v x ps (fun y hy => hn y (List.mem_cons_of_mem _ hy))
  have hp : p.1 ≠ k := hn p.1 List.mem_cons_self
  rw [ins]
  split
  · rw [getP]
    by_cases h : x = k
    · rw [if_pos h, if_pos h.symm]
    · rw [if_neg h, if_neg (fun q => h q.symm)]
  · rw [getP, ih, getP]
    by_cases h1 : p.1 = x
    · rw [if_pos h1, if_pos h1, if_neg (by rw [<- h1]; exact hp)]
    · rw [if_neg h1, if_neg h1]
theorem getP_wth (ps : List PairT) (k v x : ByteArray) : getP (wth ps k v) x = if x = k then (v, true) else getP ps x := by
 unfold wth
 rw [getP_ins k v x _ (fun y hy => (mem_wout.1 hy).2), getP_wout]
 by_cases h : x = k
 · rw [if_pos h, if_pos h]
 · rw [if_neg h, if_neg h, if_neg h]
theorem ku_not_mem {k : ByteArray} {ks : List ByteArray} (h : KeysUp (k :: ks)) : k ∉ ks := fun q => ne_of_less (h.1 k q) rfl
theorem maps_one : ∀ {a b : List PairT}, KeysUp (keys a) -> KeysUp (keys b) -> (∀ x, getP a x = getP b x) -> a = b := by
 intro a b ha hb hg
 have hk : keys a = keys b := KeysUp.one ha hb (fun x => by rw [<- getP_mem, <- getP_mem, hg x])
 induction a generalizing b with
 | nil =>
  cases b with
  | nil => rfl
  | cons q b => simp [keys] at hk
 | cons p a ih =>
  cases b with
  | nil => simp [keys] at hk
  | cons q b =>
   have h1 : p.1 = q.1 := by simp only [keys, List.map_cons, List.cons.injEq] at hk; exact hk.1
   have h2 : keys a = keys b := by simp only [keys, List.map_cons, List.cons.injEq] at hk; exact hk.2
   have h3 : p.2 = q.2 := by
    have := hg p.1
    rw [getP_hit, h1, getP_hit] at this
    exact congrArg Prod.fst this
   have na := ku_not_mem ha
   have nb := ku_not_mem hb
   have := ih ha.2 hb.2 (fun x => by
    by_cases e : p.1 = x
    · rw [<- e, getP_none na, h1, getP_none nb]
    · have := hg x
      rw [getP_skip e, getP_skip (by rw [<- h1]; exact e)] at this
      exact this) h2
   rw [this]
   obtain ⟨p1, p2⟩ := p
   obtain ⟨q1, q2⟩ := q
   simp only at h1 h3
   rw [h1, h3]
theorem getP_no {ps : List PairT} {k : ByteArray} (h : (getP ps k).2 = false) : getP ps k = (⟨#[]⟩, false) := getP_none (fun q => by rw [getP_mem.2 q] at h; cases h)
theorem fndD_more (D : Dec) (wd : Nat) (ss ad : List ByteArray) (h : ByteArray) (hf : (fndD D wd ss h).2 ≠ 2) : fndD D wd (ss ++ ad) h = fndD D wd ss h := by
 unfold fndD at hf ⊢
 rw [List.length_append, firstI_two]
 cases hi : firstI (hitB wd ss h) ss.length with
 | none =>
  rw [hi] at hf
  exact absurd rfl hf
 | some i =>
  have hl := firstI_lt hi
  have hg : (ss ++ ad).getD i ⟨#[]⟩ = ss.getD i ⟨#[]⟩ := by rw [List.getD_eq_getElem?_getD, List.getD_eq_getElem?_getD, List.getElem?_append_left hl]
  show foundR D (ss ++ ad) (some i) = foundR D ss (some i)
  simp only [foundR, hg]
theorem goF_more {fnd fnd' : ByteArray -> FN} {hg : ByteArray -> ByteArray -> Bool} {lo hi : ByteArray} (hm : ∀ h, (fnd h).2 ≠ 2 -> fnd' h = fnd h) : ∀ (f : Nat) (hash over under par : ByteArray) (cnt : Nat), (goF fnd hg lo hi f hash over under par cnt).1 = 0 -> goF fnd' hg lo hi f hash over under par cnt = goF fnd hg lo hi f hash over under par cnt
 | 0, _, _, _, _, _, _ => rfl
 | f + 1, hash, over, under, par, cnt, h0 => by
  by_cases h1 : (emp hash || !canW over under lo hi) = true
  · rw [goF, if_pos h1, goF, if_pos h1]
  · by_cases h2 : (fnd hash).2 = 2
    · rw [goF, if_neg h1, if_pos h2] at h0
      exact absurd h0 (by decide)
    · have he := hm hash h2
      by_cases h3 : (fnd hash).2 ≠ 0
      · rw [goF, if_neg h1, if_neg h2, if_pos h3] at h0
        exact absurd h0 (by decide)
      · by_cases h4 : (insW over under (fnd hash).1.1 && parW hg par (fnd hash).1.1) = false
        · rw [goF, if_neg h1, if_neg h2, if_neg h3, if_pos h4] at h0
          exact absurd h0 (by decide)
        · by_cases h5 : 500 < cnt + 1
          · rw [goF, if_neg h1, if_neg h2, if_neg h3, if_neg h4, if_pos h5] at h0
            exact absurd h0 (by decide)
          · by_cases h6 : (goF fnd hg lo hi f (fnd hash).1.2.2.1 over (fnd hash).1.1 (fnd hash).1.1 (cnt + 1)).1 ≠ 0
            · rw [goF, if_neg h1, if_neg h2, if_neg h3, if_neg h4, if_neg h5, if_pos h6] at h0
              exact absurd h0 h6
            · have e1 := goF_more hm f (fnd hash).1.2.2.1 over (fnd hash).1.1 (fnd hash).1.1 (cnt + 1) (Classical.byContradiction h6)
              by_cases h7 : (goF fnd hg lo hi f (fnd hash).1.2.2.2 (fnd hash).1.1 under (fnd hash).1.1 (goF fnd hg lo hi f (fnd hash).1.2.2.1 over (fnd hash).1.1 (fnd hash).1.1 (cnt + 1)).2.1).1 ≠ 0
              · rw [goF, if_neg h1, if_neg h2, if_neg h3, if_neg h4, if_neg h5, if_neg h6, if_pos h7] at h0
                exact absurd h0 h7
              · have e2 := goF_more hm f (fnd hash).1.2.2.2 (fnd hash).1.1 under (fnd hash).1.1 (goF fnd hg lo hi f (fnd hash).1.2.2.1 over (fnd hash).1.1 (fnd hash).1.1 (cnt + 1)).2.1 (Classical.byContradiction h7)
                rw [goF, he, e1, e2, <- goF]
theorem rangeM_more (D : Dec) (wd : Nat) (ss ad : List ByteArray) (root lo hi : ByteArray) (hl : (ss ++ ad).length <= 20000) (h : (rangeM (fndD D wd ss) (wd : Int) ss.length root lo hi).2 = 0) :
 rangeM (fndD D wd (ss ++ ad)) (wd : Int) (ss ++ ad).length root lo hi = rangeM (fndD D wd ss) (wd : Int) ss.length root lo hi := by
 by_cases hp : (poolOk (wd : Int) ss.length && hashOk root.size (wd : Int)) = true
 · have hp2 := (Bool.and_eq_true _ _).mp hp
   have hp' : 1 <= (wd : Int) /\ (wd : Int) <= 32 /\ ss.length <= 20000 := of_decide_eq_true hp2.1
   have hq : (poolOk (wd : Int) (ss ++ ad).length && hashOk root.size (wd : Int)) = true := by
    rw [Bool.and_eq_true]
    exact ⟨decide_eq_true ⟨hp'.1, hp'.2.1, hl⟩, hp2.2⟩
   rw [rangeM_ok hp rfl] at h ⊢
   rw [rangeM_ok hq rfl]
   by_cases h0 : (goF (fndD D wd ss) hgW lo hi 501 root ⟨#[]⟩ ⟨#[]⟩ ⟨#[]⟩ 0).1 = 0
   · rw [goF_more (fun x hx => fndD_more D wd ss ad x hx) 501 root ⟨#[]⟩ ⟨#[]⟩ ⟨#[]⟩ 0 h0]
   · rw [if_neg h0] at h
     exact absurd h h0
 · rw [rangeM_bad (by simpa using hp)] at h
   exact absurd h (show ¬ (1 : Int) = 0 by decide)
theorem dec_all (n : Int) : ∃ D : Dec, (∀ wd : Nat, (wd : Int) = n -> DecOk wd D) /\ Hid (∀ wd : Nat, (wd : Int) = n -> 1 <= wd -> wd <= 32 -> DecSaid 181 wd D) /\ Hid (∀ wd : Nat, (wd : Int) = n -> 1 <= wd -> wd <= 32 -> DecSaid 148 wd D) /\ ∀ wd : Nat, (wd : Int) = n -> DecEnc wd D := by
 obtain ⟨f, hf⟩ := Classical.axiomOfChoice (dec_ex n)
 obtain ⟨D, hD⟩ : ∃ D : Dec, D = ⟨fun s => (f s).1, fun s => (f s).2.1, fun s => (f s).2.2.1, fun s => (f s).2.2.2.1, fun s => (f s).2.2.2.2⟩ := ⟨_, rfl⟩
 refine ⟨D, fun wd hwd s hs => ?_, ?_, ?_, fun wd hwd k v l r ho => ?_⟩
 · have h1 := hf s
   rw [hD] at hs
   simp only at hs
   rw [hs] at h1
   have h2 := nodeOk_out (decOk_of h1)
   rw [hD]
   simp only
   unfold okKey okVal
   refine ⟨decide_eq_true (by omega), decide_eq_true (by omega), by omega, by omega⟩
 · intro wd hwd _ _ s w' hs
   refine (dec_impl s wd w' hs).mono ?_
   rintro e w'' ⟨h1, hb⟩
   rw [hwd] at h1
   rw [hD]
   exact ⟨h1.one (hf s), hb⟩
 · intro wd hwd _ _ s w' hs
   refine (dec_any s wd w' hs).mono ?_
   rintro e w'' ⟨h1, hb⟩
   rw [hwd] at h1
   rw [hD]
   exact ⟨h1.one (hf s), hb⟩
 · subst hwd
   have hE : IsEnc (encS k v l r wd) (wd : Int) k v l r := ⟨ho, by unfold encS; rw [if_pos ho]⟩
   rcases hf (encS k v l r wd) with ⟨k', v', l', r', h1, h2⟩ | ⟨h1, _⟩
   · obtain ⟨rfl, rfl, rfl, rfl⟩ := hE.inj h1
     simp only [nodeV, Ending.returned.injEq, Value.tuple.injEq, Array.mk.injEq, List.cons.injEq, Value.agg.injEq, Value.string.injEq, Value.bool.injEq] at h2
     obtain ⟨⟨e1, e2, e3, e4, _⟩, e5, _⟩ := h2
     rw [hD]
     exact ⟨e5, e1, e2, e3, e4⟩
   · exact absurd hE (h1 k v l r)
theorem wout_wth (ps : List PairT) (hp : KeysUp (keys ps)) (k v : ByteArray) : wout (wth ps k v) k = wout ps k := by
 refine maps_one (ku_wout (ku_wth hp k v) k) (ku_wout hp k) fun x => ?_
 rw [getP_wout, getP_wout, getP_wth]
 by_cases h : x = k
 · rw [if_pos h, if_pos h]
 · rw [if_neg h, if_neg h, if_neg h]
theorem firstI_is {p : Nat -> Bool} : ∀ {k i : Nat}, firstI p k = some i -> p i = true
 | 0, i, h => by simp [firstI] at h
 | k + 1, i, h => by
  rw [firstI] at h
  cases hk : firstI p k with
  | some j =>
   rw [hk] at h
   cases h
   exact firstI_is hk
  | none =>
   rw [hk] at h
   simp only at h
   split at h
   · cases h; assumption
   · cases h
theorem fst2_is {wd : Nat} {ss ad : List ByteArray} {e u : ByteArray} (h : fst2 wd ss ad (hashT wd e) = some u) : hashT wd u = hashT wd e /\ u ∈ ss ++ ad := by
 unfold fst2 at h
 cases hi : firstI (hitB wd (ss ++ ad) (hashT wd e)) (ss.length + ad.length) with
 | none => rw [hi] at h; cases h
 | some i =>
  rw [hi] at h
  simp only [Option.map_some, Option.some.injEq] at h
  have h1 := firstI_is hi
  have hl := firstI_lt hi
  unfold hitB at h1
  rw [h, decide_eq_true_eq] at h1
  refine ⟨?_, ?_⟩
  · unfold hashT at h1 ⊢
    simp only at h1
    rw [h1]
  · rw [<- h, List.getD_eq_getElem?_getD, List.getElem?_eq_getElem (by rw [List.length_append]; omega)]
    exact List.getElem_mem _
theorem sv_ends (wd : Nat) (ss : List ByteArray) : ∀ (es ad0 : List ByteArray), (∀ u e, es.foldl (svStep wd ss) (.go ad0) = .clash u e -> u ≠ e /\ hashT wd u = hashT wd e /\ (u ∈ ss \/ u ∈ ad0 \/ u ∈ es) /\ e ∈ es) /\ (es.foldl (svStep wd ss) (.go ad0) = .full -> 20000 <= ss.length + ad0.length + es.length)
 | [], ad0 => ⟨fun u e h => (by cases h), fun h => (by cases h)⟩
 | e :: es, ad0 => by
  rw [List.foldl_cons]
  cases hf : fst2 wd ss ad0 (hashT wd e) with
  | some u =>
   rw [svStep_some hf]
   split
   · obtain ⟨a1, a2⟩ := sv_ends wd ss es ad0
     refine ⟨fun u' e' h => ?_, fun h => by have := a2 h; rw [List.length_cons]; omega⟩
     obtain ⟨b1, b2, b3, b4⟩ := a1 u' e' h
     exact ⟨b1, b2, b3.imp id (fun q => q.imp id (List.mem_cons_of_mem _)), List.mem_cons_of_mem _ b4⟩
   · rename_i hne
     rw [sv_stuck wd ss es _ rfl]
     refine ⟨fun u' e' h => ?_, fun h => by cases h⟩
     cases h
     obtain ⟨b1, b2⟩ := fst2_is hf
     refine ⟨hne, b1, ?_, List.mem_cons_self⟩
     rcases List.mem_append.1 b2 with q | q
     · exact .inl q
     · exact .inr (.inl q)
  | none =>
   rw [svStep_none hf]
   split
   · rename_i hfl
     rw [sv_stuck wd ss es _ rfl]
     refine ⟨fun u' e' h => (by cases h), fun _ => ?_⟩
     rw [List.length_cons]
     omega
   · obtain ⟨a1, a2⟩ := sv_ends wd ss es (ad0 ++ [e])
     refine ⟨fun u' e' h => ?_, fun h => by have := a2 h; rw [List.length_append] at this; rw [List.length_cons]; simp at this; omega⟩
     obtain ⟨b1, b2, b3, b4⟩ := a1 u' e' h
     refine ⟨b1, b2, ?_, List.mem_cons_of_mem _ b4⟩
     rcases b3 with q | q | q
     · exact .inl q
     · rcases List.mem_append.1 q with q | q
       · exact .inr (.inl q)
       · exact .inr (.inr (by rw [List.mem_singleton.1 q]; exact List.mem_cons_self))
     · exact .inr (.inr (List.mem_cons_of_mem _ q))
theorem savO_cases {wd n k s : Nat} {ss : List ByteArray} {ps : List PairT} (hs : SmT ss n s) (h10 : 10000 <= s) (hp : ps.length <= k) (hnk : n + k < 20000) :
 (∃ ad, svAll wd ss (encsT wd (cutTree ps)) = .go ad /\ savO wd ss (cutTree ps) = ⟨0, (wd : Int), ss ++ ad, rootT wd (cutTree ps), ⟨#[]⟩, ⟨#[]⟩⟩ /\ SmT (ss ++ ad) (n + k) s) ∨
 (∃ u e, savO wd ss (cutTree ps) = ⟨4, (wd : Int), ss, ⟨#[]⟩, txt u, txt e⟩ /\ u ≠ e /\ hashT wd u = hashT wd e /\ u.size <= s /\ e.size <= s) := by
 have hen := sv_ends wd ss (encsT wd (cutTree ps)) []
 unfold savO
 cases hR : svAll wd ss (encsT wd (cutTree ps)) with
 | full =>
  have := hen.2 hR
  rw [encsT_len, cutTree_size] at this
  have h1 := hs.len
  simp at this
  omega
 | clash u e =>
  obtain ⟨b1, b2, b3, b4⟩ := hen.1 u e hR
  refine .inr ⟨u, e, rfl, b1, b2, ?_, Nat.le_trans (encsT_size wd _ e b4) h10⟩
  rcases b3 with q | q | q
  · exact hs.sz u q
  · cases q
  · exact Nat.le_trans (encsT_size wd _ u q) h10
 | go ad =>
  obtain ⟨a1, a2⟩ := sv_sub wd ss _ [] ad hR
  refine .inl ⟨ad, rfl, rfl, hs.app ⟨?_, fun x hx => ?_⟩⟩
  · rw [encsT_len, cutTree_size] at a2
    simp at a2
    omega
  · rcases a1 x hx with q | q
    · cases q
    · exact Nat.le_trans (encsT_size wd _ x q) h10
theorem rangeM_okp {fnd : ByteArray -> FN} {wd : Nat} (hfo : FndOk wd fnd) (n : Int) (m : Nat) (root lo hi : ByteArray) : ∀ p ∈ (rangeM fnd n m root lo hi).1, okKey p.1 = true /\ okVal p.2 = true := by
 unfold rangeM
 intro p hp
 split at hp
 · split at hp
   · exact goF_ok hfo 501 root ⟨#[]⟩ ⟨#[]⟩ ⟨#[]⟩ 0 p hp
   · simp at hp
 · simp at hp
theorem mem_wth2 {ps : List PairT} {k v : ByteArray} {p : PairT} (h : p ∈ wth ps k v) : p = (k, v) \/ p ∈ ps := by
 rcases mem_ins' h with q | q
 · exact .inl q
 · exact .inr (List.mem_filter.1 q).1
theorem fst2_app {wd : Nat} {ss : List ByteArray} {h u : ByteArray} (hf : fst2 wd ss [] h = some u) (ad : List ByteArray) : fst2 wd ss ad h = some u := by
 obtain ⟨bs, hb⟩ : ∃ bs, ad.reverse = bs := ⟨_, rfl⟩
 obtain rfl : ad = bs.reverse := by rw [<- hb, List.reverse_reverse]
 clear hb
 induction bs with
 | nil => exact hf
 | cons b bs ih => rw [List.reverse_cons]; exact fst2_more ih
theorem fst2_one (wd : Nat) (ss ad : List ByteArray) (h : ByteArray) : fst2 wd (ss ++ ad) [] h = fst2 wd ss ad h := by
 unfold fst2
 rw [List.append_nil, List.length_append]
 rfl
theorem sv_same {wd : Nat} {ss : List ByteArray} : ∀ (es : List ByteArray), (∀ e ∈ es, fst2 wd ss [] (hashT wd e) = some e) -> es.foldl (svStep wd ss) (.go []) = .go []
 | [], _ => rfl
 | e :: es, h => by
  have h1 := h e (List.mem_cons_self ..)
  have hs : svStep wd ss (.go []) e = .go [] := by
   unfold fst2 at h1
   rw [Option.map_eq_some_iff] at h1
   obtain ⟨i, hi, hg⟩ := h1
   unfold svStep
   simp only [hi]
   rw [if_pos hg]
  rw [List.foldl_cons, hs]
  exact sv_same es (fun x hx => h x (List.mem_cons_of_mem _ hx))
theorem wout_no {ps : List PairT} {k : ByteArray} (h : k ∉ keys ps) : wout ps k = ps := by
 unfold wout
 rw [List.filter_eq_self]
 intro p hp
 have : p.1 ≠ k := fun e => h (by rw [<- e]; exact List.mem_map_of_mem hp)
 simpa using this
structure RS (D : Dec) (wd : Nat) (ss : List ByteArray) (root : ByteArray) (m : List PairT) (M : Nat) : Prop where
 sm : SmT ss M 10001
 ld : rangeM (fndD D wd ss) (wd : Int) ss.length root ⟨#[]⟩ ⟨#[]⟩ = (m, 0)
 rt : root = rootT wd (cutTree m)
 all : ∀ e ∈ encsT wd (cutTree m), fst2 wd ss [] (hashT wd e) = some e
section
variable {D : Dec} {wd : Nat} {ss : List ByteArray} {root : ByteArray} {m : List PairT} {M : Nat}
theorem RS.up (hdo : DecOk wd D) (h : RS D wd ss root m M) : KeysUp (keys m) := by
 have := rangeM_up (fndD_ok D wd ss hdo) (wd : Int) ss.length root ⟨#[]⟩ ⟨#[]⟩
 rw [h.ld] at this
 exact this
theorem RS.ok (hdo : DecOk wd D) (h : RS D wd ss root m M) : ∀ p ∈ m, okKey p.1 = true /\ okVal p.2 = true := by
 have := rangeM_okp (fndD_ok D wd ss hdo) (wd : Int) ss.length root ⟨#[]⟩ ⟨#[]⟩
 rw [h.ld] at this
 exact this
theorem RS.put (hD : DecEnc wd D) (hdo : DecOk wd D) (h1 : 1 <= wd) (h2 : wd <= 32) (h : RS D wd ss root m M) {key val : ByteArray} (hk : okKey key = true) (hv : okVal val = true) (hml : m.length <= 41) (hM : M <= 19000) :
 (∃ ad, putO D (wd : Int) ss root key val = ⟨0, (wd : Int), ss ++ ad, rootT wd (cutTree (wth m key val)), ⟨#[]⟩, ⟨#[]⟩⟩ /\ RS D wd (ss ++ ad) (rootT wd (cutTree (wth m key val))) (wth m key val) (M + 42) /\ ∀ x, rangeM (fndD D wd ss) (wd : Int) ss.length x ⟨#[]⟩ ⟨#[]⟩ = (m, 0) -> rangeM (fndD D wd (ss ++ ad)) (wd : Int) (ss ++ ad).length x ⟨#[]⟩ ⟨#[]⟩ = (m, 0)) ∨
 (∃ u e, putO D (wd : Int) ss root key val = ⟨4, (wd : Int), ss, ⟨#[]⟩, txt u, txt e⟩ /\ u ≠ e /\ hashT wd u = hashT wd e /\ u.size <= 10001 /\ e.size <= 10001) := by
 have hku := h.up hdo
 have hok := h.ok hdo
 have hwl := wth_len m key val
 have hmap : isMapT (wth m key val) = true := isMapT_of (ku_wth hku key val) (fun p hp => by
  rcases mem_wth2 hp with q | q
  · rw [q]; exact ⟨hk, hv⟩
  · exact hok p q) (by omega)
 have hput : putO D (wd : Int) ss root key val = savO wd ss (cutTree (wth m key val)) := by
  have hcd : putCd key val m = 0 := by
   unfold putCd
   rw [if_pos (by rw [hk, hv]; rfl)]
   split
   · omega
   · rfl
  unfold putO chgO
  rw [Int.toNat_natCast, h.ld]
  simp only [ne_eq, not_true_eq_false, if_false, hcd]
 rw [hput]
 have hsl := h.sm.len
 rcases savO_cases (wd := wd) (k := 42) (ps := wth m key val) h.sm (by omega) (by omega) (by omega) with ⟨ad, hsv, he, hsm⟩ | q
 · have hl2 : (ss ++ ad).length <= 20000 := by have := hsm.len; omega
   have hld := saved_loads D wd hD h1 h2 hmap hsv hl2
   refine .inl ⟨ad, he, ⟨hsm, hld, rfl, fun e hx => ?_⟩, fun x hx => ?_⟩
   · rw [fst2_one]
     exact (sv_has wd ss _ [] ad hsv).2 e hx
   · rw [rangeM_more D wd ss ad x ⟨#[]⟩ ⟨#[]⟩ hl2 (by rw [hx]), hx]
 · exact .inr q
theorem RS.back (hdo : DecOk wd D) (h : RS D wd ss root m M) {other gone : ByteArray} (hk : okKey other = true) (hno : other ∉ keys m) {ad : List ByteArray} {R : ByteArray} {M2 : Nat} (h2 : RS D wd (ss ++ ad) R (wth m other gone) M2) (hmo : rangeM (fndD D wd (ss ++ ad)) (wd : Int) (ss ++ ad).length root ⟨#[]⟩ ⟨#[]⟩ = (m, 0)) :
 delO D (wd : Int) (ss ++ ad) R other = ⟨0, (wd : Int), ss ++ ad, root, ⟨#[]⟩, ⟨#[]⟩⟩ /\ RS D wd (ss ++ ad) root m M2 := by
 have hku := h.up hdo
 have hall : ∀ e ∈ encsT wd (cutTree m), fst2 wd (ss ++ ad) [] (hashT wd e) = some e := fun e he => by
  rw [fst2_one]
  exact fst2_app (h.all e he) ad
 refine ⟨?_, h2.sm, hmo, h.rt, hall⟩
 unfold delO chgO
 rw [Int.toNat_natCast, h2.ld]
 simp only [ne_eq, not_true_eq_false, if_false]
 rw [if_pos hk, wout_wth m hku other gone, wout_no hno]
 simp only [not_true_eq_false, if_false]
 unfold savO svAll
 rw [sv_same _ hall, <- h.rt]
 show (⟨0, (wd : Int), ss ++ ad ++ [], root, ⟨#[]⟩, ⟨#[]⟩⟩ : SvO) = _
 rw [List.append_nil]
end
end Go.Proofs.YtfmpjlpakldheaaGreatDoor
