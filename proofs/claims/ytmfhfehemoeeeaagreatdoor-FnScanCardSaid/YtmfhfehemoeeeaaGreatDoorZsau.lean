import Derived.Test.YtmfhfehemoeeeaaGreatDoorZsak
import Derived.Test.YtmfhfehemoeeeaaGreatDoorZsat
namespace Go.Proofs.YtmfhfehemoeeeaaGreatDoor
open Go.RowKit Go.Proofs.Sha

/-- The records that are written. -/
inductive Rc
  | nd (e : ByteArray)
  | cm (v : Nat) (root : ByteArray)
def Rc.txt : Rc → ByteArray
  | .nd e => nodeRec e
  | .cm v r => commitRec (v : Int) r
def Rc.sec : Rc → Nat
  | .nd e => secs e.size
  | .cm _ _ => 1
def Rc.ok : Rc → Prop
  | .nd e => 1 ≤ e.size ∧ e.size ≤ 4000
  | .cm v r => 1 ≤ v ∧ v ≤ 1000000 ∧ r.size ≤ 32
/-- The record stands at this byte of a text. -/
def Rc.At (s : ByteArray) (a : Nat) : Rc → Prop
  | .nd e => IsNode s a e
  | .cm v r => IsCommit s a (v : Int) r
theorem Rc.pos (r : Rc) : 1 ≤ r.sec := by
  cases r with
  | nd e => show 1 ≤ secs e.size; unfold secs; omega
  | cm v r => exact Nat.le_refl _
theorem Rc.size {r : Rc} (h : r.ok) : r.txt.size = 64 * r.sec := by
  cases r with
  | nd e =>
    show (nodeRec e).size = 64 * secs e.size
    rw [nodeRec, if_pos (show 1 ≤ e.size ∧ e.size ≤ 4000 from h), marked, secs_eq, T_size]
    exact markedTo_len1 _ _ _ _
  | cm v r =>
    show (commitRec (v : Int) r).size = 64
    obtain ⟨h1, h2, h3⟩ := h
    rw [commit_text (by omega) (by omega) h3, T_size]
    simp only [markedTo, List.nil_append, if_true]
    rw [List.length_append, part63_length]; rfl
theorem Rc.at_of {r : Rc} {s : ByteArray} {a : Nat} (h : r.ok) (hs : a + 64 * r.sec ≤ s.size) (hx : s.extract a (a + 64 * r.sec) = r.txt) : r.At s a := by
  cases r with
  | nd e => exact ⟨h.1, h.2, hs, hx⟩
  | cm v r => exact ⟨by have := h.1; omega, by have := h.2.1; omega, h.2.2, hs, hx⟩

/-- Bytes of an extract. -/
theorem ex_toList (s : ByteArray) (a b : Nat) : (s.extract a b).data.toList = (s.data.toList.drop a).take (b - a) := by
  conv => lhs; rw [← T_of s, T_extract]
  rfl
/-- Two texts that agree up to a byte. -/
def Agree (s s' : ByteArray) (b : Nat) : Prop := ∀ p, p < b → s'.data.toList[p]? = s.data.toList[p]?
theorem Agree.ex {s s' : ByteArray} {b : Nat} (h : Agree s s' b) (x y : Nat) (hy : y ≤ b) : s'.extract x y = s.extract x y := by
  apply ByteArray.ext; apply Array.ext'
  rw [ex_toList, ex_toList]
  apply List.ext_getElem?
  intro i
  by_cases hi : i < y - x
  · rw [List.getElem?_take_of_lt hi, List.getElem?_take_of_lt hi, List.getElem?_drop, List.getElem?_drop, h _ (by omega)]
  · rw [List.getElem?_eq_none (by rw [List.length_take]; omega), List.getElem?_eq_none (by rw [List.length_take]; omega)]
theorem Agree.getD {s s' : ByteArray} {b : Nat} (h : Agree s s' b) (p : Nat) (hp : p < b) : s'.data.toList.getD p 0 = s.data.toList.getD p 0 := by
  rw [List.getD_eq_getElem?_getD, List.getD_eq_getElem?_getD, h p hp]
theorem Agree.num {s s' : ByteArray} {b : Nat} (h : Agree s s' b) (a : Nat) (ha : a + 4 ≤ b) : numAt s' a = numAt s a := by
  unfold numAt
  rw [h.getD a (by omega), h.getD (a + 1) (by omega), h.getD (a + 2) (by omega), h.getD (a + 3) (by omega)]

/-- All of them stand, one behind the other, from a sector on. -/
def Placed (s : ByteArray) : Nat → List Rc → Prop
  | _, [] => True
  | n, r :: rs => r.At s (64 * n) ∧ Placed s (n + r.sec) rs
def totS : List Rc → Nat
  | [] => 0
  | r :: rs => r.sec + totS rs
theorem totS_app (xs ys : List Rc) : totS (xs ++ ys) = totS xs + totS ys := by
  induction xs with
  | nil => simp [totS]
  | cons x r ih => rw [List.cons_append, totS, totS, ih, Nat.add_assoc]
def imgT : List Rc → ByteArray
  | [] => ⟨#[]⟩
  | r :: rs => r.txt ++ imgT rs
theorem ba_nil (s : ByteArray) : (⟨#[]⟩ : ByteArray) ++ s = s := by apply ByteArray.ext; simp
theorem ba_nil_r (s : ByteArray) : s ++ (⟨#[]⟩ : ByteArray) = s := by apply ByteArray.ext; simp
theorem imgT_app (xs ys : List Rc) : imgT (xs ++ ys) = imgT xs ++ imgT ys := by
  induction xs with
  | nil => rw [List.nil_append, imgT, ba_nil]
  | cons x r ih => rw [List.cons_append, imgT, imgT, ih, ByteArray.append_assoc]
theorem imgT_size {rs : List Rc} (h : ∀ r ∈ rs, r.ok) : (imgT rs).size = 64 * totS rs := by
  induction rs with
  | nil => rfl
  | cons x r ih =>
    rw [imgT, totS, ByteArray.size_append, Rc.size (h x (List.mem_cons_self ..)), ih (fun y hy => h y (List.mem_cons_of_mem _ hy))]; omega
theorem placed_of {s : ByteArray} : ∀ {rs : List Rc} {n : Nat} {p : ByteArray} {q : ByteArray}, (∀ r ∈ rs, r.ok) → p.size = 64 * n → s = p ++ imgT rs ++ q → Placed s n rs
  | [], _, _, _, _, _, _ => trivial
  | r :: rs, n, p, q, h, hp, hs => by
    have hr := h r (List.mem_cons_self ..)
    have hz := Rc.size hr
    refine ⟨Rc.at_of hr ?_ ?_, placed_of (p := p ++ r.txt) (q := q) (fun x hx => h x (List.mem_cons_of_mem _ hx)) ?_ ?_⟩
    · rw [hs, imgT, ByteArray.size_append, ByteArray.size_append, ByteArray.size_append, hz, hp]; omega
    · apply ByteArray.ext; apply Array.ext'
      rw [ex_toList, hs, imgT]
      simp only [ByteArray.data_append, Array.toList_append, List.append_assoc]
      have e1 : p.data.toList.length = 64 * n := hp
      have e2 : r.txt.data.toList.length = 64 * r.sec := hz
      rw [List.drop_left' e1, Nat.add_sub_cancel_left, List.take_left' e2]
    · rw [ByteArray.size_append, hp, hz]; omega
    · rw [hs, imgT]; simp only [ByteArray.append_assoc]
theorem Placed.agree {s s' : ByteArray} {b : Nat} (hA : Agree s s' b) (hb : b ≤ s'.size) : ∀ {rs : List Rc} {n : Nat}, Placed s n rs → 64 * (n + totS rs) ≤ b → Placed s' n rs
  | [], _, _, _ => trivial
  | r :: rs, n, h, hn => by
    rw [totS] at hn
    refine ⟨?_, Placed.agree hA hb h.2 (by omega)⟩
    have h1 := h.1
    have hp := r.pos
    cases r with
    | nd e =>
      simp only [Rc.sec] at hn
      exact ⟨h1.1, h1.2.1, Nat.le_trans (by omega) hb, by rw [hA.ex _ _ (by omega)]; exact h1.2.2.2⟩
    | cm v r =>
      simp only [Rc.sec] at hn
      exact ⟨h1.1, h1.2.1, h1.2.2.1, Nat.le_trans (by omega) hb, by rw [hA.ex _ _ (by omega)]; exact h1.2.2.2.2⟩

/-- What a record does to what was read. -/
def appR (st : SS) : Rc → SS
  | .nd e => ⟨st.nodes, st.aside ++ [e], st.roots, st.fin, st.sec + secs e.size⟩
  | .cm _ root => ⟨st.nodes ++ st.aside, [], st.roots ++ [root], (st.sec + 1) * 64, st.sec + 1⟩
def goodR (wd : Nat) (st : SS) : Rc → Prop
  | .nd _ => True
  | .cm v root => v = st.roots.length + 1 ∧ (root.size = 0 ∨ anyHit wd (st.nodes ++ st.aside) root = true)
def GoodL (wd : Nat) : SS → List Rc → Prop
  | _, [] => True
  | st, r :: rs => goodR wd st r ∧ GoodL wd (appR st r) rs
theorem GoodL.app {wd : Nat} : ∀ {xs ys : List Rc} {st : SS}, GoodL wd st xs → GoodL wd (xs.foldl appR st) ys → GoodL wd st (xs ++ ys)
  | [], _, _, _, h => h
  | _ :: _, _, _, h1, h2 => ⟨h1.1, GoodL.app h1.2 h2⟩
theorem GoodL.left {wd : Nat} : ∀ {xs ys : List Rc} {st : SS}, GoodL wd st (xs ++ ys) → GoodL wd st xs
  | [], _, _, _ => trivial
  | _ :: _, _, _, h => ⟨h.1, GoodL.left h.2⟩
theorem fold_sec : ∀ (rs : List Rc) (st : SS), (rs.foldl appR st).sec = st.sec + totS rs
  | [], st => rfl
  | r :: rs, st => by
    rw [List.foldl_cons, fold_sec rs, totS]
    cases r <;> simp only [appR, Rc.sec] <;> omega

def Reads (s : ByteArray) (R : Nat → RecT) : Prop := ∀ n : Nat, readPost s (n : Int) (.returned (recT (R n))) ∧ RecOk s.size n (R n)
theorem recT_fields {x y : RecT} (h : (Ending.returned (recT x)) = .returned (recT y)) : x.k = y.k ∧ x.enc = y.enc ∧ x.v = y.v ∧ x.root = y.root ∧ x.nx = y.nx := by
  unfold recT recV at h
  simp only [Ending.returned.injEq, Value.agg.injEq, Array.mk.injEq, List.cons.injEq, Value.int.injEq, Value.string.injEq, true_and, and_true] at h
  obtain ⟨h1, h2, h3, h4, h5⟩ := h
  exact ⟨h1, h2, h3, h4, by omega⟩
theorem step_of {s : ByteArray} {R : Nat → RecT} {wd : Nat} (hR : Reads s R) {st : SS} {r : Rc} (hat : r.At s (64 * st.sec)) (hg : goodR wd st r) : stepS R wd st = some (appR st r) := by
  have hr := (hR st.sec).1
  have e : 64 * (st.sec : Int).toNat = 64 * st.sec := by omega
  cases r with
  | nd x =>
    have h1 : readPost s (st.sec : Int) (.returned (recT ⟨1, x, 0, ⟨#[]⟩, st.sec + secs x.size⟩)) := .inl ⟨x, by omega, by rw [e]; exact hat, by unfold recT; congr 2⟩
    obtain ⟨f1, f2, f3, f4, f5⟩ := recT_fields (hr.one h1)
    rw [stepS, if_pos f1, f2, f5]; rfl
  | cm v root =>
    have h1 : readPost s (st.sec : Int) (.returned (recT ⟨2, ⟨#[]⟩, (v : Int), root, st.sec + 1⟩)) := .inr (.inl ⟨(v : Int), root, by omega, by rw [e]; exact hat, by unfold recT; congr 2⟩)
    obtain ⟨f1, f2, f3, f4, f5⟩ := recT_fields (hr.one h1)
    have hgc : goodC wd st (R st.sec) = true := by
      unfold goodC
      rw [f3, f4, Bool.and_eq_true, Bool.or_eq_true]
      refine ⟨decide_eq_true ?_, hg.2.elim (fun h => .inl (decide_eq_true h)) .inr⟩
      have := hg.1
      show (v : Int) = _
      omega
    rw [stepS, if_neg (by rw [f1]; show ¬ (2 : Int) = 1; decide), if_pos ⟨f1, hgc⟩, f4, f5]; rfl
theorem reach_go {s : ByteArray} {R : Nat → RecT} {wd : Nat} (hR : Reads s R) : ∀ {rs : List Rc} {st : SS}, Reach R wd st → GoodL wd st rs → Placed s st.sec rs → Reach R wd (rs.foldl appR st)
  | [], _, h, _, _ => h
  | r :: rs, st, h, hg, hp => by
    rw [List.foldl_cons]
    refine reach_go hR (h.step (step_of hR hp.1 hg.1)) hg.2 ?_
    have := hp.2
    cases r <;> exact this
theorem stop_of {s : ByteArray} {R : Nat → RecT} {wd : Nat} (hR : Reads s R) {st : SS} (h1 : ∀ enc, ¬ IsNode s (64 * st.sec) enc) (h2 : ∀ v root, ¬ IsCommit s (64 * st.sec) v root) : stepS R wd st = none := by
  have e : 64 * (st.sec : Int).toNat = 64 * st.sec := by omega
  have hz : readPost s (st.sec : Int) (.returned (recT ⟨0, ⟨#[]⟩, 0, ⟨#[]⟩, 0⟩)) := .inr (.inr ⟨fun _ => by rw [e]; exact ⟨h1, h2⟩, rfl⟩)
  obtain ⟨f1, _⟩ := recT_fields ((hR st.sec).1.one hz)
  rw [stepS, if_neg (by rw [f1]; decide), if_neg (by rw [f1]; rintro ⟨h, _⟩; exact absurd h (by decide))]
/-- What a scan gives, where the records are known and nothing can be read behind them. -/
theorem scan_is {s : ByteArray} {R : Nat → RecT} {wd : Nat} (hR : Reads s R) {rs : List Rc} (hg : GoodL wd st0 rs) (hp : Placed s 0 rs) (h1 : ∀ enc, ¬ IsNode s (64 * totS rs) enc) (h2 : ∀ v root, ¬ IsCommit s (64 * totS rs) v root) {st : SS} (hr : Reach R wd st) (hs : stepS R wd st = none) : st = rs.foldl appR st0 := by
  have e : (rs.foldl appR st0).sec = totS rs := by rw [fold_sec]; show 0 + _ = _; omega
  exact hr.one (reach_go hR .zero hg hp) hs (stop_of hR (by rw [e]; exact h1) (by rw [e]; exact h2))

/-- The records that end at or before a byte. -/
def cutR (b : Nat) : Nat → List Rc → List Rc
  | _, [] => []
  | n, r :: rs => if 64 * (n + r.sec) ≤ b then r :: cutR b (n + r.sec) rs else []
theorem cutR_split (b : Nat) : ∀ (rs : List Rc) (n : Nat), ∃ B, rs = cutR b n rs ++ B ∧ (64 * n ≤ b → 64 * (n + totS (cutR b n rs)) ≤ b) ∧ (B = [] ∨ ∃ r B', B = r :: B' ∧ b < 64 * (n + totS (cutR b n rs) + r.sec))
  | [], n => ⟨[], rfl, fun h => by simpa [cutR, totS] using h, .inl rfl⟩
  | r :: rs, n => by
    rw [cutR]
    split
    · rename_i h
      obtain ⟨B, h1, h2, h3⟩ := cutR_split b rs (n + r.sec)
      refine ⟨B, by rw [List.cons_append, ← h1], fun _ => ?_, ?_⟩
      · have := h2 h; rw [totS]; omega
      · rcases h3 with h3 | ⟨x, B', h3, h4⟩
        · exact .inl h3
        · exact .inr ⟨x, B', h3, by rw [totS]; omega⟩
    · rename_i h
      exact ⟨r :: rs, rfl, fun h0 => by simpa [totS] using h0, .inr ⟨r, rs, rfl, by simp only [totS]; omega⟩⟩
theorem cutR_app (b : Nat) (ys : List Rc) : ∀ (xs : List Rc) (n : Nat), 64 * n ≤ b → cutR b n (xs ++ ys) = if 64 * (n + totS xs) ≤ b then xs ++ cutR b (n + totS xs) ys else cutR b n xs
  | [], n, h => by simp [totS, h]
  | x :: xs, n, h => by
    rw [List.cons_append, cutR, cutR, totS]
    by_cases h1 : 64 * (n + x.sec) ≤ b
    · rw [if_pos h1, if_pos h1, cutR_app b ys xs (n + x.sec) h1, ← Nat.add_assoc]
      split <;> rfl
    · rw [if_neg h1, if_neg h1, if_neg (by omega)]
theorem totS_le {n : Nat} : ∀ {rs : List Rc}, (∀ r ∈ rs, r.sec ≤ n) → totS rs ≤ rs.length * n
  | [], _ => Nat.zero_le _
  | r :: rs, h => by
    have h1 := h r (List.mem_cons_self ..)
    have h2 := totS_le (fun x hx => h x (List.mem_cons_of_mem _ hx) : ∀ x ∈ rs, x.sec ≤ n)
    rw [totS, List.length_cons, Nat.add_mul]; omega
theorem foldN (st : SS) : ∀ ad : List ByteArray, (ad.map Rc.nd).foldl appR st = ⟨st.nodes, st.aside ++ ad, st.roots, st.fin, st.sec + totS (ad.map Rc.nd)⟩ := by
  intro ad
  induction ad generalizing st with
  | nil => simp [totS]
  | cons e r ih =>
    rw [List.map_cons, List.foldl_cons, ih, totS]
    simp only [appR, Rc.sec, List.append_assoc, List.singleton_append, Nat.add_assoc]
theorem fold_nds : ∀ (l : List Rc) (st : SS), (∀ r ∈ l, ∃ e, r = .nd e) → (l.foldl appR st).roots = st.roots ∧ (l.foldl appR st).fin = st.fin
  | [], st, _ => ⟨rfl, rfl⟩
  | r :: rs, st, h => by
    obtain ⟨e, rfl⟩ := h r (List.mem_cons_self ..)
    rw [List.foldl_cons]
    exact fold_nds rs (appR st (.nd e)) (fun x hx => h x (List.mem_cons_of_mem _ hx))
theorem cutR_sub (b : Nat) (rs : List Rc) (n : Nat) : ∀ r ∈ cutR b n rs, r ∈ rs := fun r hr => by
  obtain ⟨B, h1, _⟩ := cutR_split b rs n
  rw [h1]; exact List.mem_append_left _ hr
theorem cutR_all (b : Nat) : ∀ (rs : List Rc) (n : Nat), 64 * (n + totS rs) ≤ b → cutR b n rs = rs
  | [], n, _ => rfl
  | r :: rs, n, h => by
    rw [totS] at h
    rw [cutR, if_pos (by omega), cutR_all b rs (n + r.sec) (by omega)]
/-- How many ends, up to the last one that is not behind a byte. -/
def lastE (b : Nat) (EN : List Nat) : Nat → Nat
  | 0 => 0
  | k + 1 => if EN.getD k 0 ≤ b then k + 1 else lastE b EN k
theorem lastE_le (b : Nat) (EN : List Nat) : ∀ k, lastE b EN k ≤ k
  | 0 => Nat.le_refl _
  | k + 1 => by rw [lastE]; have := lastE_le b EN k; split <;> omega
theorem getD_left {EN : List Nat} {x k : Nat} (h : k < EN.length) : (EN ++ [x]).getD k 0 = EN.getD k 0 := by
  rw [List.getD_eq_getElem?_getD, List.getD_eq_getElem?_getD, List.getElem?_append_left h]
theorem getD_end {EN : List Nat} {x : Nat} : (EN ++ [x]).getD EN.length 0 = x := by
  rw [List.getD_eq_getElem?_getD, List.getElem?_append_right (Nat.le_refl _)]; simp
theorem lastE_app (b : Nat) (EN : List Nat) (x : Nat) : ∀ k, k ≤ EN.length → lastE b (EN ++ [x]) k = lastE b EN k
  | 0, _ => rfl
  | k + 1, h => by rw [lastE, lastE, getD_left (by omega), lastE_app b EN x k (by omega)]

/-- What has been written after i commits. -/
structure CI (wd i : Nat) (rs : List Rc) (X RT : List ByteArray) (EN : List Nat) : Prop where
  ok : ∀ r ∈ rs, r.ok
  good : GoodL wd st0 rs
  fold : rs.foldl appR st0 = ⟨X, [], RT, 64 * totS rs, totS rs⟩
  rl : RT.length = i
  el : EN.length = i
  last : EN.getD (i - 1) 0 = 64 * totS rs
  cut : ∀ b, ((cutR b 0 rs).foldl appR st0).roots = RT.take (lastE b EN i) ∧ ((cutR b 0 rs).foldl appR st0).fin = if lastE b EN i = 0 then 0 else EN.getD (lastE b EN i - 1) 0
  sz : totS rs ≤ i * 2000
  ge : i ≤ totS rs
theorem CI.zero (wd : Nat) : CI wd 0 [] [] [] [] :=
  ⟨fun r hr => absurd hr (by simp), trivial, rfl, rfl, rfl, rfl, fun b => ⟨rfl, rfl⟩, Nat.le_refl _, Nat.le_refl _⟩
theorem CI.step {wd i : Nat} {rs : List Rc} {X RT : List ByteArray} {EN : List Nat} (h : CI wd i rs X RT EN) {ad : List ByteArray} {root : ByteArray} (had : ∀ e ∈ ad, 1 ≤ e.size ∧ e.size ≤ 2400) (hal : ad.length ≤ 46) (hroot : root.size ≤ 32) (hhit : root.size = 0 ∨ anyHit wd (X ++ ad) root = true) (hi : i < 1000) :
    CI wd (i + 1) (rs ++ (ad.map Rc.nd ++ [Rc.cm (i + 1) root])) (X ++ ad) (RT ++ [root]) (EN ++ [64 * totS (rs ++ (ad.map Rc.nd ++ [Rc.cm (i + 1) root]))]) := by
  have hnd : ∀ r ∈ ad.map Rc.nd, ∃ e, r = .nd e := fun r hr => by
    obtain ⟨e, _, rfl⟩ := List.mem_map.1 hr
    exact ⟨e, rfl⟩
  have hs1 : ∀ r ∈ ad.map Rc.nd, r.sec ≤ 40 := fun r hr => by
    obtain ⟨e, he, rfl⟩ := List.mem_map.1 hr
    have := (had e he).2
    show secs e.size ≤ 40
    unfold secs; omega
  have htn := totS_le hs1
  rw [List.length_map] at htn
  have htot : totS (rs ++ (ad.map Rc.nd ++ [Rc.cm (i + 1) root])) = totS rs + totS (ad.map Rc.nd) + 1 := by
    rw [totS_app, totS_app]; show _ + (_ + (1 + 0)) = _; omega
  have hf : (rs ++ (ad.map Rc.nd ++ [Rc.cm (i + 1) root])).foldl appR st0 = ⟨X ++ ad, [], RT ++ [root], 64 * totS (rs ++ (ad.map Rc.nd ++ [Rc.cm (i + 1) root])), totS (rs ++ (ad.map Rc.nd ++ [Rc.cm (i + 1) root]))⟩ := by
    rw [List.foldl_append, List.foldl_append, h.fold, foldN, htot]
    simp only [List.foldl_cons, List.foldl_nil, appR, List.nil_append]
    congr 1
    omega
  refine ⟨?_, ?_, hf, by rw [List.length_append, h.rl]; rfl, by rw [List.length_append, h.el]; rfl, ?_, ?_, ?_, ?_⟩
  · intro r hr
    rcases List.mem_append.1 hr with hr | hr
    · exact h.ok r hr
    · rcases List.mem_append.1 hr with hr | hr
      · obtain ⟨e, he, rfl⟩ := List.mem_map.1 hr
        have := had e he
        exact ⟨this.1, by omega⟩
      · obtain rfl : r = .cm (i + 1) root := by simpa using hr
        exact ⟨by omega, by omega, hroot⟩
  · refine GoodL.app h.good (GoodL.app ?_ ?_)
    · rw [h.fold]
      have : ∀ (l : List ByteArray) (st : SS), GoodL wd st (l.map Rc.nd) := by
        intro l
        induction l with
        | nil => intro st; trivial
        | cons e r ih => intro st; exact ⟨trivial, ih _⟩
      exact this ad _
    · rw [h.fold, foldN]
      refine ⟨⟨?_, ?_⟩, trivial⟩
      · show i + 1 = RT.length + 1
        rw [h.rl]
      · simpa using hhit
  · rw [Nat.add_sub_cancel, ← h.el, getD_end]
  · intro b
    have hlk : lastE b (EN ++ [64 * totS (rs ++ (ad.map Rc.nd ++ [Rc.cm (i + 1) root]))]) (i + 1) = if 64 * totS (rs ++ (ad.map Rc.nd ++ [Rc.cm (i + 1) root])) ≤ b then i + 1 else lastE b EN i := by
      rw [lastE, lastE_app b EN _ i (by rw [h.el]; exact Nat.le_refl _), ← h.el, getD_end]
    rw [hlk]
    have hle := lastE_le b EN i
    have hsame : ¬ 64 * totS (rs ++ (ad.map Rc.nd ++ [Rc.cm (i + 1) root])) ≤ b → ((RT ++ [root]).take (lastE b EN i) = RT.take (lastE b EN i) ∧ (lastE b EN i ≠ 0 → (EN ++ [64 * totS (rs ++ (ad.map Rc.nd ++ [Rc.cm (i + 1) root]))]).getD (lastE b EN i - 1) 0 = EN.getD (lastE b EN i - 1) 0)) := fun _ =>
      ⟨List.take_append_of_le_length (by rw [h.rl]; exact hle), fun h0 => getD_left (by rw [h.el]; omega)⟩
    rw [cutR_app b _ rs 0 (Nat.zero_le _), Nat.zero_add]
    by_cases h1 : 64 * totS rs ≤ b
    · rw [if_pos h1, List.foldl_append, h.fold]
      by_cases h2 : 64 * totS (rs ++ (ad.map Rc.nd ++ [Rc.cm (i + 1) root])) ≤ b
      · rw [if_pos h2, cutR_all b _ _ (by rw [totS_app] at h2; exact h2), ← h.fold, ← List.foldl_append, hf]
        refine ⟨?_, ?_⟩
        · rw [List.take_of_length_le (by rw [List.length_append, h.rl]; exact Nat.le_refl _)]
        · rw [if_neg (by omega), Nat.add_sub_cancel, ← h.el, getD_end]
      · rw [if_neg h2]
        obtain ⟨hs2, hs3⟩ := hsame h2
        have hcn : ∀ r ∈ cutR b (totS rs) (ad.map Rc.nd ++ [Rc.cm (i + 1) root]), ∃ e, r = .nd e := by
          rw [cutR_app b _ _ _ h1]
          split
          · intro r hr
            rcases List.mem_append.1 hr with hr | hr
            · exact hnd r hr
            · rw [cutR, if_neg (by show ¬ 64 * (totS rs + totS (ad.map Rc.nd) + 1) ≤ b; rw [htot] at h2; exact h2)] at hr
              cases hr
          · exact fun r hr => hnd r (cutR_sub _ _ _ r hr)
        obtain ⟨f1, f2⟩ := fold_nds _ (⟨X, [], RT, 64 * totS rs, totS rs⟩ : SS) hcn
        rw [f1, f2, hs2]
        have hlast := h.last
        have hl2 : lastE b EN i = i := by
          cases i with
          | zero => rfl
          | succ k =>
            rw [lastE, if_pos (by rw [Nat.add_sub_cancel] at hlast; rw [hlast]; exact h1)]
        rw [hl2] at hs3 ⊢
        refine ⟨by rw [List.take_of_length_le (by rw [h.rl]; exact Nat.le_refl _)], ?_⟩
        show 64 * totS rs = _
        split
        · rename_i h0
          subst h0
          have : EN = [] := List.eq_nil_of_length_eq_zero h.el
          rw [this] at hlast
          simpa using hlast.symm
        · rename_i h0
          rw [hs3 h0, hlast]
    · have h2 : ¬ 64 * totS (rs ++ (ad.map Rc.nd ++ [Rc.cm (i + 1) root])) ≤ b := by rw [htot]; omega
      obtain ⟨hs2, hs3⟩ := hsame h2
      rw [if_neg h1, if_neg h2, hs2]
      obtain ⟨c1, c2⟩ := h.cut b
      refine ⟨c1, ?_⟩
      rw [c2]
      split
      · rfl
      · rename_i h0
        rw [hs3 h0]
  · rw [htot]
    have := h.sz
    have : ad.length * 40 ≤ 46 * 40 := Nat.mul_le_mul hal (Nat.le_refl _)
    omega
  · rw [htot]; have := h.ge; omega

/-- Nothing can be read where no sector is left. -/
theorem no_end {s : ByteArray} {n : Nat} (h : s.size < 64 * n + 64) : (∀ enc, ¬ IsNode s (64 * n) enc) ∧ ∀ v root, ¬ IsCommit s (64 * n) v root := by
  refine ⟨fun enc hE => ?_, fun v root hE => ?_⟩
  · have h1 := hE.2.2.1
    have : 1 ≤ secs enc.size := by unfold secs; omega
    omega
  · have := hE.2.2.2.1; omega
/-- .. where the record is not whole .. -/
theorem no_cut {s s' : ByteArray} {b n : Nat} {r : Rc} (hA : Agree s s' b) (hs : s'.size = b) (hat : r.At s (64 * n)) (hb : b < 64 * (n + r.sec)) : (∀ enc, ¬ IsNode s' (64 * n) enc) ∧ ∀ v root, ¬ IsCommit s' (64 * n) v root := by
  cases r with
  | nd e =>
    simp only [Rc.sec] at hb
    refine ⟨fun enc hE => ?_, fun v root hE => ?_⟩
    · have p := hE.parts
      have q := IsNode.parts hat
      have h1 := hE.2.2.1
      have hn := hA.num (64 * n) (by omega)
      rw [p.2.2.1, q.2.2.1] at hn
      rw [hn] at h1
      omega
    · have p := hE.parts
      have q := IsNode.parts hat
      have h1 := hE.2.2.2.1
      rw [hA.getD (64 * n + 63) (by omega), q.2.1] at p
      exact absurd p.1 (by decide)
  | cm v root =>
    simp only [Rc.sec] at hb
    exact no_end (by omega)
/-- .. and where a sector has lost its mark. -/
theorem no_hurt {s s' : ByteArray} {q n : Nat} {r : Rc} (hA : ∀ p, p ≠ 64 * q + 63 → s'.data.toList[p]? = s.data.toList[p]?) (hz : s'.data.toList.getD (64 * q + 63) 0 = 0) (hat : r.At s (64 * n)) (h1 : n ≤ q) (h2 : q < n + r.sec) : (∀ enc, ¬ IsNode s' (64 * n) enc) ∧ ∀ v root, ¬ IsCommit s' (64 * n) v root := by
  by_cases hq : q = n
  · subst hq
    refine ⟨fun enc hE => ?_, fun v root hE => ?_⟩
    · have p := hE.parts.2.1
      rw [hz] at p; exact absurd p (by decide)
    · have p := hE.parts.1
      rw [hz] at p; exact absurd p (by decide)
  · have hg : Agree s s' (64 * n + 64) := fun p hp => hA p (by omega)
    cases r with
    | cm v root => simp only [Rc.sec] at h2; omega
    | nd e =>
      simp only [Rc.sec] at h2
      have q1 := IsNode.parts hat
      refine ⟨fun enc hE => ?_, fun v root hE => ?_⟩
      · have p := hE.parts
        have hn := hg.num (64 * n) (by omega)
        rw [p.2.2.1, q1.2.2.1] at hn
        have ht := hE.text
        have hj : q - n < secs enc.size := by rw [hn]; omega
        have := sub_getD ht (64 * (q - n) + 63) (by omega)
        rw [marked_marks _ _ _ _ _ hj, if_neg (by omega), show 64 * n + (64 * (q - n) + 63) = 64 * q + 63 by omega, hz] at this
        exact absurd this (by decide)
      · have p := hE.parts
        rw [hg.getD (64 * n + 63) (by omega), q1.2.1] at p
        exact absurd p.1 (by decide)

theorem CI.placed {wd i : Nat} {rs : List Rc} {X RT : List ByteArray} {EN : List Nat} (h : CI wd i rs X RT EN) : Placed (imgT rs) 0 rs :=
  placed_of (p := ⟨#[]⟩) (q := ⟨#[]⟩) h.ok rfl (by rw [ba_nil, ba_nil_r])
theorem CI.img {wd i : Nat} {rs : List Rc} {X RT : List ByteArray} {EN : List Nat} (h : CI wd i rs X RT EN) : (imgT rs).size = 64 * totS rs := imgT_size h.ok
theorem scan_whole {wd i : Nat} {rs : List Rc} {X RT : List ByteArray} {EN : List Nat} (h : CI wd i rs X RT EN) {R : Nat → RecT} (hR : Reads (imgT rs) R) {st : SS} (hr : Reach R wd st) (hs : stepS R wd st = none) : st = ⟨X, [], RT, 64 * totS rs, totS rs⟩ := by
  obtain ⟨h1, h2⟩ := no_end (s := imgT rs) (n := totS rs) (by rw [h.img]; omega)
  rw [scan_is hR h.good h.placed h1 h2 hr hs, h.fold]
theorem Placed.at_app {s : ByteArray} : ∀ {A B : List Rc} {r : Rc} {n : Nat}, Placed s n (A ++ r :: B) → r.At s (64 * (n + totS A))
  | [], _, _, n, h => by rw [totS, Nat.add_zero]; exact h.1
  | x :: A, B, r, n, h => by
    have := Placed.at_app (A := A) h.2
    rw [totS, ← Nat.add_assoc]; exact this
theorem Placed.left {s : ByteArray} : ∀ {A B : List Rc} {n : Nat}, Placed s n (A ++ B) → Placed s n A
  | [], _, _, _ => trivial
  | _ :: _, _, _, h => ⟨h.1, Placed.left h.2⟩
theorem scan_part {wd i : Nat} {rs : List Rc} {X RT : List ByteArray} {EN : List Nat} (h : CI wd i rs X RT EN) {s' : ByteArray} {b : Nat} (hb : b < 64 * totS rs) (hA : Agree (imgT rs) s' b) (hbs : b ≤ s'.size)
    (hno : ∀ (n : Nat) (r : Rc), r.At (imgT rs) (64 * n) → 64 * n ≤ b → b < 64 * (n + r.sec) → (∀ enc, ¬ IsNode s' (64 * n) enc) ∧ ∀ v root, ¬ IsCommit s' (64 * n) v root)
    {R : Nat → RecT} (hR : Reads s' R) {st : SS} (hr : Reach R wd st) (hs : stepS R wd st = none) : st.roots = RT.take (lastE b EN i) ∧ st.fin = if lastE b EN i = 0 then 0 else EN.getD (lastE b EN i - 1) 0 := by
  obtain ⟨B, h1, h2, h3⟩ := cutR_split b rs 0
  have h2 := h2 (Nat.zero_le _)
  rw [Nat.zero_add] at h2 h3
  have hP := h.placed
  have hG := h.good
  rw [h1] at hP hG
  rcases h3 with h3 | ⟨r, B', h3, h4⟩
  · rw [h3, List.append_nil] at h1
    rw [← h1] at h2
    omega
  · rw [h3] at hP
    have hat := hP.at_app
    rw [Nat.zero_add] at hat
    obtain ⟨n1, n2⟩ := hno _ r (by rw [← h3, ← h1] at hat; exact hat) h2 h4
    have hPl := (Placed.agree hA hbs (by have := hP.left; rw [← h3, ← h1] at this; exact this) (by rw [Nat.zero_add]; exact h2) : Placed s' 0 (cutR b 0 rs))
    rw [scan_is hR hG.left hPl n1 n2 hr hs]
    exact h.cut b
end Go.Proofs.YtmfhfehemoeeeaaGreatDoor
