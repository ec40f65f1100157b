import PyProof.Rows.All
import Wide.All
import OpenK.AllK
import Wide.FinOn
import Open.SpecLaws
import KE.OsHead
import KE.OsGo
import HandS.ForSpec
import HandS.Text
import HandS.Comp
import PySem.Challenge.RW_foursums_s05_gap
set_option Elab.async false
set_option maxRecDepth 100000
set_option maxHeartbeats 4000000
namespace Fs
open Kzx1 (sets okN)
open Kzx2 (at0 okW pairOk breaks)
/-! the mathematics of holds -/
theorem found {β : Type} (f : Nat → Option β) {i : Nat} {b : β} : ∀ (N : Nat), i < N → f i = some b → (∀ j, j < i → f j = none) → (List.range N).findSome? f = some b
  | 0, h, _, _ => absurd h (Nat.not_lt_zero _)
  | N + 1, h, hb, hn => by
    rw [List.range_succ, List.findSome?_append]
    by_cases e : i < N
    · rw [found f N e hb hn]; rfl
    · have e2 : i = N := by omega
      subst e2
      have q : (List.range i).findSome? f = none := by
        rw [List.findSome?_eq_none_iff]
        intro x hx
        exact hn x (List.mem_range.mp hx)
      rw [q]
      simp [hb]
theorem breaks_none {n : Nat} {a b c d : List Nat} (h : ∀ s, s < 2 ^ n → ∀ t, t < 2 ^ n → pairOk a b c d s t = true) : breaks n a b c d = none := by
  unfold breaks sets
  rw [List.findSome?_eq_none_iff]
  intro s hs
  rw [Option.map_eq_none_iff, List.find?_eq_none]
  intro t ht
  rw [h s (List.mem_range.mp hs) t (List.mem_range.mp ht)]
  decide
theorem breaks_some {n s t : Nat} {a b c d : List Nat} (hs : s < 2 ^ n) (ht : t < 2 ^ n) (h : ∀ s', s' < s → ∀ t', t' < 2 ^ n → pairOk a b c d s' t' = true) (h2 : ∀ t', t' < t → pairOk a b c d s t' = true) (h3 : pairOk a b c d s t = false) : breaks n a b c d = some (s, t) := by
  unfold breaks sets
  refine found _ (2 ^ n) hs ?_ ?_
  · have e : (List.range (2 ^ n)).find? (fun t => !pairOk a b c d s t) = some t := by
      rw [List.find?_range_eq_some]
      refine ⟨by rw [h3]; rfl, List.mem_range.mpr ht, fun j hj => ?_⟩
      rw [h2 j hj]; rfl
    rw [e]; rfl
  · intro s' hs'
    rw [Option.map_eq_none_iff, List.find?_eq_none]
    intro t' ht'
    rw [h s' hs' t' (List.mem_range.mp ht')]
    decide
/-- n is 1 to 5 and each row is weights -/
def okAll (n : Nat) (rows : List (List Nat)) : Bool := okN n && rows.all (okW n)
theorem nats_ints (a : List Nat) : Kzx3Neutral.natsOf (a.map fun (x : Nat) => (x : Int)) = a := by
  unfold Kzx3Neutral.natsOf
  rw [List.map_map]
  conv => rhs; rw [← List.map_id a]
  rfl
def il (a : List Nat) : List Int := a.map fun (x : Nat) => (x : Int)
theorem holds_eq (n : Nat) (a b c d : List Nat) : PyKzx3.holds (n : Int) (il a) (il b) (il c) (il d) =
    (let z := Kzx3.answer (.holds n a b c d)
     z.value :: z.nums) := by
  show (let z := Kzx3.answer (.holds (n : Int).toNat (Kzx3Neutral.natsOf (il a)) (Kzx3Neutral.natsOf (il b)) (Kzx3Neutral.natsOf (il c)) (Kzx3Neutral.natsOf (il d))); z.value :: z.nums) = _
  unfold il
  rw [nats_ints, nats_ints, nats_ints, nats_ints, Int.toNat_natCast]
theorem with3_bad {n : Nat} {a b c : List Nat} {h : Unit → Kzx1.Ans} (e : okAll n [a, b, c] = false) : Kzx3.with3 n a b c h = Kzx1.say (-22) := by
  unfold Kzx3.with3
  rw [if_pos]
  unfold okAll at e
  simp only [List.all_cons, List.all_nil, Bool.and_true] at e
  cases e1 : okN n <;> cases e2 : okW n a <;> cases e3 : okW n b <;> cases e4 : okW n c <;> simp_all
theorem with3_ok {n : Nat} {a b c : List Nat} {h : Unit → Kzx1.Ans} (e : okAll n [a, b, c] = true) : Kzx3.with3 n a b c h = h () := by
  unfold Kzx3.with3
  rw [if_neg]
  unfold okAll at e
  simp only [List.all_cons, List.all_nil, Bool.and_true, Bool.and_eq_true] at e
  simp [e.1, e.2]
theorem all4 (n : Nat) (a b c d : List Nat) : okAll n [a, b, c, d] = (okAll n [a, b, c] && okW n d) := by
  unfold okAll
  simp only [List.all_cons, List.all_nil, Bool.and_true, Bool.and_assoc]
theorem holds_bad {n : Nat} {a b c d : List Nat} (e : okAll n [a, b, c, d] = false) : PyKzx3.holds (n : Int) (il a) (il b) (il c) (il d) = [-22] := by
  rw [holds_eq]
  rw [all4] at e
  show (let z := Kzx3.with3 n a b c _; z.value :: z.nums) = _
  cases q : okAll n [a, b, c] with
  | false =>
    rw [with3_bad q]; rfl
  | true =>
    rw [with3_ok q]
    rw [q] at e
    have e2 : okW n d = false := e
    rw [if_pos e2]; rfl
theorem holds_ok {n : Nat} {a b c d : List Nat} (e : okAll n [a, b, c, d] = true) : PyKzx3.holds (n : Int) (il a) (il b) (il c) (il d) = match breaks n a b c d with
    | none => [1]
    | some y => [0, (y.1 : Int), (y.2 : Int)] := by
  rw [holds_eq]
  rw [all4, Bool.and_eq_true] at e
  show (let z := Kzx3.with3 n a b c _; z.value :: z.nums) = _
  rw [with3_ok e.1, if_neg (by rw [e.2]; decide)]
  cases breaks n a b c d <;> rfl
theorem okAll_n {n : Nat} {rows : List (List Nat)} (h : okAll n rows = true) : 1 ≤ n ∧ n ≤ 5 := by
  unfold okAll okN at h
  simp only [Bool.and_eq_true, decide_eq_true_eq] at h
  exact h.1
theorem okAll_row {n : Nat} {rows : List (List Nat)} (h : okAll n rows = true) {a : List Nat} (ha : a ∈ rows) : a.length = 2 ^ n ∧ ∀ x ∈ a, x ≤ 1000 := by
  unfold okAll at h
  rw [Bool.and_eq_true, List.all_eq_true] at h
  have q := h.2 a ha
  unfold okW at q
  simp only [Bool.and_eq_true, List.all_eq_true, decide_eq_true_eq, beq_iff_eq] at q
  exact q
/-- a weight by its place -/
theorem at_some {a : List Nat} {s : Nat} (h : s < a.length) : a[s]? = some (at0 a s) := by
  unfold at0
  rw [List.getD_eq_getElem?_getD, List.getElem?_eq_getElem h]; rfl
theorem at_le {a : List Nat} {s m : Nat} (h : ∀ x ∈ a, x ≤ m) : at0 a s ≤ m := by
  unfold at0
  rw [List.getD_eq_getElem?_getD]
  cases e : a[s]? with
  | none => exact Nat.zero_le _
  | some x => exact h x (List.mem_of_getElem? e)
theorem pow_le {n : Nat} (h : n ≤ 5) : 2 ^ n ≤ 32 := by
  have := Nat.pow_le_pow_right (n := 2) (by decide) h
  omega
end Fs
namespace Fs
open Kzx1 (sets okN)
open Kzx2 (at0 okW pairOk breaks)
/-! the mathematics of need -/
def nstep (a b c : List Nat) (u s : Nat) (v : Option Nat) (t : Nat) : Option Nat := match v with
  | none => none
  | some x => if Nat.land s t != u then some x else let p := at0 a s * at0 b t
    let q := at0 c (Nat.lor s t)
    if p = 0 then some x else if q = 0 then none else some (max x ((p + q - 1) / q))
/-- set u's least one after the pairs ahead of (i, j) -/
def npart (n : Nat) (a b c : List Nat) (u i j : Nat) : Option Nat := (List.range j).foldl (nstep a b c u i) ((List.range i).foldl (fun v s => (List.range (2 ^ n)).foldl (nstep a b c u s) v) (some 0))
theorem npart_need (n : Nat) (a b c : List Nat) (u : Nat) : Kzx3.needAt n a b c u = npart n a b c u (2 ^ n) 0 := rfl
theorem npart_zero (n : Nat) (a b c : List Nat) (u : Nat) : npart n a b c u 0 0 = some 0 := rfl
theorem npart_next (n : Nat) (a b c : List Nat) (u i j : Nat) : npart n a b c u i (j + 1) = nstep a b c u i (npart n a b c u i j) j := by
  unfold npart
  rw [List.range_succ, List.foldl_append]; rfl
theorem npart_row (n : Nat) (a b c : List Nat) (u i : Nat) : npart n a b c u (i + 1) 0 = npart n a b c u i (2 ^ n) := by
  unfold npart
  rw [List.range_succ, List.foldl_append]; rfl
theorem nstep_none (a b c : List Nat) (u s : Nat) : ∀ l : List Nat, l.foldl (nstep a b c u s) none = none
  | [] => rfl
  | _ :: l => nstep_none a b c u s l
theorem npart_stay {n : Nat} {a b c : List Nat} {u i j : Nat} (h : npart n a b c u i j = none) : ∀ k, npart n a b c u i (j + k) = none
  | 0 => h
  | k + 1 => by
    rw [← Nat.add_assoc, npart_next, npart_stay h k]; rfl
theorem npart_stay2 {n : Nat} {a b c : List Nat} {u i : Nat} (h : npart n a b c u i 0 = none) : ∀ k, npart n a b c u (i + k) 0 = none
  | 0 => h
  | k + 1 => by
    rw [← Nat.add_assoc, npart_row]
    have := npart_stay (npart_stay2 h k) (2 ^ n)
    rwa [Nat.zero_add] at this
theorem need_none_of {n : Nat} {a b c : List Nat} {u i j : Nat} (hi : i < 2 ^ n) (hj : j ≤ 2 ^ n) (h : npart n a b c u i j = none) : Kzx3.needAt n a b c u = none := by
  have e1 := npart_stay h (2 ^ n - j)
  rw [Nat.add_sub_cancel' hj, ← npart_row] at e1
  have e2 := npart_stay2 e1 (2 ^ n - (i + 1))
  rw [Nat.add_sub_cancel' hi] at e2
  rw [npart_need, e2]
theorem mapM_none {f : Nat → Option Nat} : ∀ {l : List Nat} {x : Nat}, x ∈ l → f x = none → l.mapM f = none
  | y :: l, x, hx, h => by
    rw [List.mapM_cons]
    rcases List.mem_cons.mp hx with e | e
    · rw [← e, h]; rfl
    · rw [mapM_none e h]
      cases f y <;> rfl
theorem mapM_some {f : Nat → Option Nat} {g : Nat → Nat} : ∀ {l : List Nat}, (∀ x ∈ l, f x = some (g x)) → l.mapM f = some (l.map g)
  | [], _ => rfl
  | y :: l, h => by
    rw [List.mapM_cons, h y List.mem_cons_self, mapM_some fun x hx => h x (List.mem_cons_of_mem _ hx)]
    rfl
theorem map_at {L : List Nat} : (List.range L.length).map (at0 L) = L := by
  refine List.ext_getElem? fun i => ?_
  rw [List.getElem?_map]
  by_cases h : i < L.length
  · rw [List.getElem?_range h, at_some h]; rfl
  · rw [List.getElem?_eq_none (by simpa using h), List.getElem?_eq_none (by simpa using h)]; rfl
/-- what the list of the least ones says after the pairs ahead of (i, j) -/
def NInv (n : Nat) (a b c L : List Nat) (i j : Nat) : Prop := L.length = 2 ^ n ∧ ∀ u, u < 2 ^ n → npart n a b c u i j = some (at0 L u)
theorem ninv_start {n : Nat} {a b c : List Nat} : NInv n a b c (List.replicate (2 ^ n) 0) 0 0 := by
  refine ⟨List.length_replicate, fun u hu => ?_⟩
  rw [npart_zero]
  unfold at0
  rw [List.getD_eq_getElem?_getD, List.getElem?_replicate, if_pos hu]; rfl
theorem ninv_row {n : Nat} {a b c L : List Nat} {i : Nat} (h : NInv n a b c L i (2 ^ n)) : NInv n a b c L (i + 1) 0 :=
  ⟨h.1, fun u hu => by rw [npart_row]; exact h.2 u hu⟩
theorem ninv_skip {n : Nat} {a b c L : List Nat} {i j : Nat} (h : NInv n a b c L i j) (hp : at0 a i * at0 b j = 0) : NInv n a b c L i (j + 1) := by
  refine ⟨h.1, fun u hu => ?_⟩
  rw [npart_next, h.2 u hu]
  simp only [nstep]
  split
  · rfl
  · first | rfl | rw [if_pos hp]
theorem at_set {L : List Nat} {k v u : Nat} (hk : k < L.length) : at0 (L.set k v) u = if k = u then v else at0 L u := by
  unfold at0
  rw [List.getD_eq_getElem?_getD, List.getD_eq_getElem?_getD, List.getElem?_set]
  by_cases e : k = u
  · rw [if_pos e, if_pos e, if_pos (e ▸ hk)]; rfl
  · rw [if_neg e, if_neg e]
theorem ninv_put {n : Nat} {a b c L : List Nat} {i j : Nat} (h : NInv n a b c L i j) (hk : i &&& j < 2 ^ n) (hp : at0 a i * at0 b j ≠ 0) (hq : at0 c (i ||| j) ≠ 0) :
    NInv n a b c (L.set (i &&& j) (max (at0 L (i &&& j)) ((at0 a i * at0 b j + at0 c (i ||| j) - 1) / at0 c (i ||| j)))) i (j + 1) := by
  refine ⟨by rw [List.length_set]; exact h.1, fun u hu => ?_⟩
  rw [npart_next, h.2 u hu, at_set (by rw [h.1]; exact hk)]
  show (if (i &&& j != u) = true then some (at0 L u) else if at0 a i * at0 b j = 0 then some (at0 L u) else if at0 c (i ||| j) = 0 then none else some (max (at0 L u) ((at0 a i * at0 b j + at0 c (i ||| j) - 1) / at0 c (i ||| j)))) = _
  by_cases e : i &&& j = u
  · rw [if_neg (by simp [e]), if_neg hp, if_neg hq, if_pos e, e]
  · rw [if_pos (by simp [e]), if_neg e]
theorem need_eq (n : Nat) (a b c : List Nat) : PyKzx3.need (n : Int) (il a) (il b) (il c) =
    (let z := Kzx3.answer (.need n a b c)
     z.value :: z.nums) := by
  show (let z := Kzx3.answer (.need (n : Int).toNat (Kzx3Neutral.natsOf (il a)) (Kzx3Neutral.natsOf (il b)) (Kzx3Neutral.natsOf (il c))); z.value :: z.nums) = _
  unfold il
  rw [nats_ints, nats_ints, nats_ints, Int.toNat_natCast]
theorem need_bad {n : Nat} {a b c : List Nat} (e : okAll n [a, b, c] = false) : PyKzx3.need (n : Int) (il a) (il b) (il c) = [-22] := by
  rw [need_eq]
  show (let z := Kzx3.with3 n a b c _; z.value :: z.nums) = _
  rw [with3_bad e]; rfl
theorem need_no {n : Nat} {a b c : List Nat} (e : okAll n [a, b, c] = true) {L : List Nat} {i j : Nat} (hi : i < 2 ^ n) (hj : j < 2 ^ n) (hk : i &&& j < 2 ^ n) (h : NInv n a b c L i j) (hp : at0 a i * at0 b j ≠ 0) (hq : at0 c (i ||| j) = 0) :
    PyKzx3.need (n : Int) (il a) (il b) (il c) = [-33] := by
  have e1 : npart n a b c (i &&& j) i (j + 1) = none := by
    rw [npart_next, h.2 _ hk]
    show (if (i &&& j != i &&& j) = true then some (at0 L (i &&& j)) else if at0 a i * at0 b j = 0 then some (at0 L (i &&& j)) else if at0 c (i ||| j) = 0 then none else some (max (at0 L (i &&& j)) ((at0 a i * at0 b j + at0 c (i ||| j) - 1) / at0 c (i ||| j)))) = _
    rw [if_neg (by simp), if_neg hp, if_pos hq]
  have e2 : Kzx3.need n a b c = none := mapM_none (List.mem_range.mpr hk) (need_none_of hi hj e1)
  rw [need_eq]
  show (let z := Kzx3.with3 n a b c _; z.value :: z.nums) = _
  rw [with3_ok e, e2]; rfl
theorem need_yes {n : Nat} {a b c : List Nat} (e : okAll n [a, b, c] = true) {L : List Nat} (h : NInv n a b c L (2 ^ n) 0) :
    PyKzx3.need (n : Int) (il a) (il b) (il c) = (L.length : Int) :: il L := by
  have e2 : Kzx3.need n a b c = some L := by
    have : Kzx3.need n a b c = some ((List.range (2 ^ n)).map (at0 L)) := mapM_some fun u hu => h.2 u (List.mem_range.mp hu)
    rw [this, ← h.1, map_at]
  rw [need_eq]
  show (let z := Kzx3.with3 n a b c _; z.value :: z.nums) = _
  rw [with3_ok e, e2]
  show ((Kzx1.ints L).length : Int) :: Kzx1.ints L = _
  unfold Kzx1.ints
  rw [List.length_map]; rfl
/-! the mathematics of fold -/
theorem fold_eq (n : Nat) (a : List Nat) : PyKzx3.fold (n : Int) (il a) =
    (let z := Kzx3.answer (.fold n a)
     z.value :: z.nums) := by
  show (let z := Kzx3.answer (.fold (n : Int).toNat (Kzx3Neutral.natsOf (il a))); z.value :: z.nums) = _
  unfold il
  rw [nats_ints, Int.toNat_natCast]
theorem all1 (n : Nat) (a : List Nat) : okAll n [a] = (okN n && okW n a) := by
  unfold okAll
  simp only [List.all_cons, List.all_nil, Bool.and_true]
theorem fold_bad {n : Nat} {a : List Nat} (e : okAll n [a] = false) : PyKzx3.fold (n : Int) (il a) = [-22] := by
  rw [fold_eq]
  rw [all1] at e
  show (let z := if okN n = false ∨ okW n a = false then Kzx1.say (-22) else _; z.value :: z.nums) = _
  rw [if_pos (by cases e1 : okN n <;> cases e2 : okW n a <;> simp_all)]
  rfl
theorem fold_no {n : Nat} {a : List Nat} (e : okAll n [a] = true) (h : n = 1) : PyKzx3.fold (n : Int) (il a) = [-33] := by
  rw [fold_eq]
  rw [all1, Bool.and_eq_true] at e
  show (let z := if okN n = false ∨ okW n a = false then Kzx1.say (-22) else if n = 1 then _ else _; z.value :: z.nums) = _
  rw [if_neg (by rw [e.1, e.2]; simp), if_pos h]
  rfl
theorem fold_yes {n : Nat} {a : List Nat} (e : okAll n [a] = true) (h : ¬ n = 1) : PyKzx3.fold (n : Int) (il a) = ((2 ^ (n - 1) : Nat) : Int) :: il ((List.range (2 ^ (n - 1))).map fun s => at0 a s + at0 a (s + 2 ^ (n - 1))) := by
  rw [fold_eq]
  rw [all1, Bool.and_eq_true] at e
  show (let z := if okN n = false ∨ okW n a = false then Kzx1.say (-22) else if n = 1 then _ else _; z.value :: z.nums) = _
  rw [if_neg (by rw [e.1, e.2]; simp), if_neg h]
  show ((Kzx1.ints _).length : Int) :: Kzx1.ints _ = _
  unfold Kzx1.ints Kzx3.fold sets
  rw [List.length_map, List.length_map, List.length_range]; rfl
end Fs
namespace Fs
open Kzx1 (sets okN okFamily join meet rising)
open Kzx2 (at0 okW pairOk breaks total)
/-! the mathematics of sides and gap -/
theorem gap_eq (n : Nat) (a b c d : List Nat) : PyKzx3.gap (n : Int) (il a) (il b) (il c) (il d) =
    (let z := Kzx3.answer (.gap n a b c d)
     z.value :: z.nums) := by
  show (let z := Kzx3.answer (.gap (n : Int).toNat (Kzx3Neutral.natsOf (il a)) (Kzx3Neutral.natsOf (il b)) (Kzx3Neutral.natsOf (il c)) (Kzx3Neutral.natsOf (il d))); z.value :: z.nums) = _
  unfold il
  rw [nats_ints, nats_ints, nats_ints, nats_ints, Int.toNat_natCast]
theorem gap_bad {n : Nat} {a b c d : List Nat} (e : okAll n [a, b, c, d] = false) : PyKzx3.gap (n : Int) (il a) (il b) (il c) (il d) = [-22] := by
  rw [gap_eq]
  rw [all4] at e
  show (let z := Kzx3.with3 n a b c _; z.value :: z.nums) = _
  cases q : okAll n [a, b, c] with
  | false => rw [with3_bad q]; rfl
  | true =>
    rw [with3_ok q]
    rw [q] at e
    have e2 : okW n d = false := e
    rw [if_pos e2]; rfl
/-- one side held against the other -/
def held (x y : Nat) : List Int := [if x ≤ y then 1 else 0, (x : Int), (y : Int)]
theorem gap_ok {n : Nat} {a b c d : List Nat} (e : okAll n [a, b, c, d] = true) : PyKzx3.gap (n : Int) (il a) (il b) (il c) (il d) = held (Kzx2.sum a * Kzx2.sum b) (Kzx2.sum c * Kzx2.sum d) := by
  rw [gap_eq]
  rw [all4, Bool.and_eq_true] at e
  show (let z := Kzx3.with3 n a b c _; z.value :: z.nums) = _
  rw [with3_ok e.1, if_neg (by rw [e.2]; decide)]
  rfl
theorem sides_eq (n : Nat) (a b c d x y : List Nat) : PyKzx3.sides (n : Int) (il a) (il b) (il c) (il d) (il x) (il y) =
    (let z := Kzx3.answer (.sides n a b c d x y)
     z.value :: z.nums) := by
  show (let z := Kzx3.answer (.sides (n : Int).toNat (Kzx3Neutral.natsOf (il a)) (Kzx3Neutral.natsOf (il b)) (Kzx3Neutral.natsOf (il c)) (Kzx3Neutral.natsOf (il d)) (Kzx3Neutral.natsOf (il x)) (Kzx3Neutral.natsOf (il y))); z.value :: z.nums) = _
  unfold il
  rw [nats_ints, nats_ints, nats_ints, nats_ints, nats_ints, nats_ints, Int.toNat_natCast]
theorem sides_bad {n : Nat} {a b c d x y : List Nat} (e : okAll n [a, b, c, d] = false ∨ okFamily n x = false ∨ okFamily n y = false) : PyKzx3.sides (n : Int) (il a) (il b) (il c) (il d) (il x) (il y) = [-22] := by
  rw [sides_eq]
  show (let z := Kzx3.with3 n a b c _; z.value :: z.nums) = _
  cases q : okAll n [a, b, c] with
  | false => rw [with3_bad q]; rfl
  | true =>
    rw [with3_ok q, if_pos]
    · rfl
    · rcases e with e | e | e
      · rw [all4, q] at e
        exact .inl e
      · exact .inr (.inl e)
      · exact .inr (.inr e)
theorem sides_ok {n : Nat} {a b c d x y : List Nat} (e : okAll n [a, b, c, d] = true) (ex : okFamily n x = true) (ey : okFamily n y = true) :
    PyKzx3.sides (n : Int) (il a) (il b) (il c) (il d) (il x) (il y) = held (total a x * total b y) (total c (join n x y) * total d (meet n x y)) := by
  rw [sides_eq]
  rw [all4, Bool.and_eq_true] at e
  show (let z := Kzx3.with3 n a b c _; z.value :: z.nums) = _
  rw [with3_ok e.1, if_neg (by rw [e.2, ex, ey]; simp)]
  rfl
/-! sums -/
theorem sum_from (l : List Nat) : ∀ k, l.foldl (· + ·) k = k + l.foldl (· + ·) 0 := by
  induction l with
  | nil => intro k; rfl
  | cons x l ih =>
    intro k
    rw [List.foldl_cons, List.foldl_cons, ih, ih (0 + x)]
    omega
theorem sum_app (l r : List Nat) : Kzx2.sum (l ++ r) = Kzx2.sum l + Kzx2.sum r := by
  unfold Kzx2.sum
  rw [List.foldl_append, sum_from]
theorem sum_one (x : Nat) : Kzx2.sum [x] = x := by
  show 0 + x = x
  omega
theorem sum_le {m : Nat} : ∀ {l : List Nat}, (∀ x ∈ l, x ≤ m) → Kzx2.sum l ≤ l.length * m
  | [], _ => Nat.zero_le _
  | x :: l, h => by
    have e : Kzx2.sum (x :: l) = x + Kzx2.sum l := by
      have := sum_app [x] l
      rwa [sum_one] at this
    have h1 := h x List.mem_cons_self
    have h2 := sum_le fun y hy => h y (List.mem_cons_of_mem _ hy)
    rw [e, List.length_cons, Nat.succ_mul]
    omega
theorem total_nil (m : List Nat) : total m [] = 0 := rfl
theorem total_app (m l r : List Nat) : total m (l ++ r) = total m l + total m r := by
  unfold total
  rw [List.map_append, sum_app]
theorem total_one (m : List Nat) (s : Nat) : total m [s] = at0 m s := sum_one _
/-! families -/
theorem family_mem {n s : Nat} {l : List Nat} : s ∈ Kzx1.family n l ↔ s < 2 ^ n ∧ s ∈ l := by
  unfold Kzx1.family sets
  rw [List.mem_filter, List.mem_range, List.contains_iff_mem]
theorem mem_lor {s : Nat} {x y : List Nat} : s ∈ (x.flatMap fun a => y.map fun b => Nat.lor a b) ↔ ∃ p ∈ x, ∃ q ∈ y, p ||| q = s := by
  rw [List.mem_flatMap]
  refine exists_congr fun p => and_congr_right fun _ => ?_
  rw [List.mem_map]; rfl
theorem mem_land {s : Nat} {x y : List Nat} : s ∈ (x.flatMap fun a => y.map fun b => Nat.land a b) ↔ ∃ p ∈ x, ∃ q ∈ y, p &&& q = s := by
  rw [List.mem_flatMap]
  refine exists_congr fun p => and_congr_right fun _ => ?_
  rw [List.mem_map]; rfl
/-- rising by places -/
theorem rising_iff : ∀ {l : List Nat}, rising l = true ↔ ∀ i, i + 1 < l.length → at0 l i < at0 l (i + 1)
  | [] => ⟨fun _ i h => absurd h (by simp), fun _ => rfl⟩
  | [_] => ⟨fun _ i h => absurd h (by simp), fun _ => rfl⟩
  | a :: b :: l => by
    have ih := @rising_iff (b :: l)
    show (decide (a < b) && rising (b :: l)) = true ↔ _
    rw [Bool.and_eq_true, decide_eq_true_eq, ih]
    constructor
    · rintro ⟨h1, h2⟩ i hi
      cases i with
      | zero => exact h1
      | succ i => exact h2 i (by simpa using hi)
    · intro h
      refine ⟨h 0 (by simp), fun i hi => ?_⟩
      exact h (i + 1) (by simpa using hi)
end Fs
namespace Fs
open Kzx1 (sets okN okFamily join meet rising)
open Kzx2 (at0 okW pairOk breaks total)
/-! the mathematics of sides as the program goes -/
theorem sum_list (l : List Nat) : Kzx2.sum l = l.sum := by
  induction l with
  | nil => rfl
  | cons x l ih =>
    have e := sum_app [x] l
    rw [sum_one, ih] at e
    rw [List.sum_cons]
    exact e
theorem il_sum (l : List Nat) : (il l).sum = ((Kzx2.sum l : Nat) : Int) := by
  rw [sum_list]
  unfold il
  induction l with
  | nil => rfl
  | cons x l ih =>
    rw [List.map_cons, List.sum_cons, List.sum_cons, ih]
    omega
/-- told rising from a number on, each a set of n things -/
def chk (n : Nat) : Nat → List Nat → Bool
  | _, [] => true
  | k, s :: r => decide (k ≤ s) && decide (s < 2 ^ n) && chk n (s + 1) r
theorem chk_is (n : Nat) : ∀ (l : List Nat) (k : Nat), chk n k l = (okFamily n l && match l with | [] => true | s :: _ => decide (k ≤ s))
  | [], _ => rfl
  | [s], k => by
    show (decide (k ≤ s) && decide (s < 2 ^ n) && true) = ((true && (decide (s < 2 ^ n) && true)) && decide (k ≤ s))
    cases decide (k ≤ s) <;> cases decide (s < 2 ^ n) <;> rfl
  | s :: t :: r, k => by
    have ih := chk_is n (t :: r) (s + 1)
    show (decide (k ≤ s) && decide (s < 2 ^ n) && chk n (s + 1) (t :: r)) = (((decide (s < t) && rising (t :: r)) && (decide (s < 2 ^ n) && (t :: r).all fun s => decide (s < 2 ^ n))) && decide (k ≤ s))
    rw [ih]
    show (decide (k ≤ s) && decide (s < 2 ^ n) && ((rising (t :: r) && (t :: r).all fun s => decide (s < 2 ^ n)) && decide (s + 1 ≤ t))) = _
    rw [show decide (s + 1 ≤ t) = decide (s < t) from rfl]
    cases decide (k ≤ s) <;> cases decide (s < 2 ^ n) <;> cases decide (s < t) <;> cases rising (t :: r) <;> cases (t :: r).all (fun s => decide (s < 2 ^ n)) <;> rfl
theorem chk_start (n : Nat) (l : List Nat) : okFamily n l = chk n 0 l := by
  rw [chk_is]
  cases l with
  | nil => simp
  | cons s r => simp
theorem chk_len {n : Nat} : ∀ {l : List Nat} {k : Nat}, chk n k l = true → l.length ≤ 2 ^ n - k
  | [], _, _ => Nat.zero_le _
  | s :: r, k, h => by
    have h' : (decide (k ≤ s) && decide (s < 2 ^ n) && chk n (s + 1) r) = true := h
    simp only [Bool.and_eq_true, decide_eq_true_eq] at h'
    have := chk_len h'.2
    rw [List.length_cons]
    omega
theorem fam_len {n : Nat} {l : List Nat} (h : okFamily n l = true) : l.length ≤ 2 ^ n := by
  rw [chk_start] at h
  exact chk_len h
theorem fam_lt {n : Nat} {l : List Nat} (h : okFamily n l = true) : ∀ s ∈ l, s < 2 ^ n := by
  unfold okFamily at h
  simp only [Bool.and_eq_true, List.all_eq_true, decide_eq_true_eq] at h
  exact h.2
/-- a set more, once -/
def addS (U : List Nat) (u : Nat) : List Nat := if u ∈ U then U else U ++ [u]
/-- each once, as they come -/
def once (L : List Nat) : List Nat := L.foldl addS []
theorem once_snoc (L : List Nat) (u : Nat) : once (L ++ [u]) = addS (once L) u := by
  unfold once
  rw [List.foldl_append]
  rfl
theorem add_mem {U : List Nat} {u s : Nat} : s ∈ addS U u ↔ s ∈ U ∨ s = u := by
  unfold addS
  split
  next h => exact ⟨.inl, fun z => z.elim id fun e => e ▸ h⟩
  next h => rw [List.mem_append, List.mem_singleton]
theorem add_nodup {U : List Nat} {u : Nat} (h : U.Nodup) : (addS U u).Nodup := by
  unfold addS
  split
  · exact h
  next e =>
    rw [List.nodup_append]
    refine ⟨h, by simp, fun a ha b hb => ?_⟩
    rw [List.mem_singleton] at hb
    intro z
    exact e (hb ▸ z ▸ ha)
theorem fold_mem {s : Nat} : ∀ {L U : List Nat}, s ∈ L.foldl addS U ↔ s ∈ U ∨ s ∈ L
  | [], U => by simp
  | u :: L, U => by
    rw [List.foldl_cons, fold_mem, add_mem, List.mem_cons, or_assoc]
theorem fold_nodup : ∀ {L U : List Nat}, U.Nodup → (L.foldl addS U).Nodup
  | [], _, h => h
  | u :: L, U, h => fold_nodup (L := L) (U := addS U u) (add_nodup h)
theorem once_mem {L : List Nat} {s : Nat} : s ∈ once L ↔ s ∈ L := by
  unfold once
  rw [fold_mem]
  simp
theorem once_nodup (L : List Nat) : (once L).Nodup := fold_nodup List.nodup_nil
theorem once_perm {n : Nat} {L : List Nat} (h : ∀ s ∈ L, s < 2 ^ n) : (once L).Perm (Kzx1.family n L) := by
  refine (List.perm_ext_iff_of_nodup (once_nodup L) ?_).mpr fun s => ?_
  · unfold Kzx1.family sets
    exact List.Pairwise.filter _ List.nodup_range
  · rw [once_mem, family_mem]
    exact ⟨fun z => ⟨h s z, z⟩, fun z => z.2⟩
theorem once_len {n : Nat} {L : List Nat} (h : ∀ s ∈ L, s < 2 ^ n) : (once L).length ≤ 2 ^ n := by
  rw [(once_perm h).length_eq]
  unfold Kzx1.family sets
  have := List.length_filter_le L.contains (List.range (2 ^ n))
  rw [List.length_range] at this
  exact this
theorem once_total {n : Nat} {L : List Nat} (m : List Nat) (h : ∀ s ∈ L, s < 2 ^ n) : total m (once L) = total m (Kzx1.family n L) := by
  unfold total
  rw [sum_list, sum_list]
  exact ((once_perm h).map _).sum_nat
/-- any of the one with any of the other -/
def mixed (g : Nat → Nat → Nat) (x y : List Nat) : List Nat := x.flatMap fun p => y.map fun q => g p q
/-- those ahead of the place i, j -/
def upto (g : Nat → Nat → Nat) (x y : List Nat) (i j : Nat) : List Nat := mixed g (x.take i) y ++ (y.take j).map fun q => g (at0 x i) q
theorem upto_start (g : Nat → Nat → Nat) (x y : List Nat) : upto g x y 0 0 = [] := rfl
theorem upto_step {g : Nat → Nat → Nat} {x y : List Nat} {i j t : Nat} (h : y[j]? = some t) : upto g x y i (j + 1) = upto g x y i j ++ [g (at0 x i) t] := by
  unfold upto
  rw [List.take_add_one, h, List.map_append, List.append_assoc]
  rfl
theorem upto_row {g : Nat → Nat → Nat} {x y : List Nat} {i s : Nat} (h : x[i]? = some s) : upto g x y i y.length = upto g x y (i + 1) 0 := by
  have e : at0 x i = s := by
    unfold at0
    rw [List.getD_eq_getElem?_getD, h]
    rfl
  unfold upto mixed
  rw [List.take_add_one, h, List.take_length, e]
  simp
theorem upto_end (g : Nat → Nat → Nat) (x y : List Nat) : upto g x y x.length 0 = mixed g x y := by
  unfold upto
  rw [List.take_length]
  simp
theorem mixed_mem {g : Nat → Nat → Nat} {x y : List Nat} {s : Nat} : s ∈ mixed g x y ↔ ∃ p ∈ x, ∃ q ∈ y, g p q = s := by
  unfold mixed
  rw [List.mem_flatMap]
  refine exists_congr fun p => and_congr_right fun _ => ?_
  rw [List.mem_map]
theorem upto_lt {g : Nat → Nat → Nat} {x y : List Nat} {i j n : Nat} (hg : ∀ p q, p < 2 ^ n → q < 2 ^ n → g p q < 2 ^ n) (hx : ∀ s ∈ x, s < 2 ^ n) (hy : ∀ s ∈ y, s < 2 ^ n) : ∀ s ∈ upto g x y i j, s < 2 ^ n := by
  intro s hs
  unfold upto at hs
  rcases List.mem_append.mp hs with h | h
  · obtain ⟨p, hp, q, hq, rfl⟩ := mixed_mem.mp h
    exact hg p q (hx p (List.mem_of_mem_take hp)) (hy q hq)
  · obtain ⟨q, hq, rfl⟩ := List.mem_map.mp h
    refine hg _ q ?_ (hy q (List.mem_of_mem_take hq))
    unfold at0
    rw [List.getD_eq_getElem?_getD]
    cases e : x[i]? with
    | none => exact Nat.two_pow_pos n
    | some z => exact hx z (List.mem_of_getElem? e)
theorem mixed_lt {g : Nat → Nat → Nat} {x y : List Nat} {n : Nat} (hg : ∀ p q, p < 2 ^ n → q < 2 ^ n → g p q < 2 ^ n) (hx : ∀ s ∈ x, s < 2 ^ n) (hy : ∀ s ∈ y, s < 2 ^ n) : ∀ s ∈ mixed g x y, s < 2 ^ n := by
  rw [← upto_end]
  exact upto_lt hg hx hy
theorem or_lt (n : Nat) : ∀ p q, p < 2 ^ n → q < 2 ^ n → p ||| q < 2 ^ n := fun _ _ h1 h2 => Nat.or_lt_two_pow h1 h2
theorem and_lt (n : Nat) : ∀ p q, p < 2 ^ n → q < 2 ^ n → p &&& q < 2 ^ n := fun p _ _ h2 => Nat.and_lt_two_pow p h2
theorem join_total {n : Nat} {x y : List Nat} (m : List Nat) (hx : ∀ s ∈ x, s < 2 ^ n) (hy : ∀ s ∈ y, s < 2 ^ n) : total m (once (mixed (· ||| ·) x y)) = total m (join n x y) :=
  once_total m (mixed_lt (or_lt n) hx hy)
theorem meet_total {n : Nat} {x y : List Nat} (m : List Nat) (hx : ∀ s ∈ x, s < 2 ^ n) (hy : ∀ s ∈ y, s < 2 ^ n) : total m (once (mixed (· &&& ·) x y)) = total m (meet n x y) :=
  once_total m (mixed_lt (and_lt n) hx hy)
theorem total_le {m U : List Nat} (h : ∀ x ∈ m, x ≤ 1000) : total m U ≤ U.length * 1000 := by
  unfold total
  have := sum_le (m := 1000) (l := U.map (at0 m)) (fun x hx => by
    obtain ⟨s, _, rfl⟩ := List.mem_map.mp hx
    exact at_le h)
  rw [List.length_map] at this
  exact this
end Fs
namespace Fs
open PySem PySem.Spec PyProof.Rows L2
open PySem.W (Codec)
open Kzx1 (sets okN)
open Kzx2 (at0 okW pairOk breaks)
def top (i : Nat) : Stmt := PySem.Challenge.pw_foursums_s05_gap.main.body.getD i (.Pass ⟨0, 0, 0, 0⟩)
/-! ### the text by places -/
abbrev sCount : Stmt := top 4
abbrev sRow : Stmt := top 5
abbrev sAll : Stmt := top 6
/-- a list of numbers as values -/
def wv (a : List Nat) : List V := (il a).map V.int
theorem wv_len (a : List Nat) : (wv a).length = a.length := by
  unfold wv il
  rw [List.length_map, List.length_map]
theorem wv_get (a : List Nat) (i : Nat) : (wv a)[i]? = (a[i]?).map fun (x : Nat) => V.int (x : Int) := by
  unfold wv il
  rw [List.getElem?_map, List.getElem?_map, Option.map_map]
  rfl
theorem wv_at {a : List Nat} {s : Nat} (h : s < a.length) : (wv a)[s]? = some (V.int (at0 a s : Int)) := by
  rw [wv_get, at_some h]
  rfl
theorem wv_some {a : List Nat} {i : Nat} {y : V} (h : (wv a)[i]? = some y) : ∃ z : Nat, a[i]? = some z ∧ y = V.int (z : Int) := by
  rw [wv_get] at h
  cases e : a[i]? with
  | none =>
    rw [e] at h
    cases h
  | some z =>
    rw [e] at h
    exact ⟨z, rfl, (Option.some.inj h).symm⟩
theorem ifb {b : Bool} {A B : Prop} (h1 : b = true → A) (h2 : b = false → B) : if b = true then A else B := by
  cases b with
  | true => exact iteT (h1 rfl)
  | false => exact iteF (h2 rfl)
/-! ### the promises -/
def spCount : Sp := fun vs H Q _ => ∃ k : Nat, vs = [.int (k : Int)] ∧ k ≤ 5 ∧ ∀ m : Nat, m = 2 ^ k → Q (.int (m : Int)) H
def spRow (K : PySem.W.Frag) : Sp := fun vs H Q _ => ∃ (k : Nat) (p : Addr) (a : List Nat), vs = [.int (k : Int), .ref p] ∧ k ≤ 5 ∧ SqL K H p (wv a) ∧ Q (.bl (okW k a)) H
def spAll (K : PySem.W.Frag) : Sp := fun vs H Q _ => ∃ (k : Nat) (t : Addr) (rows : List (Addr × List Nat)), vs = [.int (k : Int), .ref t] ∧ SqT K H t (rows.map fun r => V.ref r.1) ∧ (∀ r ∈ rows, SqL K H r.1 (wv r.2)) ∧
  Q (.bl (okAll k (rows.map (·.2)))) H
structure Txt (mg : Str → Option Value) (t1 t2 t3 : Tok) : Prop where
  mT : mg "NOT_AS_TOLD" = some (.int (-22) t1)
  mN : mg "MOST_THINGS" = some (.int 5 t2)
  mW : mg "MOST_WEIGHT" = some (.int 1000 t3)
  len : mg "len" = none
  range : mg "range" = none
section
variable {P : Program} {w : World} {K : PySem.W.Frag} {mg : Str → Option Value} {base : Heap} {t1 t2 t3 : Tok}
/-- within a comprehension's block -/
theorem ix_listK {X : Cx} (e : X.K = K) : IxR X (rIxL K) := e ▸ ix_list
/-! ### one theorem a def -/
theorem scC : FnScope ["n"] ["n"] (defScope sCount) := ⟨rfl, rfl, rfl, by decide +kernel, rfl, by decide +kernel, by decide +kernel⟩
theorem ok_count {f : Addr} {fd : FuncData} (F : Fun K "count_of_sets" "count_of_sets" sCount f fd) : FnOk P w K mg base CX0 1 f fd ["n"] spCount := by
  refine F.ok scC (fun vs H Q E h => ?_) (fun cdv A outer s H vs Q E hr h => ?_)
  · obtain ⟨k, rfl, _⟩ := h
    rfl
  · obtain ⟨k, rfl, hk, q⟩ := h
    refine ⟨_, pss_one (ps_ret (pe_op op_shl pe_int (pv 0))), ?_⟩
    refine ⟨_, rfl, _, _, rfl, rfl, ⟨by omega, by omega, by decide⟩, ?_⟩
    have e : (1 : Int) * 2 ^ ((k : Int).toNat) = ((2 ^ k : Nat) : Int) := by
      rw [Int.one_mul, Int.toNat_natCast, Int.natCast_pow]
      rfl
    show Q (.int ((1 : Int) * 2 ^ ((k : Int).toNat))) H
    rw [e]
    exact q _ rfl
theorem scR : FnScope ["n", "row", "weight"] ["n", "row"] (defScope sRow) := ⟨rfl, rfl, rfl, by decide +kernel, rfl, by decide +kernel, by decide +kernel⟩
theorem okW_false_len {k : Nat} {a : List Nat} (h : ¬ a.length = 2 ^ k) : okW k a = false := by
  unfold okW
  rw [beq_false_of_ne h]
  rfl
theorem okW_false_at {k : Nat} {a : List Nat} {x : Nat} (hx : x ∈ a) (h : 1000 < x) : okW k a = false := by
  cases e : okW k a with
  | false => rfl
  | true =>
    unfold okW at e
    simp only [Bool.and_eq_true, List.all_eq_true, decide_eq_true_eq] at e
    have := e.2 x hx
    omega
theorem okW_true {k : Nat} {a : List Nat} (hl : a.length = 2 ^ k) (h : ∀ x ∈ a, x ≤ 1000) : okW k a = true := by
  unfold okW
  simp only [Bool.and_eq_true, List.all_eq_true, decide_eq_true_eq, beq_iff_eq]
  exact ⟨hl, h⟩
theorem ok_row {f fC : Addr} {fd fdC : FuncData} (F : Fun K "are_weights" "are_weights" sRow f fd) (T : Txt mg t1 t2 t3) (FC : Fun K "count_of_sets" "count_of_sets" sCount fC fdC) (bC : Binds K fdC ["n"] []) (gC : mg "count_of_sets" = some (.ref fC)) :
    FnOk P w K mg base CX0 2 f fd ["n", "row"] (spRow K) := by
  have GC : FnOk P w K mg base CX0 1 fC fdC ["n"] spCount := ok_count FC
  refine F.ok scR (fun vs H Q E h => ?_) (fun cdv A outer s H vs Q E hr h => ?_)
  · obtain ⟨k, p, a, rfl, _⟩ := h
    rfl
  · obtain ⟨k, p, a, rfl, hk, hS, q⟩ := h
    refine ⟨_, pss_cons (ps_if (pt_cmpR op_ne (pe_callB call_len_seq (by rfl) T.len PySem.boot_len (pa_cons (pv 1) pa_nil)) (pe_call GC hr rfl gC FC.kp bC .nil pass0 (pa_cons (pv 0) pa_nil)) (nomark _)) (pss_one (ps_ret pe_bl)) pss_nil)
      (pss_cons (ps_for PassesOwn.never rfl (pi_list (pv 1)) (pg_name (i := 2) scR.nd rfl (Or.inl rfl))
        (pss_one (ps_if (pt_cmpR op_gt (pv 2) (pe_glob (v := .int 1000) rfl T.mW ⟨_, rfl⟩) (nomark _)) (pss_one (ps_ret pe_bl)) pss_nil)))
      (pss_one (ps_ret pe_bl))), ?_⟩
    refine ⟨_, rfl, p, _, rfl, .inl hS, _, rfl, k, rfl, hk, fun m hm => ?_⟩
    refine ⟨rfl, _, rfl, ifb (fun e => ?_) (fun e => ?_)⟩
    · have hl : ¬ a.length = 2 ^ k := by
        intro z
        rw [wv_len, z, hm, decide_eq_true rfl] at e
        exact Bool.false_ne_true e
      rw [okW_false_len hl] at q
      exact q
    · have hl : a.length = 2 ^ k := by
        rw [wv_len, Bool.not_eq_false', decide_eq_true_eq] at e
        injection e with e
        omega
      refine ⟨_, rfl, p, rfl, ⟨_, hS⟩, for_list (K := K) (a := p) (xs := wv a) (fun i σ H' => ∃ v : Option V, σ = [some (.int (k : Int)), some (.ref p), v] ∧ H' = H ∧ ∀ x ∈ a.take i, x ≤ 1000)
        ⟨none, rfl, rfl, fun x hx => absurd hx (by simp)⟩ (fun i σ H' _ ⟨_, _, e1, _⟩ => e1 ▸ hS) ?_ ?_⟩
      · rintro i y σ H' hi ⟨v, rfl, rfl, hx⟩
        obtain ⟨z, hz, rfl⟩ := wv_some hi
        refine ⟨_, rfl, _, _, rfl, rfl, _, rfl, ifb (fun e => ?_) (fun e => ?_)⟩
        · have e1 : (1000 : Int) < (z : Int) := of_decide_eq_true e
          rw [okW_false_at (List.mem_of_getElem? hz) (by omega)] at q
          exact q
        · have e1 : ¬ (1000 : Int) < (z : Int) := of_decide_eq_false e
          refine ⟨_, rfl, rfl, fun x h => ?_⟩
          rw [List.take_add_one, hz] at h
          rcases List.mem_append.mp h with h | h
          · exact hx x h
          · have : x = z := by simpa using h
            omega
      · rintro σ H' ⟨v, rfl, rfl, hx⟩
        rw [wv_len, List.take_length] at hx
        rw [okW_true hl hx] at q
        exact q
theorem scA : FnScope ["n", "rows", "row"] ["n", "rows"] (defScope sAll) := ⟨rfl, rfl, rfl, by decide +kernel, rfl, by decide +kernel, by decide +kernel⟩
theorem okN_lo {k : Nat} {r : List (List Nat)} (h : k < 1 ∨ 5 < k) : okAll k r = false := by
  unfold okAll okN
  have : (decide (1 ≤ k) && decide (k ≤ 5)) = false := by
    rcases h with h | h
    · rw [decide_eq_false (by omega)]; rfl
    · rw [decide_eq_false (p := k ≤ 5) (by omega), Bool.and_false]
  rw [this]; rfl
theorem ok_all {f fC fR : Addr} {fd fdC fdR : FuncData} (F : Fun K "are_all_weights" "are_all_weights" sAll f fd) (T : Txt mg t1 t2 t3) (FC : Fun K "count_of_sets" "count_of_sets" sCount fC fdC) (bC : Binds K fdC ["n"] []) (gC : mg "count_of_sets" = some (.ref fC))
    (FR : Fun K "are_weights" "are_weights" sRow fR fdR) (bR : Binds K fdR ["n", "row"] []) (gR : mg "are_weights" = some (.ref fR)) :
    FnOk P w K mg base CX0 3 f fd ["n", "rows"] (spAll K) := by
  have GR : FnOk P w K mg base CX0 2 fR fdR ["n", "row"] (spRow K) := ok_row FR T FC bC gC
  refine F.ok scA (fun vs H Q E h => ?_) (fun cdv A outer s H vs Q E hr h => ?_)
  · obtain ⟨k, t, rows, rfl, _⟩ := h
    rfl
  · obtain ⟨k, t, rows, rfl, hT, hS, q⟩ := h
    refine ⟨_, pss_cons (ps_if (PW.pt (pw_or (pt_cmpR op_lt (pv 0) pe_int (nomark _)) (pw_or1 (pt_cmpR op_gt (pv 0) (pe_glob (v := .int 5) rfl T.mN ⟨_, rfl⟩) (nomark _))))) (pss_one (ps_ret pe_bl)) pss_nil)
      (pss_cons (ps_for PassesOwn.never rfl (pi_tup (pv 1)) (pg_name (i := 2) scA.nd rfl (Or.inl rfl))
        (pss_one (ps_if (pt_not (pt_val (pe_call GR hr rfl gR FR.kp bR .nil pass0 (pa_cons (pv 0) (pa_cons (pv 2) pa_nil))))) (pss_one (ps_ret pe_bl)) pss_nil)))
      (pss_one (ps_ret pe_bl))), ?_⟩
    refine ⟨_, rfl, _, _, rfl, rfl, _, rfl, ifb (fun e => ?_) (fun e => ?_)⟩
    · have e1 : (k : Int) < 1 := of_decide_eq_true e
      rw [okN_lo (.inl (by omega))] at q
      exact iteT q
    · have e1 : ¬ (k : Int) < 1 := of_decide_eq_false e
      refine ⟨_, rfl, _, _, rfl, rfl, _, rfl, ifb (fun e => ?_) (fun e => ?_)⟩
      · have e2 : (5 : Int) < (k : Int) := of_decide_eq_true e
        rw [okN_lo (.inr (by omega))] at q
        exact q
      · have e2 : ¬ (5 : Int) < (k : Int) := of_decide_eq_false e
        have hN : okN k = true := by
          unfold okN
          rw [decide_eq_true (show 1 ≤ k by omega), decide_eq_true (show k ≤ 5 by omega)]; rfl
        refine ⟨_, rfl, t, rfl, ⟨_, hT⟩, for_tup (K := K) (a := t) (xs := rows.map fun r => V.ref r.1) (fun i σ H' => ∃ v : Option V, σ = [some (.int (k : Int)), some (.ref t), v] ∧ H' = H ∧ ∀ r ∈ rows.take i, okW k r.2 = true)
          ⟨none, rfl, rfl, fun x hx => absurd hx (by simp)⟩ (fun i σ H' _ ⟨_, _, e1, _⟩ => e1 ▸ hT) ?_ ?_⟩
        · rintro i y σ H' hi ⟨v, rfl, rfl, hx⟩
          obtain ⟨r, hr1, rfl⟩ : ∃ r, rows[i]? = some r ∧ y = V.ref r.1 := by
            rw [List.getElem?_map] at hi
            cases e : rows[i]? with
            | none =>
              rw [e] at hi
              cases hi
            | some z =>
              rw [e] at hi
              exact ⟨z, rfl, (Option.some.inj hi).symm⟩
          have hm := List.mem_of_getElem? hr1
          refine ⟨_, rfl, _, rfl, k, r.1, r.2, rfl, by omega, hS r hm, _, rfl, ifb (fun e => ?_) (fun e => ?_)⟩
          · have e3 : okW k r.2 = false := by simpa using e
            have : okAll k (rows.map (·.2)) = false := by
              unfold okAll
              have : (rows.map (·.2)).all (okW k) = false := by
                rw [List.all_eq_false]
                exact ⟨r.2, List.mem_map.mpr ⟨r, hm, rfl⟩, by rw [e3]; decide⟩
              rw [this, Bool.and_false]
            rw [this] at q
            exact q
          · have e3 : okW k r.2 = true := by simpa using e
            refine ⟨_, rfl, rfl, fun x h => ?_⟩
            rw [List.take_add_one, hr1] at h
            rcases List.mem_append.mp h with h | h
            · exact hx x h
            · have : x = r := by simpa using h
              rw [this]; exact e3
        · rintro σ H' ⟨v, rfl, rfl, hx⟩
          rw [List.length_map, List.take_length] at hx
          have : okAll k (rows.map (·.2)) = true := by
            unfold okAll
            rw [hN, Bool.true_and, List.all_eq_true]
            intro x hx'
            obtain ⟨r, hr1, rfl⟩ := List.mem_map.mp hx'
            exact hx r hr1
          rw [this] at q
          exact q
theorem seq_upd {H : Hp} {p q : Addr} {o : HO} {xs : List V} (hq : H q = Option.none) (h : SqL K H p xs) : SqL K (upd H q o) p xs :=
  Same.seq (fun b o' e => by rw [upd_ne (ne_of_none e hq)]; exact e) h
end
/-! ### the request -/
theorem il_nats {l : List Int} (h : l.all (Codec.inInt 0 4294967295) = true) : l = il (Kzx3Neutral.natsOf l) := by
  unfold il Kzx3Neutral.natsOf
  rw [List.map_map]
  conv => lhs; rw [← List.map_id l]
  refine List.map_congr_left fun x hx => ?_
  have e := List.all_eq_true.mp h x hx
  have e2 := (Codec.inInt_iff.mp e).1
  show x = ((x.toNat : Nat) : Int)
  omega
theorem wv_nats {l : List Int} (h : l.all (Codec.inInt 0 4294967295) = true) : l.map V.int = wv (Kzx3Neutral.natsOf l) := by
  unfold wv
  rw [← il_nats h]
/-! ### one side held against the other -/
abbrev sHeld : Stmt := top 7
def spHeld : Sp := fun vs H Q _ => ∃ x y : Nat, vs = [.int (x : Int), .int (y : Int)] ∧ ∀ (H' : Hp) (p : Addr), H' p = some (.lst ((held x y).map V.int)) → Q (.ref p) H'
section
variable {P : Program} {w : World} {K : PySem.W.Frag} {mg : Str → Option Value} {base : Heap}
theorem scH : FnScope ["first", "second"] ["first", "second"] (defScope sHeld) := ⟨rfl, rfl, rfl, by decide +kernel, rfl, by decide +kernel, by decide +kernel⟩
theorem ok_held {f : Addr} {fd : FuncData} (F : Fun K "held_against" "held_against" sHeld f fd) : FnOk P w K mg base CX0 1 f fd ["first", "second"] spHeld := by
  refine F.ok scH (fun vs H Q E h => ?_) (fun cdv A outer s H vs Q E hr h => ?_)
  · obtain ⟨x, y, rfl, _⟩ := h
    rfl
  · obtain ⟨x, y, rfl, q⟩ := h
    refine ⟨_, pss_one (ps_ret (pe_lst (pa_cons (pe_ifExp (pt_cmpR op_le (pv 0) (pv 1) (nomark _)) pe_int pe_int) (pa_cons (pv 0) (pa_cons (pv 1) pa_nil))))), ?_⟩
    refine ⟨_, rfl, _, rfl, _, _, rfl, rfl, _, rfl, ifb (fun e => ?_) (fun e => ?_)⟩
    · have e1 : (x : Int) ≤ (y : Int) := of_decide_eq_true e
      refine ⟨_, rfl, _, rfl, (by show 3 ≤ sizeLine; decide), fun p hp => ?_⟩
      refine q _ p ?_
      unfold held
      rw [if_pos (by omega)]
      exact upd_same
    · have e1 : ¬ (x : Int) ≤ (y : Int) := of_decide_eq_false e
      refine ⟨_, rfl, _, rfl, (by show 3 ≤ sizeLine; decide), fun p hp => ?_⟩
      refine q _ p ?_
      unfold held
      rw [if_neg (by omega)]
      exact upd_same
end
/-! ### gap -/
abbrev sMain : Stmt := top 8
def spMain (K : PySem.W.Frag) : Sp := fun vs H Q _ => ∃ (n : Nat) (pa pb pc pd : Addr) (a b c d : List Nat), vs = [.int (n : Int), .ref pa, .ref pb, .ref pc, .ref pd] ∧ SqL K H pa (wv a) ∧ SqL K H pb (wv b) ∧ SqL K H pc (wv c) ∧ SqL K H pd (wv d) ∧
  ∀ (H' : Hp) (p : Addr), H' p = some (.lst ((PyKzx3.gap (n : Int) (il a) (il b) (il c) (il d)).map V.int)) → Q (.ref p) H'
theorem row_sum_le {n : Nat} {a : List Nat} (hn : n ≤ 5) (h : a.length = 2 ^ n ∧ ∀ x ∈ a, x ≤ 1000) : (il a).sum = ((Kzx2.sum a : Nat) : Int) ∧ Kzx2.sum a ≤ 32000 := by
  refine ⟨il_sum a, ?_⟩
  have h1 := sum_le h.2
  have h2 := pow_le hn
  have h3 : a.length * 1000 ≤ 32 * 1000 := Nat.mul_le_mul_right _ (by omega)
  omega
section
variable {P : Program} {w : World} {K : PySem.W.Frag} {mg : Str → Option Value} {base : Heap} {t1 t2 t3 : Tok}
theorem scM : FnScope ["n", "a", "b", "c", "d"] ["n", "a", "b", "c", "d"] (defScope sMain) := ⟨rfl, rfl, rfl, by decide +kernel, rfl, by decide +kernel, by decide +kernel⟩
theorem ok_main {f fC fR fA fH : Addr} {fd fdC fdR fdA fdH : FuncData} (F : Fun K "gap" "gap" sMain f fd) (T : Txt mg t1 t2 t3) (mS : mg "sum" = none)
    (FC : Fun K "count_of_sets" "count_of_sets" sCount fC fdC) (bC : Binds K fdC ["n"] []) (gC : mg "count_of_sets" = some (.ref fC))
    (FR : Fun K "are_weights" "are_weights" sRow fR fdR) (bR : Binds K fdR ["n", "row"] []) (gR : mg "are_weights" = some (.ref fR))
    (FA : Fun K "are_all_weights" "are_all_weights" sAll fA fdA) (bA : Binds K fdA ["n", "rows"] []) (gA : mg "are_all_weights" = some (.ref fA))
    (FH : Fun K "held_against" "held_against" sHeld fH fdH) (bH : Binds K fdH ["first", "second"] []) (gH : mg "held_against" = some (.ref fH)) :
    FnOk P w K mg base CX0 4 f fd ["n", "a", "b", "c", "d"] (spMain K) := by
  have GH : FnOk P w K mg base CX0 1 fH fdH ["first", "second"] spHeld := ok_held FH
  have GA : FnOk P w K mg base CX0 3 fA fdA ["n", "rows"] (spAll K) := ok_all FA T FC bC gC FR bR gR
  refine F.ok scM (fun vs H Q E h => ?_) (fun cdv A outer s H vs Q E hr h => ?_)
  · obtain ⟨n, pa, pb, pc, pd, a, b, c, d, rfl, _⟩ := h
    rfl
  · obtain ⟨n, pa, pb, pc, pd, a, b, c, d, rfl, ha, hb, hc, hd, q⟩ := h
    have hr1 : Room 1 _ := hr.mono (by decide)
    refine ⟨_, pss_cons (ps_if (pt_not (pt_val (pe_call GA hr rfl gA FA.kp bA .nil pass0 (pa_cons (pv 0) (pa_cons (pe_tup (pa_cons (pv 1) (pa_cons (pv 2) (pa_cons (pv 3) (pa_cons (pv 4) pa_nil))))) pa_nil))))) (pss_one (ps_ret (pe_lst (pa_cons (pe_glob (v := .int (-22)) rfl T.mT ⟨_, rfl⟩) pa_nil)))) pss_nil)
      (pss_one (ps_ret (pe_call GH hr1 rfl gH FH.kp bH .nil pass0 (pa_cons
        (pe_op op_mul (pe_callB (cr_sum rfl) (by rfl) mS PyProof.Rows.boot_sum (pa_cons (pv 1) pa_nil)) (pe_callB (cr_sum rfl) (by rfl) mS PyProof.Rows.boot_sum (pa_cons (pv 2) pa_nil)))
        (pa_cons (pe_op op_mul (pe_callB (cr_sum rfl) (by rfl) mS PyProof.Rows.boot_sum (pa_cons (pv 3) pa_nil)) (pe_callB (cr_sum rfl) (by rfl) mS PyProof.Rows.boot_sum (pa_cons (pv 4) pa_nil))) pa_nil))))), ?_⟩
    refine ⟨_, rfl, _, rfl, _, rfl, _, rfl, _, rfl, (by show 4 ≤ sizeLine; decide), fun tp htp => ?_⟩
    have ha1 := seq_upd (o := .tup [.ref pa, .ref pb, .ref pc, .ref pd]) htp ha
    have hb1 := seq_upd (o := .tup [.ref pa, .ref pb, .ref pc, .ref pd]) htp hb
    have hc1 := seq_upd (o := .tup [.ref pa, .ref pb, .ref pc, .ref pd]) htp hc
    have hd1 := seq_upd (o := .tup [.ref pa, .ref pb, .ref pc, .ref pd]) htp hd
    generalize hH1 : upd H tp (.tup [.ref pa, .ref pb, .ref pc, .ref pd]) = H1 at ha1 hb1 hc1 hd1
    have hT1 : SqT K H1 tp [.ref pa, .ref pb, .ref pc, .ref pd] := SqT.of (by rw [← hH1]; exact upd_same)
    refine ⟨n, tp, [(pa, a), (pb, b), (pc, c), (pd, d)], rfl, hT1, ?_, _, rfl, ifb (fun e => ?_) (fun e => ?_)⟩
    · intro r hr2
      simp only [List.mem_cons, List.not_mem_nil, or_false] at hr2
      rcases hr2 with rfl | rfl | rfl | rfl
      · exact ha1
      · exact hb1
      · exact hc1
      · exact hd1
    · have e1 : okAll n [a, b, c, d] = false := by simpa using e
      refine ⟨(by show 1 ≤ sizeLine; decide), fun p hp => ?_⟩
      refine q _ p ?_
      rw [gap_bad e1]
      exact upd_same
    · have e1 : okAll n [a, b, c, d] = true := by simpa using e
      have hn := okAll_n e1
      have la := row_sum_le hn.2 (okAll_row e1 (a := a) (by simp))
      have lb := row_sum_le hn.2 (okAll_row e1 (a := b) (by simp))
      have lc := row_sum_le hn.2 (okAll_row e1 (a := c) (by simp))
      have ld := row_sum_le hn.2 (okAll_row e1 (a := d) (by simp))
      refine ⟨_, rfl, pa, il a, rfl, ha1, _, rfl, pb, il b, rfl, hb1, _, _, rfl, rfl, .inl ⟨by rw [la.1]; omega, by rw [la.1]; omega⟩,
        _, rfl, pc, il c, rfl, hc1, _, rfl, pd, il d, rfl, hd1, _, _, rfl, rfl, .inl ⟨by rw [lc.1]; omega, by rw [lc.1]; omega⟩, ?_⟩
      refine ⟨Kzx2.sum a * Kzx2.sum b, Kzx2.sum c * Kzx2.sum d, ?_, fun H' p hp => ?_⟩
      · rw [la.1, lb.1, lc.1, ld.1, Int.natCast_mul, Int.natCast_mul]
        rfl
      · refine q _ p ?_
        rw [gap_ok e1]
        exact hp
end
/-! ### what the top has written -/
theorem all_mk {P : Program} {w : World} {K : PySem.W.Frag} {h : Heap} {mg : Str → Option Value} {fa fC fR fA fH fM : Addr} (X : K.In h) (G : h.Ns mainGlobals mg) (hfa : mg "gap" = some (.ref fa))
    {odC anC odR anR odA anA odH anH odM anM : Option Addr} {slC slR slA slH slM : Array (Option Value)} {ocC kVC dcC pmC cdC ctC ocR kVR dcR pmR cdR ctR ocA kVA dcA pmA cdA ctA ocH kVH dcH pmH cdH ctH ocM kVM dcM pmM cdM ctM : Value} {t1 t2 t3 : Tok}
    (aC : PySem.W.nsIn K mainGlobals "count_of_sets" = some (some (.ref fC))) (lC : K.lookup fC = some ⟨ocC, odC, .func (PySem.W.fnOf "count_of_sets" "count_of_sets" (defArgs sCount) (defBody sCount) (defScope sCount) .none kVC dcC pmC anC cdC ctC), slC⟩) (cC : PySem.W.codeIn K cdC "count_of_sets" = true) (kC : PySem.W.keepIn K (.ref fC) = true)
    (aR : PySem.W.nsIn K mainGlobals "are_weights" = some (some (.ref fR))) (lR : K.lookup fR = some ⟨ocR, odR, .func (PySem.W.fnOf "are_weights" "are_weights" (defArgs sRow) (defBody sRow) (defScope sRow) .none kVR dcR pmR anR cdR ctR), slR⟩) (cR : PySem.W.codeIn K cdR "are_weights" = true) (kR : PySem.W.keepIn K (.ref fR) = true)
    (aA : PySem.W.nsIn K mainGlobals "are_all_weights" = some (some (.ref fA))) (lA : K.lookup fA = some ⟨ocA, odA, .func (PySem.W.fnOf "are_all_weights" "are_all_weights" (defArgs sAll) (defBody sAll) (defScope sAll) .none kVA dcA pmA anA cdA ctA), slA⟩) (cA : PySem.W.codeIn K cdA "are_all_weights" = true) (kA : PySem.W.keepIn K (.ref fA) = true)
    (aH : PySem.W.nsIn K mainGlobals "held_against" = some (some (.ref fH))) (lH : K.lookup fH = some ⟨ocH, odH, .func (PySem.W.fnOf "held_against" "held_against" (defArgs sHeld) (defBody sHeld) (defScope sHeld) .none kVH dcH pmH anH cdH ctH), slH⟩) (cH : PySem.W.codeIn K cdH "held_against" = true) (kH : PySem.W.keepIn K (.ref fH) = true)
    (aM : PySem.W.nsIn K mainGlobals "gap" = some (some (.ref fM))) (lM : K.lookup fM = some ⟨ocM, odM, .func (PySem.W.fnOf "gap" "gap" (defArgs sMain) (defBody sMain) (defScope sMain) .none kVM dcM pmM anM cdM ctM), slM⟩) (cM : PySem.W.codeIn K cdM "gap" = true) (kM : PySem.W.keepIn K (.ref fM) = true)
    (m1 : PySem.W.nsIn K mainGlobals "NOT_AS_TOLD" = some (some (.int (-22) t1)))
    (m2 : PySem.W.nsIn K mainGlobals "MOST_THINGS" = some (some (.int (5) t2)))
    (m3 : PySem.W.nsIn K mainGlobals "MOST_WEIGHT" = some (some (.int (1000) t3)))
    (z1 : PySem.W.nsIn K mainGlobals "len" = some none)
    (z2 : PySem.W.nsIn K mainGlobals "range" = some none)
    (z3 : PySem.W.nsIn K mainGlobals "sum" = some none)
    : ∃ fd : FuncData, (∀ (s : Shared) (us : List Value), us.length = (["n", "a", "b", "c", "d"] : List Str).length → BindsTo s fd ⟨us, []⟩ ((["n", "a", "b", "c", "d"] : List Str).zip us)) ∧ ∀ base : Heap, K.In base → base.Ns mainGlobals mg → FnOk P w K mg base CX0 4 fa fd ["n", "a", "b", "c", "d"] (spMain K) := by
  have e := hfa.symm.trans (PySem.W.mg_of X G aM)
  cases e
  have T : Txt mg t1 t2 t3 := ⟨PySem.W.mg_of X G m1, PySem.W.mg_of X G m2, PySem.W.mg_of X G m3, PySem.W.mg_none_of X G z1, PySem.W.mg_none_of X G z2⟩
  have y1 := PySem.W.mg_none_of X G z3
  have FC := fun_mk (st := sCount) lC cC kC
  have bC := FC.binds (ps := ["n"]) fun _ _ _ _ _ _ us hl => match us, hl with | [_], _ => rfl
  have gC := PySem.W.mg_of X G aC
  have FR := fun_mk (st := sRow) lR cR kR
  have bR := FR.binds (ps := ["n", "row"]) fun _ _ _ _ _ _ us hl => match us, hl with | [_, _], _ => rfl
  have gR := PySem.W.mg_of X G aR
  have FA := fun_mk (st := sAll) lA cA kA
  have bA := FA.binds (ps := ["n", "rows"]) fun _ _ _ _ _ _ us hl => match us, hl with | [_, _], _ => rfl
  have gA := PySem.W.mg_of X G aA
  have FH := fun_mk (st := sHeld) lH cH kH
  have bH := FH.binds (ps := ["first", "second"]) fun _ _ _ _ _ _ us hl => match us, hl with | [_, _], _ => rfl
  have gH := PySem.W.mg_of X G aH
  have FM := fun_mk (st := sMain) lM cM kM
  exact ⟨PySem.W.fnOf "gap" "gap" (defArgs sMain) (defBody sMain) (defScope sMain) .none kVM dcM pmM anM cdM ctM, fun s us hu => match us, hu with | [_, _, _, _, _], _ => .of_eq rfl, fun base _ _ => ok_main FM T y1 FC bC gC FR bR gR FA bA gA FH bH gH⟩
end Fs
open PySem PySem.W PyProof.Rows
set_option maxRecDepth 100000 in
set_option maxHeartbeats 0 in
theorem PySem.Challenge.cw_foursums_s05_gap_holds : PySem.Challenge.rw_foursums_s05_gap.Holds := by
  w_on; k_headS; (case hw => exact ⟨[.int 0, .list [], .list [], .list [], .list []], by decide +kernel, by decide +kernel⟩)
  k_fillS
  refine L2.walk_specK (r := PySem.Challenge.rw_foursums_s05_gap) (k := 4) (CX := L2.CX0) (ps := ["n", "a", "b", "c", "d"]) (sp := Fs.spMain) (by decide +kernel) rfl rfl ⟨rfl, by decide, by decide⟩ (fun w h Y => PySem.W.kIn_of Y) ?F ?S (fun _ _ _ _ z => z)
  case F =>
    intro w mg fa h Y KX G hmg
    refine' Fs.all_mk KX G hmg ?aC ?lC ?cC ?kC ?aR ?lR ?cR ?kR ?aA ?lA ?cA ?kA ?aH ?lH ?cH ?kH ?aM ?lM ?cM ?kM ?m1 ?m2 ?m3 ?z1 ?z2 ?z3
    (case aC => k_is)
    (case lC => k_is)
    (case cC => k_is)
    (case kC => k_is)
    (case aR => k_is)
    (case lR => k_is)
    (case cR => k_is)
    (case kR => k_is)
    (case aA => k_is)
    (case lA => k_is)
    (case cA => k_is)
    (case kA => k_is)
    (case aH => k_is)
    (case lH => k_is)
    (case cH => k_is)
    (case kH => k_is)
    (case aM => k_is)
    (case lM => k_is)
    (case cM => k_is)
    (case kM => k_is)
    (case m1 => k_is)
    (case m2 => k_is)
    (case m3 => k_is)
    (case z1 => k_is)
    (case z2 => k_is)
    (case z3 => k_is)
  case S =>
    intro K H xs a hO hwi hask hx
    have q : (Codec.inInt 0 4294967295 a.1 && ((Codec.inLen 0 40 a.2.1 && a.2.1.all (Codec.inInt 0 4294967295)) && ((Codec.inLen 0 40 a.2.2.1 && a.2.2.1.all (Codec.inInt 0 4294967295)) && ((Codec.inLen 0 40 a.2.2.2.1 && a.2.2.2.1.all (Codec.inInt 0 4294967295)) && ((Codec.inLen 0 40 a.2.2.2.2.1 && a.2.2.2.2.1.all (Codec.inInt 0 4294967295)) && true))))) = true := hwi
    simp only [Bool.and_eq_true] at q
    cases hx with
    | cons u0 r0 =>
    cases r0 with
    | cons u1 r1 =>
    cases r1 with
    | cons u2 r2 =>
    cases r2 with
    | cons u3 r3 =>
    cases r3 with
    | cons u4 r4 =>
    cases r4
    cases u0
    cases u1 with
    | lst hs1 ha1 =>
    have e1 := L2.ints_dw a.2.1 _ ha1
    subst e1
    cases u2 with
    | lst hs2 ha2 =>
    have e2 := L2.ints_dw a.2.2.1 _ ha2
    subst e2
    cases u3 with
    | lst hs3 ha3 =>
    have e3 := L2.ints_dw a.2.2.2.1 _ ha3
    subst e3
    cases u4 with
    | lst hs4 ha4 =>
    have e4 := L2.ints_dw a.2.2.2.2.1 _ ha4
    subst e4
    have n0 : ((a.1.toNat : Nat) : Int) = a.1 := Int.toNat_of_nonneg (Codec.inInt_iff.mp q.1).1
    have n1 := Fs.il_nats q.2.1.2
    have w1 := Fs.wv_nats q.2.1.2
    rw [w1] at hs1
    have n2 := Fs.il_nats q.2.2.1.2
    have w2 := Fs.wv_nats q.2.2.1.2
    rw [w2] at hs2
    have n3 := Fs.il_nats q.2.2.2.1.2
    have w3 := Fs.wv_nats q.2.2.2.1.2
    rw [w3] at hs3
    have n4 := Fs.il_nats q.2.2.2.2.1.2
    have w4 := Fs.wv_nats q.2.2.2.2.1.2
    rw [w4] at hs4
    refine ⟨a.1.toNat, _, _, _, _, Kzx3Neutral.natsOf a.2.1, Kzx3Neutral.natsOf a.2.2.1, Kzx3Neutral.natsOf a.2.2.2.1, Kzx3Neutral.natsOf a.2.2.2.2.1, by rw [n0], hs1, hs2, hs3, hs4, fun H' p hp => ?_⟩
    rw [n0, ← n1, ← n2, ← n3, ← n4] at hp
    exact .lst (L2.SqL.of hp) (L2.dw_ints _)
#print axioms PySem.Challenge.cw_foursums_s05_gap_holds
