import PyProof.Rows.All
import Wide.All
import OpenK.AllK
import Wide.FinOn
import Open.SpecLaws
import KE.OsHead
import KE.OsGo
import HandS.ForSpec
import HandS.Text
import HandS.Comp
import PySem.Challenge.RW_foursums_s01_holds
set_option Elab.async false
set_option maxRecDepth 100000
set_option maxHeartbeats 4000000
namespace Fs
open Kzx1 (sets okN)
open Kzx2 (at0 okW pairOk breaks)
/-! the mathematics of holds -/
theorem found {β : Type} (f : Nat → Option β) {i : Nat} {b : β} : ∀ (N : Nat), i < N → f i = some b → (∀ j, j < i → f j = none) → (List.range N).findSome? f = some b
  | 0, h, _, _ => absurd h (Nat.not_lt_zero _)
  | N + 1, h, hb, hn => by
    rw [List.range_succ, List.findSome?_append]
    by_cases e : i < N
    · rw [found f N e hb hn]; rfl
    · have e2 : i = N := by omega
      subst e2
      have q : (List.range i).findSome? f = none := by
        rw [List.findSome?_eq_none_iff]
        intro x hx
        exact hn x (List.mem_range.mp hx)
      rw [q]
      simp [hb]
theorem breaks_none {n : Nat} {a b c d : List Nat} (h : ∀ s, s < 2 ^ n → ∀ t, t < 2 ^ n → pairOk a b c d s t = true) : breaks n a b c d = none := by
  unfold breaks sets
  rw [List.findSome?_eq_none_iff]
  intro s hs
  rw [Option.map_eq_none_iff, List.find?_eq_none]
  intro t ht
  rw [h s (List.mem_range.mp hs) t (List.mem_range.mp ht)]
  decide
theorem breaks_some {n s t : Nat} {a b c d : List Nat} (hs : s < 2 ^ n) (ht : t < 2 ^ n) (h : ∀ s', s' < s → ∀ t', t' < 2 ^ n → pairOk a b c d s' t' = true) (h2 : ∀ t', t' < t → pairOk a b c d s t' = true) (h3 : pairOk a b c d s t = false) : breaks n a b c d = some (s, t) := by
  unfold breaks sets
  refine found _ (2 ^ n) hs ?_ ?_
  · have e : (List.range (2 ^ n)).find? (fun t => !pairOk a b c d s t) = some t := by
      rw [List.find?_range_eq_some]
      refine ⟨by rw [h3]; rfl, List.mem_range.mpr ht, fun j hj => ?_⟩
      rw [h2 j hj]; rfl
    rw [e]; rfl
  · intro s' hs'
    rw [Option.map_eq_none_iff, List.find?_eq_none]
    intro t' ht'
    rw [h s' hs' t' (List.mem_range.mp ht')]
    decide
/-- n is 1 to 5 and each row is weights -/
def okAll (n : Nat) (rows : List (List Nat)) : Bool := okN n && rows.all (okW n)
theorem nats_ints (a : List Nat) : Kzx3Neutral.natsOf (a.map fun (x : Nat) => (x : Int)) = a := by
  unfold Kzx3Neutral.natsOf
  rw [List.map_map]
  conv => rhs; rw [← List.map_id a]
  rfl
def il (a : List Nat) : List Int := a.map fun (x : Nat) => (x : Int)
theorem holds_eq (n : Nat) (a b c d : List Nat) : PyKzx3.holds (n : Int) (il a) (il b) (il c) (il d) =
    (let z := Kzx3.answer (.holds n a b c d)
     z.value :: z.nums) := by
  show (let z := Kzx3.answer (.holds (n : Int).toNat (Kzx3Neutral.natsOf (il a)) (Kzx3Neutral.natsOf (il b)) (Kzx3Neutral.natsOf (il c)) (Kzx3Neutral.natsOf (il d))); z.value :: z.nums) = _
  unfold il
  rw [nats_ints, nats_ints, nats_ints, nats_ints, Int.toNat_natCast]
theorem with3_bad {n : Nat} {a b c : List Nat} {h : Unit → Kzx1.Ans} (e : okAll n [a, b, c] = false) : Kzx3.with3 n a b c h = Kzx1.say (-22) := by
  unfold Kzx3.with3
  rw [if_pos]
  unfold okAll at e
  simp only [List.all_cons, List.all_nil, Bool.and_true] at e
  cases e1 : okN n <;> cases e2 : okW n a <;> cases e3 : okW n b <;> cases e4 : okW n c <;> simp_all
theorem with3_ok {n : Nat} {a b c : List Nat} {h : Unit → Kzx1.Ans} (e : okAll n [a, b, c] = true) : Kzx3.with3 n a b c h = h () := by
  unfold Kzx3.with3
  rw [if_neg]
  unfold okAll at e
  simp only [List.all_cons, List.all_nil, Bool.and_true, Bool.and_eq_true] at e
  simp [e.1, e.2]
theorem all4 (n : Nat) (a b c d : List Nat) : okAll n [a, b, c, d] = (okAll n [a, b, c] && okW n d) := by
  unfold okAll
  simp only [List.all_cons, List.all_nil, Bool.and_true, Bool.and_assoc]
theorem holds_bad {n : Nat} {a b c d : List Nat} (e : okAll n [a, b, c, d] = false) : PyKzx3.holds (n : Int) (il a) (il b) (il c) (il d) = [-22] := by
  rw [holds_eq]
  rw [all4] at e
  show (let z := Kzx3.with3 n a b c _; z.value :: z.nums) = _
  cases q : okAll n [a, b, c] with
  | false =>
    rw [with3_bad q]; rfl
  | true =>
    rw [with3_ok q]
    rw [q] at e
    have e2 : okW n d = false := e
    rw [if_pos e2]; rfl
theorem holds_ok {n : Nat} {a b c d : List Nat} (e : okAll n [a, b, c, d] = true) : PyKzx3.holds (n : Int) (il a) (il b) (il c) (il d) = match breaks n a b c d with
    | none => [1]
    | some y => [0, (y.1 : Int), (y.2 : Int)] := by
  rw [holds_eq]
  rw [all4, Bool.and_eq_true] at e
  show (let z := Kzx3.with3 n a b c _; z.value :: z.nums) = _
  rw [with3_ok e.1, if_neg (by rw [e.2]; decide)]
  cases breaks n a b c d <;> rfl
theorem okAll_n {n : Nat} {rows : List (List Nat)} (h : okAll n rows = true) : 1 ≤ n ∧ n ≤ 5 := by
  unfold okAll okN at h
  simp only [Bool.and_eq_true, decide_eq_true_eq] at h
  exact h.1
theorem okAll_row {n : Nat} {rows : List (List Nat)} (h : okAll n rows = true) {a : List Nat} (ha : a ∈ rows) : a.length = 2 ^ n ∧ ∀ x ∈ a, x ≤ 1000 := by
  unfold okAll at h
  rw [Bool.and_eq_true, List.all_eq_true] at h
  have q := h.2 a ha
  unfold okW at q
  simp only [Bool.and_eq_true, List.all_eq_true, decide_eq_true_eq, beq_iff_eq] at q
  exact q
/-- a weight by its place -/
theorem at_some {a : List Nat} {s : Nat} (h : s < a.length) : a[s]? = some (at0 a s) := by
  unfold at0
  rw [List.getD_eq_getElem?_getD, List.getElem?_eq_getElem h]; rfl
theorem at_le {a : List Nat} {s m : Nat} (h : ∀ x ∈ a, x ≤ m) : at0 a s ≤ m := by
  unfold at0
  rw [List.getD_eq_getElem?_getD]
  cases e : a[s]? with
  | none => exact Nat.zero_le _
  | some x => exact h x (List.mem_of_getElem? e)
theorem pow_le {n : Nat} (h : n ≤ 5) : 2 ^ n ≤ 32 := by
  have := Nat.pow_le_pow_right (n := 2) (by decide) h
  omega
end Fs
namespace Fs
open PySem PySem.Spec PyProof.Rows L2
open PySem.W (Codec)
open Kzx1 (sets okN)
open Kzx2 (at0 okW pairOk breaks)
def top (i : Nat) : Stmt := PySem.Challenge.pw_foursums_s01_holds.main.body.getD i (.Pass ⟨0, 0, 0, 0⟩)
/-! ### the text by places -/
abbrev sCount : Stmt := top 4
abbrev sRow : Stmt := top 5
abbrev sAll : Stmt := top 6
/-- a list of numbers as values -/
def wv (a : List Nat) : List V := (il a).map V.int
theorem wv_len (a : List Nat) : (wv a).length = a.length := by
  unfold wv il
  rw [List.length_map, List.length_map]
theorem wv_get (a : List Nat) (i : Nat) : (wv a)[i]? = (a[i]?).map fun (x : Nat) => V.int (x : Int) := by
  unfold wv il
  rw [List.getElem?_map, List.getElem?_map, Option.map_map]
  rfl
theorem wv_at {a : List Nat} {s : Nat} (h : s < a.length) : (wv a)[s]? = some (V.int (at0 a s : Int)) := by
  rw [wv_get, at_some h]
  rfl
theorem wv_some {a : List Nat} {i : Nat} {y : V} (h : (wv a)[i]? = some y) : ∃ z : Nat, a[i]? = some z ∧ y = V.int (z : Int) := by
  rw [wv_get] at h
  cases e : a[i]? with
  | none =>
    rw [e] at h
    cases h
  | some z =>
    rw [e] at h
    exact ⟨z, rfl, (Option.some.inj h).symm⟩
theorem ifb {b : Bool} {A B : Prop} (h1 : b = true → A) (h2 : b = false → B) : if b = true then A else B := by
  cases b with
  | true => exact iteT (h1 rfl)
  | false => exact iteF (h2 rfl)
/-! ### the promises -/
def spCount : Sp := fun vs H Q _ => ∃ k : Nat, vs = [.int (k : Int)] ∧ k ≤ 5 ∧ ∀ m : Nat, m = 2 ^ k → Q (.int (m : Int)) H
def spRow (K : PySem.W.Frag) : Sp := fun vs H Q _ => ∃ (k : Nat) (p : Addr) (a : List Nat), vs = [.int (k : Int), .ref p] ∧ k ≤ 5 ∧ SqL K H p (wv a) ∧ Q (.bl (okW k a)) H
def spAll (K : PySem.W.Frag) : Sp := fun vs H Q _ => ∃ (k : Nat) (t : Addr) (rows : List (Addr × List Nat)), vs = [.int (k : Int), .ref t] ∧ SqT K H t (rows.map fun r => V.ref r.1) ∧ (∀ r ∈ rows, SqL K H r.1 (wv r.2)) ∧
  Q (.bl (okAll k (rows.map (·.2)))) H
structure Txt (mg : Str → Option Value) (t1 t2 t3 : Tok) : Prop where
  mT : mg "NOT_AS_TOLD" = some (.int (-22) t1)
  mN : mg "MOST_THINGS" = some (.int 5 t2)
  mW : mg "MOST_WEIGHT" = some (.int 1000 t3)
  len : mg "len" = none
  range : mg "range" = none
section
variable {P : Program} {w : World} {K : PySem.W.Frag} {mg : Str → Option Value} {base : Heap} {t1 t2 t3 : Tok}
/-- within a comprehension's block -/
theorem ix_listK {X : Cx} (e : X.K = K) : IxR X (rIxL K) := e ▸ ix_list
/-! ### one theorem a def -/
theorem scC : FnScope ["n"] ["n"] (defScope sCount) := ⟨rfl, rfl, rfl, by decide +kernel, rfl, by decide +kernel, by decide +kernel⟩
theorem ok_count {f : Addr} {fd : FuncData} (F : Fun K "count_of_sets" "count_of_sets" sCount f fd) : FnOk P w K mg base CX0 1 f fd ["n"] spCount := by
  refine F.ok scC (fun vs H Q E h => ?_) (fun cdv A outer s H vs Q E hr h => ?_)
  · obtain ⟨k, rfl, _⟩ := h
    rfl
  · obtain ⟨k, rfl, hk, q⟩ := h
    refine ⟨_, pss_one (ps_ret (pe_op op_shl pe_int (pv 0))), ?_⟩
    refine ⟨_, rfl, _, _, rfl, rfl, ⟨by omega, by omega, by decide⟩, ?_⟩
    have e : (1 : Int) * 2 ^ ((k : Int).toNat) = ((2 ^ k : Nat) : Int) := by
      rw [Int.one_mul, Int.toNat_natCast, Int.natCast_pow]
      rfl
    show Q (.int ((1 : Int) * 2 ^ ((k : Int).toNat))) H
    rw [e]
    exact q _ rfl
theorem scR : FnScope ["n", "row", "weight"] ["n", "row"] (defScope sRow) := ⟨rfl, rfl, rfl, by decide +kernel, rfl, by decide +kernel, by decide +kernel⟩
theorem okW_false_len {k : Nat} {a : List Nat} (h : ¬ a.length = 2 ^ k) : okW k a = false := by
  unfold okW
  rw [beq_false_of_ne h]
  rfl
theorem okW_false_at {k : Nat} {a : List Nat} {x : Nat} (hx : x ∈ a) (h : 1000 < x) : okW k a = false := by
  cases e : okW k a with
  | false => rfl
  | true =>
    unfold okW at e
    simp only [Bool.and_eq_true, List.all_eq_true, decide_eq_true_eq] at e
    have := e.2 x hx
    omega
theorem okW_true {k : Nat} {a : List Nat} (hl : a.length = 2 ^ k) (h : ∀ x ∈ a, x ≤ 1000) : okW k a = true := by
  unfold okW
  simp only [Bool.and_eq_true, List.all_eq_true, decide_eq_true_eq, beq_iff_eq]
  exact ⟨hl, h⟩
theorem ok_row {f fC : Addr} {fd fdC : FuncData} (F : Fun K "are_weights" "are_weights" sRow f fd) (T : Txt mg t1 t2 t3) (FC : Fun K "count_of_sets" "count_of_sets" sCount fC fdC) (bC : Binds K fdC ["n"] []) (gC : mg "count_of_sets" = some (.ref fC)) :
    FnOk P w K mg base CX0 2 f fd ["n", "row"] (spRow K) := by
  have GC : FnOk P w K mg base CX0 1 fC fdC ["n"] spCount := ok_count FC
  refine F.ok scR (fun vs H Q E h => ?_) (fun cdv A outer s H vs Q E hr h => ?_)
  · obtain ⟨k, p, a, rfl, _⟩ := h
    rfl
  · obtain ⟨k, p, a, rfl, hk, hS, q⟩ := h
    refine ⟨_, pss_cons (ps_if (pt_cmpR op_ne (pe_callB call_len_seq (by rfl) T.len PySem.boot_len (pa_cons (pv 1) pa_nil)) (pe_call GC hr rfl gC FC.kp bC .nil pass0 (pa_cons (pv 0) pa_nil)) (nomark _)) (pss_one (ps_ret pe_bl)) pss_nil)
      (pss_cons (ps_for PassesOwn.never rfl (pi_list (pv 1)) (pg_name (i := 2) scR.nd rfl (Or.inl rfl))
        (pss_one (ps_if (pt_cmpR op_gt (pv 2) (pe_glob (v := .int 1000) rfl T.mW ⟨_, rfl⟩) (nomark _)) (pss_one (ps_ret pe_bl)) pss_nil)))
      (pss_one (ps_ret pe_bl))), ?_⟩
    refine ⟨_, rfl, p, _, rfl, .inl hS, _, rfl, k, rfl, hk, fun m hm => ?_⟩
    refine ⟨rfl, _, rfl, ifb (fun e => ?_) (fun e => ?_)⟩
    · have hl : ¬ a.length = 2 ^ k := by
        intro z
        rw [wv_len, z, hm, decide_eq_true rfl] at e
        exact Bool.false_ne_true e
      rw [okW_false_len hl] at q
      exact q
    · have hl : a.length = 2 ^ k := by
        rw [wv_len, Bool.not_eq_false', decide_eq_true_eq] at e
        injection e with e
        omega
      refine ⟨_, rfl, p, rfl, ⟨_, hS⟩, for_list (K := K) (a := p) (xs := wv a) (fun i σ H' => ∃ v : Option V, σ = [some (.int (k : Int)), some (.ref p), v] ∧ H' = H ∧ ∀ x ∈ a.take i, x ≤ 1000)
        ⟨none, rfl, rfl, fun x hx => absurd hx (by simp)⟩ (fun i σ H' _ ⟨_, _, e1, _⟩ => e1 ▸ hS) ?_ ?_⟩
      · rintro i y σ H' hi ⟨v, rfl, rfl, hx⟩
        obtain ⟨z, hz, rfl⟩ := wv_some hi
        refine ⟨_, rfl, _, _, rfl, rfl, _, rfl, ifb (fun e => ?_) (fun e => ?_)⟩
        · have e1 : (1000 : Int) < (z : Int) := of_decide_eq_true e
          rw [okW_false_at (List.mem_of_getElem? hz) (by omega)] at q
          exact q
        · have e1 : ¬ (1000 : Int) < (z : Int) := of_decide_eq_false e
          refine ⟨_, rfl, rfl, fun x h => ?_⟩
          rw [List.take_add_one, hz] at h
          rcases List.mem_append.mp h with h | h
          · exact hx x h
          · have : x = z := by simpa using h
            omega
      · rintro σ H' ⟨v, rfl, rfl, hx⟩
        rw [wv_len, List.take_length] at hx
        rw [okW_true hl hx] at q
        exact q
theorem scA : FnScope ["n", "rows", "row"] ["n", "rows"] (defScope sAll) := ⟨rfl, rfl, rfl, by decide +kernel, rfl, by decide +kernel, by decide +kernel⟩
theorem okN_lo {k : Nat} {r : List (List Nat)} (h : k < 1 ∨ 5 < k) : okAll k r = false := by
  unfold okAll okN
  have : (decide (1 ≤ k) && decide (k ≤ 5)) = false := by
    rcases h with h | h
    · rw [decide_eq_false (by omega)]; rfl
    · rw [decide_eq_false (p := k ≤ 5) (by omega), Bool.and_false]
  rw [this]; rfl
theorem ok_all {f fC fR : Addr} {fd fdC fdR : FuncData} (F : Fun K "are_all_weights" "are_all_weights" sAll f fd) (T : Txt mg t1 t2 t3) (FC : Fun K "count_of_sets" "count_of_sets" sCount fC fdC) (bC : Binds K fdC ["n"] []) (gC : mg "count_of_sets" = some (.ref fC))
    (FR : Fun K "are_weights" "are_weights" sRow fR fdR) (bR : Binds K fdR ["n", "row"] []) (gR : mg "are_weights" = some (.ref fR)) :
    FnOk P w K mg base CX0 3 f fd ["n", "rows"] (spAll K) := by
  have GR : FnOk P w K mg base CX0 2 fR fdR ["n", "row"] (spRow K) := ok_row FR T FC bC gC
  refine F.ok scA (fun vs H Q E h => ?_) (fun cdv A outer s H vs Q E hr h => ?_)
  · obtain ⟨k, t, rows, rfl, _⟩ := h
    rfl
  · obtain ⟨k, t, rows, rfl, hT, hS, q⟩ := h
    refine ⟨_, pss_cons (ps_if (PW.pt (pw_or (pt_cmpR op_lt (pv 0) pe_int (nomark _)) (pw_or1 (pt_cmpR op_gt (pv 0) (pe_glob (v := .int 5) rfl T.mN ⟨_, rfl⟩) (nomark _))))) (pss_one (ps_ret pe_bl)) pss_nil)
      (pss_cons (ps_for PassesOwn.never rfl (pi_tup (pv 1)) (pg_name (i := 2) scA.nd rfl (Or.inl rfl))
        (pss_one (ps_if (pt_not (pt_val (pe_call GR hr rfl gR FR.kp bR .nil pass0 (pa_cons (pv 0) (pa_cons (pv 2) pa_nil))))) (pss_one (ps_ret pe_bl)) pss_nil)))
      (pss_one (ps_ret pe_bl))), ?_⟩
    refine ⟨_, rfl, _, _, rfl, rfl, _, rfl, ifb (fun e => ?_) (fun e => ?_)⟩
    · have e1 : (k : Int) < 1 := of_decide_eq_true e
      rw [okN_lo (.inl (by omega))] at q
      exact iteT q
    · have e1 : ¬ (k : Int) < 1 := of_decide_eq_false e
      refine ⟨_, rfl, _, _, rfl, rfl, _, rfl, ifb (fun e => ?_) (fun e => ?_)⟩
      · have e2 : (5 : Int) < (k : Int) := of_decide_eq_true e
        rw [okN_lo (.inr (by omega))] at q
        exact q
      · have e2 : ¬ (5 : Int) < (k : Int) := of_decide_eq_false e
        have hN : okN k = true := by
          unfold okN
          rw [decide_eq_true (show 1 ≤ k by omega), decide_eq_true (show k ≤ 5 by omega)]; rfl
        refine ⟨_, rfl, t, rfl, ⟨_, hT⟩, for_tup (K := K) (a := t) (xs := rows.map fun r => V.ref r.1) (fun i σ H' => ∃ v : Option V, σ = [some (.int (k : Int)), some (.ref t), v] ∧ H' = H ∧ ∀ r ∈ rows.take i, okW k r.2 = true)
          ⟨none, rfl, rfl, fun x hx => absurd hx (by simp)⟩ (fun i σ H' _ ⟨_, _, e1, _⟩ => e1 ▸ hT) ?_ ?_⟩
        · rintro i y σ H' hi ⟨v, rfl, rfl, hx⟩
          obtain ⟨r, hr1, rfl⟩ : ∃ r, rows[i]? = some r ∧ y = V.ref r.1 := by
            rw [List.getElem?_map] at hi
            cases e : rows[i]? with
            | none =>
              rw [e] at hi
              cases hi
            | some z =>
              rw [e] at hi
              exact ⟨z, rfl, (Option.some.inj hi).symm⟩
          have hm := List.mem_of_getElem? hr1
          refine ⟨_, rfl, _, rfl, k, r.1, r.2, rfl, by omega, hS r hm, _, rfl, ifb (fun e => ?_) (fun e => ?_)⟩
          · have e3 : okW k r.2 = false := by simpa using e
            have : okAll k (rows.map (·.2)) = false := by
              unfold okAll
              have : (rows.map (·.2)).all (okW k) = false := by
                rw [List.all_eq_false]
                exact ⟨r.2, List.mem_map.mpr ⟨r, hm, rfl⟩, by rw [e3]; decide⟩
              rw [this, Bool.and_false]
            rw [this] at q
            exact q
          · have e3 : okW k r.2 = true := by simpa using e
            refine ⟨_, rfl, rfl, fun x h => ?_⟩
            rw [List.take_add_one, hr1] at h
            rcases List.mem_append.mp h with h | h
            · exact hx x h
            · have : x = r := by simpa using h
              rw [this]; exact e3
        · rintro σ H' ⟨v, rfl, rfl, hx⟩
          rw [List.length_map, List.take_length] at hx
          have : okAll k (rows.map (·.2)) = true := by
            unfold okAll
            rw [hN, Bool.true_and, List.all_eq_true]
            intro x hx'
            obtain ⟨r, hr1, rfl⟩ := List.mem_map.mp hx'
            exact hx r hr1
          rw [this] at q
          exact q
theorem seq_upd {H : Hp} {p q : Addr} {o : HO} {xs : List V} (hq : H q = Option.none) (h : SqL K H p xs) : SqL K (upd H q o) p xs :=
  Same.seq (fun b o' e => by rw [upd_ne (ne_of_none e hq)]; exact e) h
end
/-! ### the request -/
theorem il_nats {l : List Int} (h : l.all (Codec.inInt 0 4294967295) = true) : l = il (Kzx3Neutral.natsOf l) := by
  unfold il Kzx3Neutral.natsOf
  rw [List.map_map]
  conv => lhs; rw [← List.map_id l]
  refine List.map_congr_left fun x hx => ?_
  have e := List.all_eq_true.mp h x hx
  have e2 := (Codec.inInt_iff.mp e).1
  show x = ((x.toNat : Nat) : Int)
  omega
theorem wv_nats {l : List Int} (h : l.all (Codec.inInt 0 4294967295) = true) : l.map V.int = wv (Kzx3Neutral.natsOf l) := by
  unfold wv
  rw [← il_nats h]
/-! ### holds -/
abbrev sMain : Stmt := top 7
def spMain (K : PySem.W.Frag) : Sp := fun vs H Q _ => ∃ (n : Nat) (pa pb pc pd : Addr) (a b c d : List Nat), vs = [.int (n : Int), .ref pa, .ref pb, .ref pc, .ref pd] ∧ SqL K H pa (wv a) ∧ SqL K H pb (wv b) ∧ SqL K H pc (wv c) ∧ SqL K H pd (wv d) ∧
  ∀ (H' : Hp) (p : Addr), H' p = some (.lst ((PyKzx3.holds (n : Int) (il a) (il b) (il c) (il d)).map V.int)) → Q (.ref p) H'
section
variable {P : Program} {w : World} {K : PySem.W.Frag} {mg : Str → Option Value} {base : Heap} {t1 t2 t3 : Tok}
theorem scM : FnScope ["n", "a", "b", "c", "d", "s", "t"] ["n", "a", "b", "c", "d"] (defScope sMain) := ⟨rfl, rfl, rfl, by decide +kernel, rfl, by decide +kernel, by decide +kernel⟩
theorem pair_dec (a b c d : List Nat) (s t : Nat) : pairOk a b c d s t = !decide (((at0 c (s ||| t) : Nat) : Int) * ((at0 d (s &&& t) : Nat) : Int) < ((at0 a s : Nat) : Int) * ((at0 b t : Nat) : Int)) := by
  unfold pairOk
  rw [← Int.natCast_mul, ← Int.natCast_mul]
  rw [Bool.eq_iff_iff]
  simp only [decide_eq_true_eq, Bool.not_eq_true', decide_eq_false_iff_not, Int.ofNat_lt, Nat.not_lt]
  rfl
theorem ok_main {f fC fR fA : Addr} {fd fdC fdR fdA : FuncData} (F : Fun K "holds" "holds" sMain f fd) (T : Txt mg t1 t2 t3) (FC : Fun K "count_of_sets" "count_of_sets" sCount fC fdC) (bC : Binds K fdC ["n"] []) (gC : mg "count_of_sets" = some (.ref fC))
    (FR : Fun K "are_weights" "are_weights" sRow fR fdR) (bR : Binds K fdR ["n", "row"] []) (gR : mg "are_weights" = some (.ref fR))
    (FA : Fun K "are_all_weights" "are_all_weights" sAll fA fdA) (bA : Binds K fdA ["n", "rows"] []) (gA : mg "are_all_weights" = some (.ref fA)) :
    FnOk P w K mg base CX0 4 f fd ["n", "a", "b", "c", "d"] (spMain K) := by
  have GC : FnOk P w K mg base CX0 1 fC fdC ["n"] spCount := ok_count FC
  have GA : FnOk P w K mg base CX0 3 fA fdA ["n", "rows"] (spAll K) := ok_all FA T FC bC gC FR bR gR
  refine F.ok scM (fun vs H Q E h => ?_) (fun cdv A outer s H vs Q E hr h => ?_)
  · obtain ⟨n, pa, pb, pc, pd, a, b, c, d, rfl, _⟩ := h
    rfl
  · obtain ⟨n, pa, pb, pc, pd, a, b, c, d, rfl, ha, hb, hc, hd, q⟩ := h
    have hr1 : Room 1 _ := hr.mono (by decide)
    refine ⟨_, pss_cons (ps_if (pt_not (pt_val (pe_call GA hr rfl gA FA.kp bA .nil pass0 (pa_cons (pv 0) (pa_cons (pe_tup (pa_cons (pv 1) (pa_cons (pv 2) (pa_cons (pv 3) (pa_cons (pv 4) pa_nil))))) pa_nil))))) (pss_one (ps_ret (pe_lst (pa_cons (pe_glob (v := .int (-22)) rfl T.mT ⟨_, rfl⟩) pa_nil)))) pss_nil)
      (pss_cons (ps_for PassesOwn.never rfl (pi_range1 rfl T.range (pa_cons (pe_call GC hr1 rfl gC FC.kp bC .nil pass0 (pa_cons (pv 0) pa_nil)) pa_nil)) (pg_name (i := 5) scM.nd rfl (Or.inl rfl))
        (pss_one (ps_for PassesOwn.never rfl (pi_range1 rfl T.range (pa_cons (pe_call GC hr1 rfl gC FC.kp bC .nil pass0 (pa_cons (pv 0) pa_nil)) pa_nil)) (pg_name (i := 6) scM.nd rfl (Or.inl rfl))
          (pss_one (ps_if (pt_cmpR op_gt
              (pe_op op_mul (pe_ix ix_list (pv 1) (pv 5) (fun _ _ => rfl)) (pe_ix ix_list (pv 2) (pv 6) (fun _ _ => rfl)))
              (pe_op op_mul (pe_ix ix_list (pv 3) (pe_op op_or (pv 5) (pv 6)) (fun _ _ => rfl)) (pe_ix ix_list (pv 4) (pe_op op_and (pv 5) (pv 6)) (fun _ _ => rfl))) (nomark _))
            (pss_one (ps_ret (pe_lst (pa_cons pe_int (pa_cons (pv 5) (pa_cons (pv 6) pa_nil)))))) pss_nil)))))
      (pss_one (ps_ret (pe_lst (pa_cons pe_int pa_nil))))), ?_⟩
    refine ⟨_, rfl, _, rfl, _, rfl, _, rfl, _, rfl, (by show 4 ≤ sizeLine; decide), fun tp htp => ?_⟩
    have ha1 := seq_upd (o := .tup [.ref pa, .ref pb, .ref pc, .ref pd]) htp ha
    have hb1 := seq_upd (o := .tup [.ref pa, .ref pb, .ref pc, .ref pd]) htp hb
    have hc1 := seq_upd (o := .tup [.ref pa, .ref pb, .ref pc, .ref pd]) htp hc
    have hd1 := seq_upd (o := .tup [.ref pa, .ref pb, .ref pc, .ref pd]) htp hd
    generalize hH1 : upd H tp (.tup [.ref pa, .ref pb, .ref pc, .ref pd]) = H1 at ha1 hb1 hc1 hd1
    have hT1 : SqT K H1 tp [.ref pa, .ref pb, .ref pc, .ref pd] := SqT.of (by rw [← hH1]; exact upd_same)
    refine ⟨n, tp, [(pa, a), (pb, b), (pc, c), (pd, d)], rfl, hT1, ?_, _, rfl, ifb (fun e => ?_) (fun e => ?_)⟩
    · intro r hr2
      simp only [List.mem_cons, List.not_mem_nil, or_false] at hr2
      rcases hr2 with rfl | rfl | rfl | rfl
      · exact ha1
      · exact hb1
      · exact hc1
      · exact hd1
    · have e1 : okAll n [a, b, c, d] = false := by simpa using e
      refine ⟨(by show 1 ≤ sizeLine; decide), fun p hp => ?_⟩
      refine q _ p ?_
      rw [holds_bad e1]
      exact upd_same
    · have e1 : okAll n [a, b, c, d] = true := by simpa using e
      have hn := okAll_n e1
      have la := okAll_row e1 (a := a) (by simp)
      have lb := okAll_row e1 (a := b) (by simp)
      have lc := okAll_row e1 (a := c) (by simp)
      have ld := okAll_row e1 (a := d) (by simp)
      have h32 := pow_le hn.2
      refine ⟨_, rfl, n, rfl, hn.2, fun m hm => ?_⟩
      refine ⟨(m : Int), rfl, by omega, by omega, for_range (lo := 0) (n := m) (fun i σ H' => ∃ v5 v6 : Option V, σ = [some (.int (n : Int)), some (.ref pa), some (.ref pb), some (.ref pc), some (.ref pd), v5, v6] ∧ H' = H1 ∧
        ∀ s, s < i → ∀ t, t < 2 ^ n → pairOk a b c d s t = true) ⟨none, none, rfl, rfl, fun s hs => absurd hs (Nat.not_lt_zero _)⟩ ?_ ?_⟩
      · rintro i σ H' hi ⟨v5, v6, rfl, rfl, hx⟩
        rw [Int.zero_add]
        refine ⟨_, rfl, n, rfl, hn.2, fun m' hm' => ?_⟩
        refine ⟨(m' : Int), rfl, by omega, by omega, for_range (lo := 0) (n := m') (fun j σ H'' => ∃ v6 : Option V, σ = [some (.int (n : Int)), some (.ref pa), some (.ref pb), some (.ref pc), some (.ref pd), some (.int (i : Int)), v6] ∧ H'' = H' ∧
          ∀ t, t < j → pairOk a b c d i t = true) ⟨v6, rfl, rfl, fun s hs => absurd hs (Nat.not_lt_zero _)⟩ ?_ ?_⟩
        · rintro j σ H'' hj ⟨v6', rfl, rfl, hy⟩
          rw [Int.zero_add]
          have hi2 : i < 2 ^ n := by omega
          have hj2 : j < 2 ^ n := by omega
          have ho : i ||| j < 2 ^ n := Nat.or_lt_two_pow hi2 hj2
          have hand : i &&& j < 2 ^ n := Nat.and_lt_two_pow i hj2
          have b1 : at0 a i ≤ 1000 := at_le la.2
          have b3 : at0 c (i ||| j) ≤ 1000 := at_le lc.2
          refine ⟨_, rfl, _, rfl, pa, _, _, _, rfl, rfl, ha1, atI_nat (wv_at (by rw [la.1]; exact hi2)),
            _, rfl, _, rfl, pb, _, _, _, rfl, rfl, hb1, atI_nat (wv_at (by rw [lb.1]; exact hj2)), _, _, rfl, rfl, .inl ⟨by omega, by omega⟩,
            _, rfl, _, rfl, _, rfl, _, _, rfl, rfl, pc, _, _, _, rfl, rfl, hc1, at_of (j := i ||| j) (Bits.bitOr_pp (by omega) (by omega)) (wv_at (by rw [lc.1]; exact ho)),
            _, rfl, _, rfl, _, rfl, _, _, rfl, rfl, pd, _, _, _, rfl, rfl, hd1, at_of (j := i &&& j) (bitAnd_pp (by omega) (by omega)) (wv_at (by rw [ld.1]; exact hand)), _, _, rfl, rfl, .inl ⟨by omega, by omega⟩,
            _, _, rfl, rfl, _, rfl, ifb (fun e => ?_) (fun e => ?_)⟩
          · have e3 : pairOk a b c d i j = false := by rw [pair_dec, e]; rfl
            refine ⟨_, rfl, _, rfl, (by show 3 ≤ sizeLine; decide), fun p hp => ?_⟩
            refine q _ p ?_
            rw [holds_ok e1, breaks_some hi2 hj2 hx hy e3]
            exact upd_same
          · have e3 : pairOk a b c d i j = true := by rw [pair_dec, e]; rfl
            refine ⟨_, rfl, rfl, fun t ht => ?_⟩
            rcases Nat.lt_succ_iff_lt_or_eq.mp ht with h | h
            · exact hy t h
            · rw [h]; exact e3
        · rintro σ H'' ⟨v6', rfl, rfl, hy⟩
          refine ⟨_, _, rfl, rfl, fun s hs => ?_⟩
          rcases Nat.lt_succ_iff_lt_or_eq.mp hs with h | h
          · exact hx s h
          · rw [h, ← hm']; exact hy
      · rintro σ H' ⟨v5, v6, rfl, rfl, hx⟩
        refine ⟨(by show 1 ≤ sizeLine; decide), fun p hp => ?_⟩
        refine q _ p ?_
        rw [holds_ok e1, breaks_none (by rw [← hm]; exact hm ▸ hx)]
        exact upd_same
end
/-! ### what the top has written -/
theorem all_mk {P : Program} {w : World} {K : PySem.W.Frag} {h : Heap} {mg : Str → Option Value} {fa fC fR fA fM : Addr} (X : K.In h) (G : h.Ns mainGlobals mg) (hfa : mg "holds" = some (.ref fa))
    {odC anC odR anR odA anA odM anM : Option Addr} {slC slR slA slM : Array (Option Value)} {ocC kVC dcC pmC cdC ctC ocR kVR dcR pmR cdR ctR ocA kVA dcA pmA cdA ctA ocM kVM dcM pmM cdM ctM : Value} {t1 t2 t3 : Tok}
    (aC : PySem.W.nsIn K mainGlobals "count_of_sets" = some (some (.ref fC))) (lC : K.lookup fC = some ⟨ocC, odC, .func (PySem.W.fnOf "count_of_sets" "count_of_sets" (defArgs sCount) (defBody sCount) (defScope sCount) .none kVC dcC pmC anC cdC ctC), slC⟩) (cC : PySem.W.codeIn K cdC "count_of_sets" = true) (kC : PySem.W.keepIn K (.ref fC) = true)
    (aR : PySem.W.nsIn K mainGlobals "are_weights" = some (some (.ref fR))) (lR : K.lookup fR = some ⟨ocR, odR, .func (PySem.W.fnOf "are_weights" "are_weights" (defArgs sRow) (defBody sRow) (defScope sRow) .none kVR dcR pmR anR cdR ctR), slR⟩) (cR : PySem.W.codeIn K cdR "are_weights" = true) (kR : PySem.W.keepIn K (.ref fR) = true)
    (aA : PySem.W.nsIn K mainGlobals "are_all_weights" = some (some (.ref fA))) (lA : K.lookup fA = some ⟨ocA, odA, .func (PySem.W.fnOf "are_all_weights" "are_all_weights" (defArgs sAll) (defBody sAll) (defScope sAll) .none kVA dcA pmA anA cdA ctA), slA⟩) (cA : PySem.W.codeIn K cdA "are_all_weights" = true) (kA : PySem.W.keepIn K (.ref fA) = true)
    (aM : PySem.W.nsIn K mainGlobals "holds" = some (some (.ref fM))) (lM : K.lookup fM = some ⟨ocM, odM, .func (PySem.W.fnOf "holds" "holds" (defArgs sMain) (defBody sMain) (defScope sMain) .none kVM dcM pmM anM cdM ctM), slM⟩) (cM : PySem.W.codeIn K cdM "holds" = true) (kM : PySem.W.keepIn K (.ref fM) = true)
    (m1 : PySem.W.nsIn K mainGlobals "NOT_AS_TOLD" = some (some (.int (-22) t1)))
    (m2 : PySem.W.nsIn K mainGlobals "MOST_THINGS" = some (some (.int (5) t2)))
    (m3 : PySem.W.nsIn K mainGlobals "MOST_WEIGHT" = some (some (.int (1000) t3)))
    (z1 : PySem.W.nsIn K mainGlobals "len" = some none)
    (z2 : PySem.W.nsIn K mainGlobals "range" = some none)
    : ∃ fd : FuncData, (∀ (s : Shared) (us : List Value), us.length = (["n", "a", "b", "c", "d"] : List Str).length → BindsTo s fd ⟨us, []⟩ ((["n", "a", "b", "c", "d"] : List Str).zip us)) ∧ ∀ base : Heap, K.In base → base.Ns mainGlobals mg → FnOk P w K mg base CX0 4 fa fd ["n", "a", "b", "c", "d"] (spMain K) := by
  have e := hfa.symm.trans (PySem.W.mg_of X G aM)
  cases e
  have T : Txt mg t1 t2 t3 := ⟨PySem.W.mg_of X G m1, PySem.W.mg_of X G m2, PySem.W.mg_of X G m3, PySem.W.mg_none_of X G z1, PySem.W.mg_none_of X G z2⟩
  have FC := fun_mk (st := sCount) lC cC kC
  have bC := FC.binds (ps := ["n"]) fun _ _ _ _ _ _ us hl => match us, hl with | [_], _ => rfl
  have gC := PySem.W.mg_of X G aC
  have FR := fun_mk (st := sRow) lR cR kR
  have bR := FR.binds (ps := ["n", "row"]) fun _ _ _ _ _ _ us hl => match us, hl with | [_, _], _ => rfl
  have gR := PySem.W.mg_of X G aR
  have FA := fun_mk (st := sAll) lA cA kA
  have bA := FA.binds (ps := ["n", "rows"]) fun _ _ _ _ _ _ us hl => match us, hl with | [_, _], _ => rfl
  have gA := PySem.W.mg_of X G aA
  have FM := fun_mk (st := sMain) lM cM kM
  exact ⟨PySem.W.fnOf "holds" "holds" (defArgs sMain) (defBody sMain) (defScope sMain) .none kVM dcM pmM anM cdM ctM, fun s us hu => match us, hu with | [_, _, _, _, _], _ => .of_eq rfl, fun base _ _ => ok_main FM T FC bC gC FR bR gR FA bA gA⟩
end Fs
open PySem PySem.W PyProof.Rows
set_option maxRecDepth 100000 in
set_option maxHeartbeats 0 in
theorem PySem.Challenge.cw_foursums_s01_holds_holds : PySem.Challenge.rw_foursums_s01_holds.Holds := by
  w_on; k_headS; (case hw => exact ⟨[.int 0, .list [], .list [], .list [], .list []], by decide +kernel, by decide +kernel⟩)
  k_fillS
  refine L2.walk_specK (r := PySem.Challenge.rw_foursums_s01_holds) (k := 4) (CX := L2.CX0) (ps := ["n", "a", "b", "c", "d"]) (sp := Fs.spMain) (by decide +kernel) rfl rfl ⟨rfl, by decide, by decide⟩ (fun w h Y => PySem.W.kIn_of Y) ?F ?S (fun _ _ _ _ z => z)
  case F =>
    intro w mg fa h Y KX G hmg
    refine' Fs.all_mk KX G hmg ?aC ?lC ?cC ?kC ?aR ?lR ?cR ?kR ?aA ?lA ?cA ?kA ?aM ?lM ?cM ?kM ?m1 ?m2 ?m3 ?z1 ?z2
    (case aC => k_is)
    (case lC => k_is)
    (case cC => k_is)
    (case kC => k_is)
    (case aR => k_is)
    (case lR => k_is)
    (case cR => k_is)
    (case kR => k_is)
    (case aA => k_is)
    (case lA => k_is)
    (case cA => k_is)
    (case kA => k_is)
    (case aM => k_is)
    (case lM => k_is)
    (case cM => k_is)
    (case kM => k_is)
    (case m1 => k_is)
    (case m2 => k_is)
    (case m3 => k_is)
    (case z1 => k_is)
    (case z2 => k_is)
  case S =>
    intro K H xs a hO hwi hask hx
    have q : (Codec.inInt 0 4294967295 a.1 && ((Codec.inLen 0 40 a.2.1 && a.2.1.all (Codec.inInt 0 4294967295)) && ((Codec.inLen 0 40 a.2.2.1 && a.2.2.1.all (Codec.inInt 0 4294967295)) && ((Codec.inLen 0 40 a.2.2.2.1 && a.2.2.2.1.all (Codec.inInt 0 4294967295)) && ((Codec.inLen 0 40 a.2.2.2.2.1 && a.2.2.2.2.1.all (Codec.inInt 0 4294967295)) && true))))) = true := hwi
    simp only [Bool.and_eq_true] at q
    cases hx with
    | cons u0 r0 =>
    cases r0 with
    | cons u1 r1 =>
    cases r1 with
    | cons u2 r2 =>
    cases r2 with
    | cons u3 r3 =>
    cases r3 with
    | cons u4 r4 =>
    cases r4
    cases u0
    cases u1 with
    | lst hs1 ha1 =>
    have e1 := L2.ints_dw a.2.1 _ ha1
    subst e1
    cases u2 with
    | lst hs2 ha2 =>
    have e2 := L2.ints_dw a.2.2.1 _ ha2
    subst e2
    cases u3 with
    | lst hs3 ha3 =>
    have e3 := L2.ints_dw a.2.2.2.1 _ ha3
    subst e3
    cases u4 with
    | lst hs4 ha4 =>
    have e4 := L2.ints_dw a.2.2.2.2.1 _ ha4
    subst e4
    have n0 : ((a.1.toNat : Nat) : Int) = a.1 := Int.toNat_of_nonneg (Codec.inInt_iff.mp q.1).1
    have n1 := Fs.il_nats q.2.1.2
    have w1 := Fs.wv_nats q.2.1.2
    rw [w1] at hs1
    have n2 := Fs.il_nats q.2.2.1.2
    have w2 := Fs.wv_nats q.2.2.1.2
    rw [w2] at hs2
    have n3 := Fs.il_nats q.2.2.2.1.2
    have w3 := Fs.wv_nats q.2.2.2.1.2
    rw [w3] at hs3
    have n4 := Fs.il_nats q.2.2.2.2.1.2
    have w4 := Fs.wv_nats q.2.2.2.2.1.2
    rw [w4] at hs4
    refine ⟨a.1.toNat, _, _, _, _, Kzx3Neutral.natsOf a.2.1, Kzx3Neutral.natsOf a.2.2.1, Kzx3Neutral.natsOf a.2.2.2.1, Kzx3Neutral.natsOf a.2.2.2.2.1, by rw [n0], hs1, hs2, hs3, hs4, fun H' p hp => ?_⟩
    rw [n0, ← n1, ← n2, ← n3, ← n4] at hp
    exact .lst (L2.SqL.of hp) (L2.dw_ints _)
#print axioms PySem.Challenge.cw_foursums_s01_holds_holds
