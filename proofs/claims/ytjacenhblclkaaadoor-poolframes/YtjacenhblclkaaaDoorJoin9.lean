/- Lemmas and contracts that the law stands on, joined: MakeSeq, PageMath, PgMath, DtMath. -/
import Derived.Test.YtjacenhblclkaaaDoorJoin7
import Derived.Test.YtjacenhblclkaaaDoorJoin8
import Derived.Test.YtjacenhblclkaaaDoorJoin4
/- How a list of numbers that came in is handed to phoenixmake.Rec, and small facts on a byte that is turned. -/
namespace Go.Proofs.YtjacenhblclkaaaDoor
open Go.RowKit
set_option linter.unusedVariables false

theorem noRec_val : noRec.val = .agg #[.int .i64 0, .int .i64 0, .int .i64 0, .int .i64 0, .int .i64 0, .int .i64 0, .bool false, .bool false, .int .i64 0, .int .i64 0] := rfl
theorem xor_zero (b : Int) (h0 : 0 ≤ b) (h1 : b ≤ 255) : bits .xor .u8 0 b = b := by
  have hk : ∀ n : Fin 256, bits .xor .u8 0 ((n : Nat) : Int) = ((n : Nat) : Int) := by decide +kernel
  have := hk ⟨b.toNat, by omega⟩
  rwa [show (((⟨b.toNat, by omega⟩ : Fin 256) : Nat) : Int) = b by simp; omega] at this
theorem or_four (b : Int) (h0 : 0 ≤ b) (h1 : b ≤ 3) : bits .or .u8 b 4 = b + 4 := by
  have hk : ∀ n : Fin 4, bits .or .u8 ((n : Nat) : Int) 4 = ((n : Nat) : Int) + 4 := by decide +kernel
  have := hk ⟨b.toNat, by omega⟩
  rwa [show (((⟨b.toNat, by omega⟩ : Fin 4) : Nat) : Int) = b by simp; omega] at this
theorem byteAt_set (xs : List Int) (p : Nat) (v : Int) (h : p < xs.length) : byteAt (xs.set p v) p = v := by
  rw [byteAt_nat, List.getD_eq_getElem?_getD, List.getElem?_set, if_pos rfl, if_pos h]
  rfl
theorem set_getD (xs : List Int) (p : Nat) (v u : Int) (h : p < xs.length) (hu : xs.getD p 0 = u) : (xs.set p v).set p u = xs := by
  rw [List.set_set]
  refine List.ext_getElem (by simp) fun i h1 h2 => ?_
  rw [List.getElem_set]
  split
  · rename_i e
    subst e
    rw [List.getD_eq_getElem?_getD, List.getElem?_eq_getElem h2] at hu
    exact hu.symm
  · rfl
theorem rec_getD (r : R) (p : Nat) (h : p = 6 ∨ p = 7 ∨ p = 20 ∨ p = 21 ∨ p = 22 ∨ p = 23) : (recB r).getD p 0 = 0 := by
  rw [← byteAt_nat]
  exact recB_zero r p (by omega)
theorem rec_mark (r : R) : (recB r).getD 1 0 = markB r := by
  rw [← byteAt_nat]
  exact recB_mark r
theorem errs_read {w : World} {ks : List Nat} {a : Nat → Addr} (h : ErrsOf w ks a) (h1 : 1 ∈ ks) (h2 : 2 ∈ ks) (h3 : 3 ∈ ks) : ReadErrs w (a 1) (a 2) (a 3) := ⟨h.cell 1 h1, h.cell 2 h2, h.cell 3 h3⟩
end Go.Proofs.YtjacenhblclkaaaDoor

/- Plain lemmas on pages: which may be, their bytes, what bytes say as one. No Go text here. -/
namespace Go.Proofs.YtjacenhblclkaaaDoor
open Go.RowKit
set_option linter.unusedVariables false

/-- Do keys rise, from 'least' on, and stay below the greatest? -/
def riseB : Int → List (Int × Int) → Bool
  | _, [] => true
  | least, e :: r => !(decide (e.1 < least) || decide (1048576 ≤ e.1)) && riseB (e.1 + 1) r
/-- May a page be? -/
def okP (lsn : Int) (es : List (Int × Int)) : Bool := decide (0 ≤ lsn) && (decide (lsn ≤ 1073741824) && (decide (es.length ≤ 20) && (riseB 0 es && (decide (es.length = 0) || decide (lsn ≠ 0)))))
theorem rise_cons {least : Int} {e : Int × Int} {r : List (Int × Int)} (h1 : ¬ e.1 < least) (h2 : ¬ 1048576 ≤ e.1) : riseB least (e :: r) = riseB (e.1 + 1) r := by
  rw [riseB]
  simp [h1, h2]
theorem rise_no {least : Int} {e : Int × Int} {r : List (Int × Int)} (h : e.1 < least ∨ 1048576 ≤ e.1) : riseB least (e :: r) = false := by
  rw [riseB]
  rcases h with h | h <;> simp [h]
/-- Keys that rise lie within their bounds. -/
theorem rise_bd : ∀ (es : List (Int × Int)) (least : Int), riseB least es = true → ∀ e ∈ es, least ≤ e.1 ∧ e.1 < 1048576 := by
  intro es
  induction es with
  | nil => intro least _ e he; simp at he
  | cons x r ih =>
    intro least h e he
    rw [riseB] at h
    simp only [Bool.and_eq_true, Bool.not_eq_true', Bool.or_eq_false_iff, decide_eq_false_iff_not] at h
    rcases List.mem_cons.1 he with h1 | h1
    · rw [h1]; omega
    · have := ih _ h.2 e h1; omega
structure OkP (lsn : Int) (es : List (Int × Int)) : Prop where
  l0 : 0 ≤ lsn
  l1 : lsn ≤ 1073741824
  many : es.length ≤ 20
  rise : riseB 0 es = true
  lsn0 : es.length = 0 ∨ lsn ≠ 0
theorem okP_iff (lsn : Int) (es : List (Int × Int)) : okP lsn es = true ↔ OkP lsn es := by
  unfold okP
  simp only [Bool.and_eq_true, Bool.or_eq_true, decide_eq_true_eq]
  exact ⟨fun ⟨a, b, c, d, e⟩ => ⟨a, b, c, d, e⟩, fun h => ⟨h.l0, h.l1, h.many, h.rise, h.lsn0⟩⟩
/-- Values within eight bytes. -/
def fitsE (es : List (Int × Int)) : Prop := ∀ e ∈ es, -9223372036854775808 ≤ e.2 ∧ e.2 ≤ 9223372036854775807
/-- The first entries put behind the head. -/
def entUp (xs : List Int) (es : List (Int × Int)) : Nat → List Int
  | 0 => xs
  | k + 1 => putB (putB (entUp xs es k) (16 + (k : Int) * 12) (es.getD k (0, 0)).1 4) (16 + (k : Int) * 12 + 4) (u64 (es.getD k (0, 0)).2) 8
def page0 : List Int := List.replicate 256 0
def page1 (lsn : Int) : List Int := putB page0 0 lsn 4
def page2 (lsn : Int) (n : Int) : List Int := putB (page1 lsn) 4 n 2
/-- A page's bytes. -/
def pageB (lsn : Int) (es : List (Int × Int)) : List Int := entUp (page2 lsn es.length) es es.length
theorem length_page0 : page0.length = 256 := List.length_replicate ..
theorem length_page1 (lsn : Int) : (page1 lsn).length = 256 := by rw [page1, length_putB, length_page0]
theorem length_page2 (lsn n : Int) : (page2 lsn n).length = 256 := by rw [page2, length_putB, length_page1]
theorem length_entUp (xs : List Int) (es : List (Int × Int)) (k : Nat) : (entUp xs es k).length = xs.length := by
  induction k with
  | zero => rfl
  | succ k ih => rw [entUp, length_putB, length_putB, ih]
theorem length_pageB (lsn : Int) (es : List (Int × Int)) : (pageB lsn es).length = 256 := by rw [pageB, length_entUp, length_page2]
theorem bytes_entUp {xs : List Int} (h : Bytes xs) (es : List (Int × Int)) (k : Nat) : Bytes (entUp xs es k) := by
  induction k with
  | zero => exact h
  | succ k ih => rw [entUp]; exact (ih.putB _ _ _).putB _ _ _
theorem bytes_page0 : Bytes page0 := fun x hx => by rw [(List.mem_replicate.1 hx).2]; omega
theorem bytes_pageB (lsn : Int) (es : List (Int × Int)) : Bytes (pageB lsn es) := bytes_entUp ((bytes_page0.putB _ _ _).putB _ _ _) es _
theorem entUp_head (xs : List Int) (es : List (Int × Int)) (b : Int) (l k : Nat) (h : b + l ≤ 16) : getB (entUp xs es k) b l = getB xs b l := by
  induction k with
  | zero => rfl
  | succ k ih => rw [entUp, get_put_other _ _ _ _ _ _ (by omega), get_put_other _ _ _ _ _ _ (by omega), ih]
theorem entUp_key (xs : List Int) (es : List (Int × Int)) (hx : xs.length = 256) (j k : Nat) (hj : j < k) (hk : k ≤ 20) : getB (entUp xs es k) (16 + (j : Int) * 12) 4 = (es.getD j (0, 0)).1 % 256 ^ 4 ∧ getB (entUp xs es k) (16 + (j : Int) * 12 + 4) 8 = u64 (es.getD j (0, 0)).2 % 256 ^ 8 := by
  induction k with
  | zero => omega
  | succ k ih =>
    have hl := length_entUp xs es k
    rw [entUp]
    by_cases e : j = k
    · subst e
      exact ⟨by rw [get_put_other _ _ _ _ _ _ (by omega), get_put_same _ _ _ _ (by omega) (by rw [hl, hx]; omega)], by rw [get_put_same _ _ _ _ (by omega) (by rw [length_putB, hl, hx]; omega)]⟩
    · have := ih (by omega) (by omega)
      exact ⟨by rw [get_put_other _ _ _ _ _ _ (by omega), get_put_other _ _ _ _ _ _ (by omega)]; exact this.1, by rw [get_put_other _ _ _ _ _ _ (by omega), get_put_other _ _ _ _ _ _ (by omega)]; exact this.2⟩
/-- What bytes say as a page. -/
def lsnOf (xs : List Int) : Int := getB xs 0 4
def keysOf (xs : List Int) : Nat := min (getB xs 4 2).toNat 20
def entAt (xs : List Int) (i : Nat) : Int × Int := (getB xs (16 + (i : Int) * 12) 4, i64 (getB xs (16 + (i : Int) * 12 + 4) 8))
def entsUp (xs : List Int) (k : Nat) : List (Int × Int) := (List.range k).map (entAt xs)
def entsOf (xs : List Int) : List (Int × Int) := entsUp xs (keysOf xs)
theorem length_entsUp (xs : List Int) (k : Nat) : (entsUp xs k).length = k := by simp [entsUp]
theorem entsUp_succ (xs : List Int) (k : Nat) : entsUp xs (k + 1) = entsUp xs k ++ [entAt xs k] := by unfold entsUp; rw [List.range_succ, List.map_append]; rfl
/-- Bytes of a page. -/
def isPage (xs : List Int) : Bool := okP (lsnOf xs) (entsOf xs) && decide (pageB (lsnOf xs) (entsOf xs) = xs)
theorem keysOf_le (xs : List Int) : keysOf xs ≤ 20 := by unfold keysOf; omega
theorem pow4 : (256 : Int) ^ 4 = 4294967296 := by decide
theorem pow8 : (256 : Int) ^ 8 = 18446744073709551616 := by decide
/-- A page that may be is read as it was. -/
theorem page_back {lsn : Int} {es : List (Int × Int)} (h : okP lsn es = true) (hf : fitsE es) : lsnOf (pageB lsn es) = lsn ∧ entsOf (pageB lsn es) = es ∧ isPage (pageB lsn es) = true := by
  have ho := (okP_iff lsn es).1 h
  have h1 : lsnOf (pageB lsn es) = lsn := by
    unfold lsnOf pageB
    rw [entUp_head _ _ _ _ _ (by omega), page2, get_put_other _ _ _ _ _ _ (by omega), page1, get_put_same _ _ _ _ (by omega) (by rw [length_page0]; omega), pow4]
    have := ho.l0; have := ho.l1
    omega
  have h2 : keysOf (pageB lsn es) = es.length := by
    unfold keysOf pageB
    rw [entUp_head _ _ _ _ _ (by omega), page2, get_put_same _ _ _ _ (by omega) (by rw [length_page1]; omega), show (256 : Int) ^ 2 = 65536 by decide]
    have := ho.many
    omega
  have h3 : entsOf (pageB lsn es) = es := by
    unfold entsOf
    rw [h2]
    apply List.ext_getElem?
    intro i
    by_cases hi : i < es.length
    · have hg : es.getD i (0, 0) = es[i] := by rw [List.getD_eq_getElem?_getD, List.getElem?_eq_getElem hi]; rfl
      have hm : es[i] ∈ es := List.getElem_mem _
      have hb := rise_bd es 0 ho.rise _ hm
      have hv := hf _ hm
      obtain ⟨g1, g2⟩ := entUp_key (page2 lsn es.length) es (length_page2 _ _) i es.length hi ho.many
      rw [hg, pow4] at g1
      rw [hg, pow8] at g2
      have hu := u64_bd es[i].2
      rw [List.getElem?_eq_getElem (by rw [length_entsUp]; exact hi), List.getElem?_eq_getElem hi]
      congr 1
      unfold entsUp
      rw [List.getElem_map, List.getElem_range]
      unfold entAt pageB
      rw [g1, g2]
      refine Prod.ext ?_ ?_
      · show es[i].1 % 4294967296 = es[i].1
        omega
      · show i64 (u64 es[i].2 % 18446744073709551616) = es[i].2
        rw [Int.emod_eq_of_lt hu.1 (by omega), i64_u64 _ hv]
    · rw [List.getElem?_eq_none (by rw [length_entsUp]; omega), List.getElem?_eq_none (by omega)]
  refine ⟨h1, h3, ?_⟩
  unfold isPage
  rw [h1, h3, h]
  simp
theorem entsOf_fits {xs : List Int} (h : Bytes xs) : fitsE (entsOf xs) := by
  intro e he
  obtain ⟨i, _, rfl⟩ := List.mem_map.1 he
  exact i64_bd _ (getB_bd xs h _ _ (by omega))
theorem pageB_inj {a b : Int} {es fs : List (Int × Int)} (ha : okP a es = true) (hfa : fitsE es) (hb : okP b fs = true) (hfb : fitsE fs) (h : pageB a es = pageB b fs) : a = b ∧ es = fs := by
  have h1 := page_back ha hfa
  have h2 := page_back hb hfb
  rw [h] at h1
  exact ⟨h1.1.symm.trans h2.1, h1.2.1.symm.trans h2.2.1⟩
end Go.Proofs.YtjacenhblclkaaaDoor

/- Plain lemmas on keys that rise: put, removed, told by their values; the steps of a loop that builds such a list. No Go text here. -/
namespace Go.Proofs.YtjacenhblclkaaaDoor
open Go.RowKit
set_option linter.unusedVariables false

/-- Keys rise. -/
def Up (es : List (Int × Int)) : Prop := es.Pairwise fun a b => a.1 < b.1
/-- The value of a key, if it is there. -/
def valE : List (Int × Int) → Int → Option Int
  | [], _ => none
  | e :: r, key => if e.1 = key then some e.2 else valE r key
def hasE (es : List (Int × Int)) (key : Int) : Bool := (valE es key).isSome
/-- A key put among keys that rise. -/
def insE (key v : Int) : List (Int × Int) → List (Int × Int)
  | [] => [(key, v)]
  | e :: r => if e.1 < key then e :: insE key v r else if e.1 = key then (key, v) :: r else (key, v) :: e :: r
def remE (key : Int) (es : List (Int × Int)) : List (Int × Int) := es.filter fun e => decide (e.1 ≠ key)
theorem valE_of_mem {es : List (Int × Int)} {key v : Int} (h : valE es key = some v) : (key, v) ∈ es := by
  induction es with
  | nil => simp [valE] at h
  | cons e r ih =>
    rw [valE] at h
    split at h
    · rename_i he
      simp only [Option.some.injEq] at h
      rw [List.mem_cons]; left
      exact Prod.ext he.symm h.symm
    · exact List.mem_cons_of_mem _ (ih h)
theorem valE_none {es : List (Int × Int)} {key : Int} : valE es key = none ↔ ∀ e ∈ es, e.1 ≠ key := by
  induction es with
  | nil => simp [valE]
  | cons e r ih =>
    rw [valE]
    split
    · rename_i he
      simp [he]
    · rename_i he
      rw [ih]; simp [he]
theorem hasE_false {es : List (Int × Int)} {key : Int} : hasE es key = false ↔ ∀ e ∈ es, e.1 ≠ key := by rw [← valE_none]; unfold hasE; simp
theorem hasE_true {es : List (Int × Int)} {key : Int} {e : Int × Int} (he : e ∈ es) (hk : e.1 = key) : hasE es key = true := by
  cases h : hasE es key with
  | true => rfl
  | false => exact absurd hk (hasE_false.1 h e he)
theorem valE_at {es : List (Int × Int)} (hu : Up es) {k : Nat} {e : Int × Int} (he : es[k]? = some e) : valE es e.1 = some e.2 := by
  induction es generalizing k with
  | nil => simp at he
  | cons x r ih =>
    have hu' := List.pairwise_cons.1 hu
    rw [valE]
    cases k with
    | zero => simp at he; subst he; simp
    | succ k =>
      have he' : r[k]? = some e := by simpa using he
      have := hu'.1 e (List.mem_of_getElem? he')
      rw [if_neg (by omega)]
      exact ih hu'.2 he'
theorem val_ins (es : List (Int × Int)) (key v k : Int) : valE (insE key v es) k = if key = k then some v else valE es k := by
  induction es with
  | nil => simp [insE, valE]
  | cons e r ih =>
    rw [insE]
    split
    · rename_i h1
      rw [valE, ih]
      by_cases hk : e.1 = k
      · rw [if_pos hk, if_neg (by omega), valE, if_pos hk]
      · rw [if_neg hk, valE, if_neg hk]
    · split
      · rename_i h1 h2
        rw [valE]
        by_cases hk : key = k
        · rw [if_pos hk, if_pos hk]
        · rw [if_neg hk, if_neg hk, valE, if_neg (by omega)]
      · rename_i h1 h2
        rw [valE]
theorem val_rem (es : List (Int × Int)) (key k : Int) : valE (remE key es) k = if key = k then none else valE es k := by
  induction es with
  | nil => simp [remE, valE]
  | cons e r ih =>
    unfold remE at ih ⊢
    rw [List.filter_cons]
    split
    · rename_i h1
      simp only [decide_eq_true_eq] at h1
      rw [valE, ih]
      by_cases hk : e.1 = k
      · rw [if_pos hk, if_neg (by omega), valE, if_pos hk]
      · rw [if_neg hk, valE, if_neg hk]
    · rename_i h1
      simp only [decide_eq_true_eq, Decidable.not_not] at h1
      rw [ih]
      by_cases hk : key = k
      · rw [if_pos hk, if_pos hk]
      · rw [if_neg hk, if_neg hk, valE, if_neg (by omega)]
theorem mem_ins {es : List (Int × Int)} {key v : Int} {x : Int × Int} (h : x ∈ insE key v es) : x = (key, v) ∨ x ∈ es := by
  induction es with
  | nil => simp [insE] at h; exact .inl h
  | cons e r ih =>
    rw [insE] at h
    split at h
    · rcases List.mem_cons.1 h with h1 | h1
      · exact .inr (List.mem_cons.2 (.inl h1))
      · rcases ih h1 with h2 | h2
        · exact .inl h2
        · exact .inr (List.mem_cons_of_mem _ h2)
    · split at h
      · rcases List.mem_cons.1 h with h1 | h1
        · exact .inl h1
        · exact .inr (List.mem_cons_of_mem _ h1)
      · rcases List.mem_cons.1 h with h1 | h1
        · exact .inl h1
        · exact .inr h1
theorem Up.ins {es : List (Int × Int)} (hu : Up es) (key v : Int) : Up (insE key v es) := by
  induction es with
  | nil => simp [insE, Up]
  | cons e r ih =>
    have hu' := List.pairwise_cons.1 hu
    rw [insE]
    split
    · rename_i h1
      refine List.pairwise_cons.2 ⟨fun x hx => ?_, ih hu'.2⟩
      rcases mem_ins hx with rfl | h
      · exact h1
      · exact hu'.1 x h
    · split
      · rename_i h1 h2
        refine List.pairwise_cons.2 ⟨fun x hx => ?_, hu'.2⟩
        have := hu'.1 x hx
        show key < x.1
        omega
      · rename_i h1 h2
        refine List.pairwise_cons.2 ⟨fun x hx => ?_, hu⟩
        show key < x.1
        rcases List.mem_cons.1 hx with rfl | h
        · omega
        · have := hu'.1 x h; omega
theorem mem_rem {es : List (Int × Int)} {key : Int} {x : Int × Int} (h : x ∈ remE key es) : x ∈ es := (List.mem_filter.1 h).1
theorem Up.rem {es : List (Int × Int)} (hu : Up es) (key : Int) : Up (remE key es) := List.Pairwise.filter _ hu
theorem len_ins (es : List (Int × Int)) (hu : Up es) (key v : Int) : (insE key v es).length = es.length + if hasE es key = true then 0 else 1 := by
  induction es with
  | nil => simp [insE, hasE, valE]
  | cons e r ih =>
    have hu' := List.pairwise_cons.1 hu
    rw [insE]
    split
    · rename_i h1
      have : hasE (e :: r) key = hasE r key := by unfold hasE; rw [valE, if_neg (by omega)]
      rw [List.length_cons, ih hu'.2, List.length_cons, this]; omega
    · split
      · rename_i h1 h2
        rw [if_pos (hasE_true (List.mem_cons_self ..) h2)]; simp
      · rename_i h1 h2
        have : hasE (e :: r) key = false := by
          rw [hasE_false]
          intro x hx
          rcases List.mem_cons.1 hx with rfl | h
          · exact h2
          · have := hu'.1 x h; omega
        rw [this]; simp
theorem len_rem (es : List (Int × Int)) (hu : Up es) (key : Int) : (remE key es).length + (if hasE es key = true then 1 else 0) = es.length := by
  induction es with
  | nil => simp [remE, hasE, valE]
  | cons e r ih =>
    have hu' := List.pairwise_cons.1 hu
    have ih := ih hu'.2
    unfold remE at ih ⊢
    rw [List.filter_cons]
    by_cases h1 : e.1 = key
    · rw [if_neg (by simp [h1]), if_pos (hasE_true (List.mem_cons_self ..) h1)]
      have : hasE r key = false := by
        rw [hasE_false]
        intro x hx
        have := hu'.1 x hx; omega
      rw [this] at ih
      simp at ih ⊢
      exact ih
    · rw [if_pos (by simp [h1])]
      have : hasE (e :: r) key = hasE r key := by unfold hasE; rw [valE, if_neg h1]
      rw [this, List.length_cons, List.length_cons]; omega
theorem len_rem_le (es : List (Int × Int)) (key : Int) : (remE key es).length ≤ es.length := List.length_filter_le _ _
theorem len_rem_lt (es : List (Int × Int)) (key : Int) : (remE key es).length < es.length ↔ hasE es key = true := by
  constructor
  · intro h
    cases hh : hasE es key with
    | true => rfl
    | false =>
      have : remE key es = es := List.filter_eq_self.2 fun e he => by simpa using hasE_false.1 hh e he
      rw [this] at h; omega
  · intro h
    by_cases hl : (remE key es).length < es.length
    · exact hl
    · have := len_rem_le es key
      have he : remE key es = es := List.Sublist.eq_of_length (List.filter_sublist) (by unfold remE at *; omega)
      unfold hasE at h
      rw [← he, val_rem, if_pos rfl] at h
      simp at h
/-- Keys that rise are told by their values. -/
theorem up_ext : ∀ {xs ys : List (Int × Int)}, Up xs → Up ys → (∀ k, valE xs k = valE ys k) → xs = ys := by
  intro xs
  induction xs with
  | nil =>
    intro ys _ _ h
    cases ys with
    | nil => rfl
    | cons y s => have := h y.1; rw [valE, valE, if_pos rfl] at this; simp at this
  | cons x r ih =>
    intro ys hx hy h
    cases ys with
    | nil => have := h x.1; rw [valE, valE, if_pos rfl] at this; simp at this
    | cons y s =>
      have hx' := List.pairwise_cons.1 hx
      have hy' := List.pairwise_cons.1 hy
      have h1 : x.1 = y.1 := by
        have a := h x.1
        have b := h y.1
        rw [valE, if_pos rfl, valE] at a
        rw [valE, valE, if_pos rfl] at b
        by_cases e : y.1 = x.1
        · exact e.symm
        · rw [if_neg e] at a
          rw [if_neg (fun e' => e e'.symm)] at b
          have a1 := hy'.1 _ (valE_of_mem a.symm)
          have b1 := hx'.1 _ (valE_of_mem b)
          simp only at a1 b1
          omega
      have h2 : x.2 = y.2 := by
        have a := h x.1
        rw [valE, if_pos rfl, valE, if_pos h1.symm] at a
        simpa using a
      have h3 : r = s := by
        refine ih hx'.2 hy'.2 fun k => ?_
        have a := h k
        rw [valE, valE, ← h1] at a
        by_cases e : x.1 = k
        · have c1 : valE r k = none := valE_none.2 fun z hz => by have := hx'.1 z hz; omega
          have c2 : valE s k = none := valE_none.2 fun z hz => by have := hy'.1 z hz; omega
          rw [c1, c2]
        · rw [if_neg e, if_neg e] at a
          exact a
      rw [h3, Prod.ext h1 h2]
theorem rise_up : ∀ {es : List (Int × Int)} {least : Int}, riseB least es = true → Up es := by
  intro es
  induction es with
  | nil => intro least _; exact List.Pairwise.nil
  | cons e r ih =>
    intro least h
    rw [riseB] at h
    simp only [Bool.and_eq_true] at h
    refine List.pairwise_cons.2 ⟨fun x hx => ?_, ih h.2⟩
    have : ∀ (es : List (Int × Int)) (least : Int), riseB least es = true → ∀ e ∈ es, least ≤ e.1 := by
      intro es
      induction es with
      | nil => intro least _ e he; simp at he
      | cons x r ih =>
        intro least h e he
        rw [riseB] at h
        simp only [Bool.and_eq_true, Bool.not_eq_true', Bool.or_eq_false_iff, decide_eq_false_iff_not] at h
        rcases List.mem_cons.1 he with h1 | h1
        · rw [h1]; omega
        · have := ih _ h.2 e h1; omega
    have := this r _ h.2 x hx
    omega
theorem up_rise : ∀ {es : List (Int × Int)} {least : Int}, Up es → (∀ e ∈ es, least ≤ e.1 ∧ e.1 < 1048576) → riseB least es = true := by
  intro es
  induction es with
  | nil => intro least _ _; rfl
  | cons e r ih =>
    intro least hu hb
    have hu' := List.pairwise_cons.1 hu
    have h0 := hb e (List.mem_cons_self ..)
    rw [riseB, ih hu'.2 fun x hx => ⟨by have := hu'.1 x hx; omega, (hb x (List.mem_cons_of_mem _ hx)).2⟩]
    simp
    omega
/-- Put where keys stand. -/
theorem ins_place : ∀ {es : List (Int × Int)} {key v : Int} {k : Nat}, k ≤ es.length → (∀ e ∈ es.take k, e.1 < key) → (∀ e, es[k]? = some e → key < e.1) → insE key v es = es.take k ++ (key, v) :: es.drop k := by
  intro es
  induction es with
  | nil => intro key v k hk _ _; simp at hk; subst hk; rfl
  | cons x r ih =>
    intro key v k hk h1 h2
    cases k with
    | zero =>
      have := h2 x rfl
      rw [insE, if_neg (by omega), if_neg (by omega)]; rfl
    | succ k =>
      have hx := h1 x (by simp)
      rw [insE, if_pos hx, ih (by simpa using hk) (fun e he => h1 e (by simp [he])) (fun e he => h2 e (by simpa using he))]
      rfl
theorem ins_set : ∀ {es : List (Int × Int)} {key v : Int} {k : Nat} {e : Int × Int}, Up es → es[k]? = some e → e.1 = key → insE key v es = es.set k (key, v) := by
  intro es
  induction es with
  | nil => intro key v k e _ h; simp at h
  | cons x r ih =>
    intro key v k e hu he hk
    have hu' := List.pairwise_cons.1 hu
    cases k with
    | zero =>
      simp at he; subst he
      rw [insE, if_neg (by omega), if_pos hk]; rfl
    | succ k =>
      have he' : r[k]? = some e := by simpa using he
      have := hu'.1 e (List.mem_of_getElem? he')
      rw [insE, if_pos (by omega), ih hu'.2 he' hk]; rfl
/-- The document's Put, step by step: what stands there behind so many keys. -/
def belowE (key : Int) (xs : List (Int × Int)) : Bool := xs.all fun e => decide (e.1 < key)
def outE (key v : Int) (xs : List (Int × Int)) : List (Int × Int) := if belowE key xs = true then xs else insE key v xs
theorem below_snoc (key : Int) (xs : List (Int × Int)) (e : Int × Int) : belowE key (xs ++ [e]) = (belowE key xs && decide (e.1 < key)) := by simp [belowE]
theorem ins_below {key v : Int} {xs : List (Int × Int)} (h : belowE key xs = true) (ys : List (Int × Int)) : insE key v (xs ++ ys) = xs ++ insE key v ys := by
  induction xs with
  | nil => rfl
  | cons x r ih =>
    simp only [belowE, List.all_cons, Bool.and_eq_true, decide_eq_true_eq] at h
    rw [List.cons_append, insE, if_pos h.1, ih (by simpa [belowE] using h.2)]; rfl
theorem ins_not_below {key v : Int} {xs : List (Int × Int)} (h : belowE key xs = false) (ys : List (Int × Int)) : insE key v (xs ++ ys) = insE key v xs ++ ys := by
  induction xs with
  | nil => simp [belowE] at h
  | cons x r ih =>
    rw [List.cons_append, insE, insE]
    split
    · rename_i h1
      rw [ih (by simpa [belowE, h1] using h)]; rfl
    · split <;> rfl
theorem out_low {key v : Int} {xs : List (Int × Int)} {e : Int × Int} (h : belowE key xs = true) (he : e.1 < key) : outE key v (xs ++ [e]) = outE key v xs ++ [e] := by
  unfold outE
  rw [below_snoc, h, if_pos (by simp [he]), if_pos rfl]
theorem out_same {key v : Int} {xs : List (Int × Int)} {e : Int × Int} (h : belowE key xs = true) (he : e.1 = key) : outE key v (xs ++ [e]) = outE key v xs ++ [(key, v)] := by
  unfold outE
  rw [below_snoc, h, if_neg (by simp [he]), if_pos rfl, ins_below h, insE, if_neg (by omega), if_pos he]
theorem out_over {key v : Int} {xs : List (Int × Int)} {e : Int × Int} (h : belowE key xs = true) (he : key < e.1) : outE key v (xs ++ [e]) = outE key v xs ++ [(key, v)] ++ [e] := by
  unfold outE
  rw [below_snoc, h, if_neg (by simp; omega), if_pos rfl, ins_below h, insE, if_neg (by omega), if_neg (by omega)]
  simp
theorem out_behind {key v : Int} {xs : List (Int × Int)} {e : Int × Int} (h : belowE key xs = false) : outE key v (xs ++ [e]) = outE key v xs ++ [e] := by
  unfold outE
  rw [below_snoc, h, if_neg (by simp), if_neg (by simp), ins_not_below h]
theorem out_end {key v : Int} {xs : List (Int × Int)} (h : belowE key xs = true) : insE key v xs = outE key v xs ++ [(key, v)] := by
  have := ins_below (v := v) h []
  unfold outE
  rw [if_pos h]
  simpa [insE] using this
theorem out_end' {key v : Int} {xs : List (Int × Int)} (h : belowE key xs = false) : insE key v xs = outE key v xs := by
  unfold outE
  rw [if_neg (by simp [h])]
theorem take_succ_at {es : List (Int × Int)} {k : Nat} {e : Int × Int} (h : es[k]? = some e) : es.take (k + 1) = es.take k ++ [e] := by
  rw [List.take_add_one, h]; rfl
/-- Behind a key that isn't below, none is the key itself. -/
theorem behind_ne {es : List (Int × Int)} (hu : Up es) {key : Int} {k : Nat} {e : Int × Int} (he : es[k]? = some e) (h : belowE key (es.take k) = false) : e.1 ≠ key := by
  unfold belowE at h
  rw [List.all_eq_false] at h
  obtain ⟨x, hx, hx2⟩ := h
  simp only [decide_eq_true_eq, Int.not_lt] at hx2
  obtain ⟨i, hi, rfl⟩ := List.mem_iff_getElem.1 hx
  rw [List.length_take] at hi
  obtain ⟨hk, rfl⟩ := List.getElem?_eq_some_iff.1 he
  have := List.pairwise_iff_getElem.1 hu i k (by omega) hk (by omega)
  rw [List.getElem_take] at hx2
  omega
theorem rem_snoc (key : Int) (xs : List (Int × Int)) (e : Int × Int) : remE key (xs ++ [e]) = remE key xs ++ if e.1 = key then [] else [e] := by
  unfold remE
  rw [List.filter_append]
  congr 1
  by_cases h : e.1 = key <;> simp [h]
theorem rem_skip {key : Int} {es : List (Int × Int)} {k : Nat} {e : Int × Int} (h : es[k]? = some e) (he : e.1 = key) : remE key (es.take (k + 1)) = remE key (es.take k) := by
  rw [take_succ_at h, rem_snoc, if_pos he, List.append_nil]
theorem rem_keep {key : Int} {es : List (Int × Int)} {k : Nat} {e : Int × Int} (h : es[k]? = some e) (he : e.1 ≠ key) : remE key (es.take (k + 1)) = remE key (es.take k) ++ [e] := by
  rw [take_succ_at h, rem_snoc, if_neg he]
theorem rem_ins {es : List (Int × Int)} (hu : Up es) (key v : Int) : insE key v (remE key es) = insE key v es :=
  up_ext ((hu.rem key).ins key v) (hu.ins key v) fun k => by rw [val_ins, val_ins, val_rem]; split <;> rfl
end Go.Proofs.YtjacenhblclkaaaDoor

/- Plain lemmas on the table of dirty pages (stage 10): pairs of a page and a record's number, by pages, rising (the words of PgMath: Up, valE, hasE, insE, remE). No Go text here. -/
namespace Go.Proofs.YtjacenhblclkaaaDoor
open Go.RowKit
set_option linter.unusedVariables false

/-- A page is added: one that is there stays as it is. -/
def addE (p f : Int) (es : List (Int × Int)) : List (Int × Int) := if hasE es p = true then es else insE p f es
theorem Up.add {es : List (Int × Int)} (hu : Up es) (p f : Int) : Up (addE p f es) := by
  unfold addE
  split
  · exact hu
  · exact hu.ins _ _
theorem val_add (es : List (Int × Int)) (p f k : Int) : valE (addE p f es) k = if p = k then (match valE es p with | some v => some v | none => some f) else valE es k := by
  unfold addE
  cases hv : valE es p with
  | some v =>
    rw [if_pos (by unfold hasE; rw [hv]; rfl)]
    split
    · rename_i e; rw [← e, hv]
    · rfl
  | none =>
    rw [if_neg (by unfold hasE; rw [hv]; simp), val_ins]
theorem len_add (es : List (Int × Int)) (hu : Up es) (p f : Int) : (addE p f es).length ≤ es.length + 1 := by
  unfold addE
  split
  · omega
  · rw [len_ins es hu]; split <;> omega
/-- The least number so far. -/
def lessE (n : Int) : List (Int × Int) → Int
  | [] => n
  | e :: es => lessE (if e.2 < n then e.2 else n) es
/-- The least of all (none: 0). -/
def leastE : List (Int × Int) → Int
  | [] => 0
  | e :: es => lessE e.2 es
theorem lessE_le : ∀ (es : List (Int × Int)) (n : Int), lessE n es ≤ n ∧ ∀ e ∈ es, lessE n es ≤ e.2
  | [], n => ⟨Int.le_refl _, fun e he => by simp at he⟩
  | x :: es, n => by
    have ih := lessE_le es (if x.2 < n then x.2 else n)
    have hx : (if x.2 < n then x.2 else n) ≤ n ∧ (if x.2 < n then x.2 else n) ≤ x.2 := by split <;> omega
    rw [lessE]
    refine ⟨by omega, fun e he => ?_⟩
    rcases List.mem_cons.1 he with rfl | he
    · omega
    · exact ih.2 e he
theorem lessE_at : ∀ (es : List (Int × Int)) (n : Int), lessE n es = n ∨ ∃ e ∈ es, e.2 = lessE n es
  | [], n => .inl rfl
  | x :: es, n => by
    rw [lessE]
    rcases lessE_at es (if x.2 < n then x.2 else n) with h | ⟨e, he, h⟩
    · by_cases hx : x.2 < n
      · rw [if_pos hx] at h ⊢
        exact .inr ⟨x, by simp, h.symm⟩
      · rw [if_neg hx] at h ⊢
        exact .inl h
    · exact .inr ⟨e, by simp [he], h⟩
theorem leastE_le {es : List (Int × Int)} {e : Int × Int} (he : e ∈ es) : leastE es ≤ e.2 := by
  cases es with
  | nil => simp at he
  | cons x es =>
    have h := lessE_le es x.2
    rcases List.mem_cons.1 he with rfl | he
    · exact h.1
    · exact h.2 e he
theorem leastE_at {es : List (Int × Int)} (h : es ≠ []) : ∃ e ∈ es, e.2 = leastE es := by
  cases es with
  | nil => exact absurd rfl h
  | cons x es =>
    rcases lessE_at es x.2 with h1 | ⟨e, he, h1⟩
    · exact ⟨x, by simp, h1.symm⟩
    · exact ⟨e, by simp [he], h1⟩
/-- The least is told by what it is. -/
theorem leastE_of {es : List (Int × Int)} {m : Int} (h0 : es = [] → m = 0) (h1 : ∀ e ∈ es, m ≤ e.2) (h2 : es ≠ [] → ∃ e ∈ es, e.2 = m) : leastE es = m := by
  by_cases h : es = []
  · subst h; exact (h0 rfl).symm
  · obtain ⟨e, he, h3⟩ := h2 h
    obtain ⟨x, hx, h4⟩ := leastE_at h
    have h5 := leastE_le he
    have h6 := h1 x hx
    omega
theorem lessE_append (es fs : List (Int × Int)) (n : Int) : lessE n (es ++ fs) = lessE (lessE n es) fs := by
  induction es generalizing n with
  | nil => rfl
  | cons e es ih => exact ih _
/-- One more is looked at. -/
theorem leastE_take {es : List (Int × Int)} {k : Nat} {e : Int × Int} (he : es[k]? = some e) : leastE (es.take (k + 1)) = if k = 0 ∨ e.2 < leastE (es.take k) then e.2 else leastE (es.take k) := by
  rw [take_succ_at he]
  cases k with
  | zero => simp [leastE, lessE]
  | succ k =>
    cases es with
    | nil => simp at he
    | cons x es =>
      have e1 : (x :: es).take (k + 1) ++ [e] = x :: (es.take k ++ [e]) := rfl
      have e2 : leastE ((x :: es).take (k + 1)) = lessE x.2 (es.take k) := rfl
      rw [e1, e2]
      show lessE x.2 (es.take k ++ [e]) = _
      rw [lessE_append]
      show (if e.2 < lessE x.2 (es.take k) then e.2 else lessE x.2 (es.take k)) = _
      by_cases h : e.2 < lessE x.2 (es.take k)
      · rw [if_pos h, if_pos (Or.inr h)]
      · rw [if_neg h, if_neg (fun hx => hx.elim (fun h0 => by omega) h)]
end Go.Proofs.YtjacenhblclkaaaDoor
