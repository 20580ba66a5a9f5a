
/- Plain lemmas on blocks: which may be, their bytes, what bytes say; no Go text here. -/
import Derived.Test.YtjdfmpdkfbhdkaaDoorRecMath
import Derived.Test.YtjdfmpdkfbhdkaaDoorCopy
namespace Go.Proofs.YtjdfmpdkfbhdkaaDoor
open Go.RowKit
set_option linter.unusedVariables false

/-- What stands ahead of a block's records. -/
def headB (epoch n : Int) : List Int := putB (putB (fillB [80, 72, 88, 66] 16) 4 epoch 4) 8 n 2
/-- Records' bytes, one behind the other. -/
def recsB (rs : List R) : List Int := (rs.map recB).flatten
/-- A block's bytes. -/
def blockB (epoch : Int) (rs : List R) : List Int := fillB (headB epoch rs.length ++ recsB rs) 256
/-- A block that may be. -/
def okB (epoch : Int) (rs : List R) : Bool := decide (1 ≤ epoch ∧ epoch ≤ 1073741824 ∧ 1 ≤ rs.length ∧ rs.length ≤ 6) && rs.all goodB
theorem byteAt_grownB (xs : List Int) (n : Nat) (p : Int) : byteAt (grownB xs n) p = byteAt xs p := by
  unfold byteAt grownB
  split <;> split
  · rename_i h1 h2
    rw [List.getD_eq_getElem?_getD, List.getD_eq_getElem?_getD, List.getElem?_append_left (by omega)]
  · rename_i h1 h2
    rw [List.getD_eq_getElem?_getD, List.getElem?_append_right (by omega), List.getElem?_replicate]
    split <;> rfl
  · rename_i h1 h2
    exfalso
    apply h1
    simp
    omega
  · rfl
theorem byteAt_fillB (xs : List Int) (S p : Int) : byteAt (fillB xs S) p = byteAt xs p := byteAt_grownB _ _ _
theorem byteAt_left (xs ys : List Int) (p : Int) (h : p < xs.length) : byteAt (xs ++ ys) p = byteAt xs p := by
  unfold byteAt
  by_cases h0 : 0 ≤ p
  · rw [if_pos ⟨h0, by simp; omega⟩, if_pos ⟨h0, h⟩, List.getD_eq_getElem?_getD, List.getD_eq_getElem?_getD, List.getElem?_append_left (by omega)]
  · rw [if_neg (fun h => h0 h.1), if_neg (fun h => h0 h.1)]
theorem byteAt_out (xs : List Int) (p : Int) (h : (xs.length : Int) ≤ p) : byteAt xs p = 0 := by
  unfold byteAt
  rw [if_neg (by omega)]
theorem getB_congr (xs ys : List Int) (a : Int) (k : Nat) (h : ∀ p, a ≤ p → p < a + k → byteAt xs p = byteAt ys p) : getB xs a k = getB ys a k :=
  num_congr k fun j h0 h1 => h _ (by omega) (by omega)
theorem length_headB (e n : Int) : (headB e n).length = 16 := by rw [headB, length_putB, length_putB, length_fillB]; rfl
theorem length_recsB (rs : List R) : (recsB rs).length = 40 * rs.length := by
  induction rs with
  | nil => rfl
  | cons r rs ih => simp only [recsB, List.map_cons, List.flatten_cons, List.length_append, List.length_cons, length_recB] at ih ⊢; omega
theorem recsB_snoc (rs : List R) (k : Nat) (r : R) (h : rs[k]? = some r) : recsB (rs.take (k + 1)) = recsB (rs.take k) ++ recB r := by
  have hk := (List.getElem?_eq_some_iff.1 h).1
  rw [List.take_add_one, h]
  simp [recsB]
theorem bytes_head0 : Bytes [80, 72, 88, 66] := by
  intro x hx
  simp at hx
  omega
theorem bytes_headB (e n : Int) : Bytes (headB e n) := ((bytes_head0.grownB _).putB _ _ _).putB _ _ _
theorem bytes_recsB (rs : List R) : Bytes (recsB rs) := by
  intro x hx
  obtain ⟨l, hl, hx⟩ := List.mem_flatten.1 hx
  obtain ⟨r, _, rfl⟩ := List.mem_map.1 hl
  exact bytes_recB r x hx
theorem bytes_blockB (e : Int) (rs : List R) : Bytes (blockB e rs) := ((bytes_headB _ _).append (bytes_recsB _)).grownB _
theorem length_blockB (e : Int) (rs : List R) (h : rs.length ≤ 6) : (blockB e rs).length = 256 := by
  rw [blockB, length_fillB, List.length_append, length_headB, length_recsB]
  show max 256 _ = 256
  omega
theorem blockB_head (e : Int) (rs : List R) (p : Int) (h : p < 16) : byteAt (blockB e rs) p = byteAt (headB e rs.length) p := by
  rw [blockB, byteAt_fillB, byteAt_left _ _ _ (by rw [length_headB]; omega)]
theorem blockB_out (e : Int) (rs : List R) (p : Int) (h : 16 + 40 * (rs.length : Int) ≤ p) : byteAt (blockB e rs) p = 0 := by
  rw [blockB, byteAt_fillB, byteAt_out]
  rw [List.length_append, length_headB, length_recsB]
  omega
theorem blockB_gap (e : Int) (rs : List R) (p : Int) (h : 10 ≤ p) (h' : p < 16) : byteAt (blockB e rs) p = 0 := by
  rw [blockB_head e rs p h', headB, byteAt_putB, if_neg (by omega), byteAt_putB, if_neg (by omega), byteAt_fillB, byteAt_out]
  simp only [List.length_cons, List.length_nil]
  omega
theorem blockB_mark (e : Int) (rs : List R) (p : Int) (h' : p < 4) : byteAt (blockB e rs) p = byteAt [80, 72, 88, 66] p := by
  rw [blockB_head e rs p (by omega), headB, byteAt_putB, if_neg (by omega), byteAt_putB, if_neg (by omega), byteAt_fillB]
theorem blockB_epochAt (e : Int) (rs : List R) (p : Int) (h : 4 ≤ p) (h' : p < 8) : byteAt (blockB e rs) p = byteOf e (p - 4).toNat := by
  rw [blockB_head e rs p (by omega), headB, byteAt_putB, if_neg (by omega), byteAt_putB, if_pos (by rw [length_fillB]; simp; omega)]
theorem blockB_countAt (e : Int) (rs : List R) (p : Int) (h : 8 ≤ p) (h' : p < 10) : byteAt (blockB e rs) p = byteOf rs.length (p - 8).toNat := by
  rw [blockB_head e rs p (by omega), headB, byteAt_putB, if_pos (by rw [length_putB, length_fillB]; simp; omega)]
/-- What bytes say as a block. -/
def epochOf (xs : List Int) : Int := getB xs 4 4
def countOf (xs : List Int) : Int := getB xs 8 2
def manyOf (xs : List Int) : Nat := min (countOf xs).toNat 6
def partAt (xs : List Int) (i : Nat) : List Int := (xs.drop (16 + 40 * i)).take 40
def recsUp (xs : List Int) (k : Nat) : List R := (List.range k).map fun i => partsR (partAt xs i)
def recsOf (xs : List Int) : List R := recsUp xs (manyOf xs)
/-- The first k parts are records. -/
def partsOk (xs : List Int) (k : Nat) : Bool := (List.range k).all fun i => isRec (partAt xs i)
/-- The bytes are a block's. -/
def isBlock (xs : List Int) : Bool := partsOk xs (manyOf xs) && (okB (epochOf xs) (recsOf xs) && decide (blockB (epochOf xs) (recsOf xs) = xs))
theorem length_recsUp (xs : List Int) (k : Nat) : (recsUp xs k).length = k := by simp [recsUp]
theorem length_recsOf (xs : List Int) : (recsOf xs).length = manyOf xs := length_recsUp _ _
theorem manyOf_le (xs : List Int) : manyOf xs ≤ 6 := by unfold manyOf; omega
theorem recsUp_succ (xs : List Int) (k : Nat) : recsUp xs (k + 1) = recsUp xs k ++ [partsR (partAt xs k)] := by
  unfold recsUp
  rw [List.range_succ, List.map_append]
  rfl
theorem partsOk_iff (xs : List Int) (k : Nat) : partsOk xs k = true ↔ ∀ i, i < k → isRec (partAt xs i) = true := by
  unfold partsOk
  rw [List.all_eq_true]
  simp only [List.mem_range]
theorem partsOk_no {xs : List Int} {k i : Nat} (hi : i < k) (h : isRec (partAt xs i) = false) : partsOk xs k = false := by
  cases hp : partsOk xs k with
  | false => rfl
  | true => rw [(partsOk_iff xs k).1 hp i hi] at h; cases h
theorem length_partAt (xs : List Int) (i : Nat) (h : xs.length = 256) (hi : i < 6) : (partAt xs i).length = 40 := by
  unfold partAt
  rw [List.length_take, List.length_drop]
  omega
theorem epoch_blockB (e : Int) (rs : List R) (h0 : 0 ≤ e) (h1 : e ≤ 1073741824) : epochOf (blockB e rs) = e := by
  unfold epochOf
  rw [getB_congr _ (headB e rs.length) 4 4 (fun p hp hp' => blockB_head e rs p (by omega)), headB, get_put_other _ _ _ _ _ _ (by omega), get_put_same _ _ _ _ (by omega) (by rw [length_fillB]; decide)]
  exact mod_lt h0 (by omega)
theorem count_blockB (e : Int) (rs : List R) (h : rs.length ≤ 6) : countOf (blockB e rs) = rs.length := by
  unfold countOf
  rw [getB_congr _ (headB e rs.length) 8 2 (fun p hp hp' => blockB_head e rs p (by omega)), headB, get_put_same _ _ _ _ (by omega) (by rw [length_putB, length_fillB]; decide)]
  exact mod_lt (by omega) (by omega)
theorem many_blockB (e : Int) (rs : List R) (h : rs.length ≤ 6) : manyOf (blockB e rs) = rs.length := by
  unfold manyOf
  rw [count_blockB e rs h]
  omega
theorem recsB_part (zs : List Int) : ∀ (rs : List R) (i : Nat) (r : R), rs[i]? = some r → ((recsB rs ++ zs).drop (40 * i)).take 40 = recB r := by
  intro rs
  induction rs with
  | nil => intro i r h; simp at h
  | cons x rs ih =>
    intro i r h
    have hx := length_recB x
    have e : recsB (x :: rs) ++ zs = recB x ++ (recsB rs ++ zs) := by simp [recsB]
    rw [e]
    cases i with
    | zero =>
      simp at h
      subst h
      rw [Nat.mul_zero, List.drop_zero, List.take_append_of_le_length (by omega), List.take_of_length_le (by omega)]
    | succ i =>
      rw [show 40 * (i + 1) = (recB x).length + 40 * i by omega, List.drop_length_add_append]
      exact ih i r (by simpa using h)
theorem part_blockB (e : Int) (rs : List R) (i : Nat) (r : R) (h : rs[i]? = some r) : partAt (blockB e rs) i = recB r := by
  unfold partAt blockB fillB grownB
  have hh := length_headB e rs.length
  rw [List.append_assoc, show 16 + 40 * i = (headB e rs.length).length + 40 * i by omega, List.drop_length_add_append]
  exact recsB_part _ rs i r h
theorem recs_blockB (e : Int) (rs : List R) (h : rs.length ≤ 6) (hg : ∀ r ∈ rs, goodB r = true ∧ r.fits) : recsOf (blockB e rs) = rs := by
  unfold recsOf
  rw [many_blockB e rs h]
  unfold recsUp
  refine List.ext_getElem (by simp) fun i h1 h2 => ?_
  rw [List.getElem_map, List.getElem_range, part_blockB e rs i rs[i] (List.getElem?_eq_getElem h2)]
  have := hg rs[i] (List.getElem_mem h2)
  exact parts_recB _ this.1 this.2
theorem okB_iff (e : Int) (rs : List R) : okB e rs = true ↔ (1 ≤ e ∧ e ≤ 1073741824 ∧ 1 ≤ rs.length ∧ rs.length ≤ 6) ∧ ∀ r ∈ rs, goodB r = true := by
  unfold okB
  rw [Bool.and_eq_true, decide_eq_true_eq, List.all_eq_true]
theorem isBlock_blockB (e : Int) (rs : List R) (h : okB e rs = true) (hf : ∀ r ∈ rs, r.fits) : isBlock (blockB e rs) = true ∧ epochOf (blockB e rs) = e ∧ recsOf (blockB e rs) = rs := by
  obtain ⟨⟨h0, h1, h2, h3⟩, hg⟩ := (okB_iff e rs).1 h
  have he := epoch_blockB e rs (by omega) h1
  have hr := recs_blockB e rs h3 fun r hr => ⟨hg r hr, hf r hr⟩
  refine ⟨?_, he, hr⟩
  unfold isBlock
  rw [he, hr, h, many_blockB e rs h3, (partsOk_iff _ _).2]
  · simp
  · intro i hi
    have hm := List.getElem_mem hi
    rw [part_blockB e rs i rs[i] (List.getElem?_eq_getElem hi)]
    exact isRec_recB _ (hg _ hm) (hf _ hm)
theorem isBlock_parts {xs : List Int} (h : isBlock xs = true) : partsOk xs (manyOf xs) = true ∧ okB (epochOf xs) (recsOf xs) = true ∧ blockB (epochOf xs) (recsOf xs) = xs := by
  unfold isBlock at h
  rw [Bool.and_eq_true, Bool.and_eq_true, decide_eq_true_eq] at h
  exact h
theorem isBlock_gap {xs : List Int} (p : Int) (h : 10 ≤ p) (h' : p < 16) (hx : byteAt xs p ≠ 0) : isBlock xs = false := by
  cases hb : isBlock xs with
  | false => rfl
  | true =>
    rw [← (isBlock_parts hb).2.2] at hx
    exact absurd (blockB_gap _ _ p h h') hx
theorem isBlock_out {xs : List Int} (p : Int) (h : 16 + 40 * (manyOf xs : Int) ≤ p) (hx : byteAt xs p ≠ 0) : isBlock xs = false := by
  cases hb : isBlock xs with
  | false => rfl
  | true =>
    have e := (isBlock_parts hb).2.2
    have hl := length_recsOf xs
    obtain ⟨rs, hrs⟩ : ∃ rs, rs = recsOf xs := ⟨_, rfl⟩
    rw [← hrs] at e hl
    rw [← e] at hx
    exact absurd (blockB_out _ rs p (by rw [hl]; exact h)) hx
theorem blockB_not_zero (e : Int) (rs : List R) (h : rs.length ≤ 6) (xs : List Int) (hl : xs.length = 256) (k : Nat) (he : ∀ i, i ≠ k → xs.getD i 0 = (blockB e rs).getD i 0) : zeroB xs = false := by
  by_cases hk : k = 0
  · refine zeroB_false (i := 1) (by omega) ?_
    rw [he 1 (by omega), ← byteAt_nat, blockB_mark e rs _ (by omega)]
    decide
  · refine zeroB_false (i := 0) (by omega) ?_
    rw [he 0 (by omega), ← byteAt_nat, blockB_mark e rs _ (by omega)]
    decide
theorem getD_set_ne (xs : List Int) (k i : Nat) (v : Int) (h : i ≠ k) : (xs.set k v).getD i 0 = xs.getD i 0 := by
  rw [List.getD_eq_getElem?_getD, List.getD_eq_getElem?_getD, List.getElem?_set_ne (fun e => h e.symm)]
theorem getD_set_eq (xs : List Int) (k : Nat) (v : Int) (h : k < xs.length) : (xs.set k v).getD k 0 = v := by
  rw [List.getD_eq_getElem?_getD, List.getElem?_set_self h]
  rfl
theorem epoch_bytes (e : Int) (h0 : 0 ≤ e) (h1 : e < 16777216) : byteOf e 0 + 256 * byteOf e 1 + 65536 * byteOf e 2 = e := by
  unfold byteOf
  rw [show (256 : Int) ^ 0 = 1 by decide, show (256 : Int) ^ 1 = 256 by decide, show (256 : Int) ^ 2 = 65536 by decide]
  omega
end Go.Proofs.YtjdfmpdkfbhdkaaDoor
