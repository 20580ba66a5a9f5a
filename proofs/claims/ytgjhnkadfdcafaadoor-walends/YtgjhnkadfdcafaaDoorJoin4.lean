/- Lemmas and contracts that the law stands on, joined: BlockTools, SaysMem, BSaysMath, WalMath, WalMath2, Sector, Disk, Power, Reads, Turns, Writes, Syncs, LooseMath. -/
import Derived.Test.YtgjhnkadfdcafaaDoorJoin3
import Derived.Test.YtgjhnkadfdcafaaDoorJoin2
import Derived.Test.YtgjhnkadfdcafaaDoorJoin1
import Derived.Maps.AppendAt
import Derived.Lib.SliceRun
import Derived.Deep.RegionHeld3
import Derived.Test.YtgjhnkadfdcafaaDoorRows
/- Small facts for the walks over blocks: a byte that is turned by another, what a block's own list is. -/
namespace Go.Proofs.YtgjhnkadfdcafaaDoor
open Go.RowKit
set_option linter.unusedVariables false

theorem xor_nat (a b : Nat) (ha : a < 256) (hb : b < 256) : bits .xor .u8 (a : Int) (b : Int) = ((a ^^^ b : Nat) : Int) := by
  have hx : a ^^^ b < 2 ^ 8 := Nat.xor_lt_two_pow (by omega) (by omega)
  have h1 : (BitVec.ofInt 8 (a : Int)).toNat = a := by
    rw [BitVec.ofInt_natCast, BitVec.toNat_ofNat]; exact Nat.mod_eq_of_lt (by omega)
  have h2 : (BitVec.ofInt 8 (b : Int)).toNat = b := by
    rw [BitVec.ofInt_natCast, BitVec.toNat_ofNat]; exact Nat.mod_eq_of_lt (by omega)
  show IntKind.u8.wrap ((BitVec.ofInt 8 (a : Int) ^^^ BitVec.ofInt 8 (b : Int)).toNat : Int) = _
  rw [BitVec.toNat_xor, h1, h2]
  simp [IntKind.wrap, IntKind.bits, IntKind.signed]
  omega
theorem xor_bd (x y : Int) : 0 ≤ bits .xor .u8 x y ∧ bits .xor .u8 x y ≤ 255 := wf_u8 (wf_bits .xor .u8 x y)
theorem xor_ne (x y : Int) (hx : 0 ≤ x ∧ x ≤ 255) (hy : 0 ≤ y ∧ y ≤ 255) (h : y ≠ 0) : bits .xor .u8 x y ≠ x := by
  obtain ⟨a, rfl⟩ : ∃ a : Nat, x = a := ⟨x.toNat, by omega⟩
  obtain ⟨b, rfl⟩ : ∃ b : Nat, y = b := ⟨y.toNat, by omega⟩
  rw [xor_nat a b (by omega) (by omega)]
  intro e
  have e2 : a ^^^ b = a := by omega
  have e3 : a ^^^ (a ^^^ b) = b := by rw [← Nat.xor_assoc, Nat.xor_self, Nat.zero_xor]
  rw [e2, Nat.xor_self] at e3
  omega
theorem rec_next {w x : World} {s n0 : Nat} {lo : Option Addr} {len cap : Nat} {zs : List Int} (h : SeqAt x s lo len cap zs n0) (hn : n0 ≤ 900) (hb : Below w.heap.size w x) (hs : w.heap.size ≤ s) :
    Calls Tryd.prog 28 #[.pointer (some ⟨s, 0, none⟩)] x fun e w' => ∃ r : R, e = .returned r.val ∧ goodB r = true ∧ r.fits ∧ (∃ n1, n1 ≤ n0 + 10 ∧ SeqAt w' s lo len cap zs n1) ∧ But s x w' ∧ Below w.heap.size w w' := by
  refine (make_from n0 (by omega) s lo len cap zs x h).mono ?_
  rintro e w' ⟨r, rfl, hg, hf, hS, hbut⟩
  exact ⟨r, rfl, hg, hf, hS, hbut, hb.trans ((hbut.below (Nat.le_of_lt (lt_of_block h.lies))).mono hs)⟩
theorem snoc_all {rs : List R} {r : R} (h : ∀ x ∈ rs, goodB x = true ∧ x.fits) (hr : goodB r = true ∧ r.fits) : ∀ x ∈ rs ++ [r], goodB x = true ∧ x.fits := by
  intro x hx
  rcases List.mem_append.1 hx with h1 | h1
  · exact h x h1
  · simp at h1; subst h1; exact hr
theorem ok_all {e : Int} {rs : List R} (h0 : 1 ≤ e) (h1 : e ≤ 1073741824) (h2 : 1 ≤ rs.length) (h3 : rs.length ≤ 6) (h : ∀ x ∈ rs, goodB x = true ∧ x.fits) : okB e rs = true := (okB_iff e rs).2 ⟨⟨h0, h1, h2, h3⟩, fun r hr => (h r hr).1⟩
/-- One byte of a block turned: it is not all zeros; if it is a block, it is another. -/
theorem turned_not (e : Int) (rs : List R) (h : rs.length ≤ 6) (k : Nat) (v : Int) : zeroB ((blockB e rs).set k v) = false :=
  blockB_not_zero e rs h _ (by rw [List.length_set]; exact length_blockB e rs h) k (fun i hi => getD_set_ne _ _ _ _ hi)
theorem turned_other {e : Int} {rs : List R} (h : rs.length ≤ 6) {k : Nat} (hk : k < 256) {v : Int} (hv : v ≠ (blockB e rs).getD k 0) (hb : isBlock ((blockB e rs).set k v) = true) (he : epochOf ((blockB e rs).set k v) = e) : sameRs (recsOf ((blockB e rs).set k v)) rs = false := by
  cases hs : sameRs (recsOf ((blockB e rs).set k v)) rs with
  | false => rfl
  | true =>
    have h1 := (sameRs_iff _ _).1 hs
    have h2 := (isBlock_parts hb).2.2
    rw [h1, he] at h2
    have h3 := getD_set_eq (blockB e rs) k v (by rw [length_blockB e rs h]; exact hk)
    rw [← h2] at h3
    exact absurd h3.symm hv
end Go.Proofs.YtgjhnkadfdcafaaDoor

/- A record handed in as an argument: what value it is; a record that lies in a box; lists of bytes side by side. -/
namespace Go.Proofs.YtgjhnkadfdcafaaDoor
open Go.RowKit Go.ChangeShapes Go.WideShapes
set_option linter.unusedVariables false

theorem Tryd.cellsOf3 : Tryd.prog.cellsOf 3 = 1 := by kernel_rfl
theorem Tryd.cellsOf2 : Tryd.prog.cellsOf 2 = 1 := by kernel_rfl
theorem Tryd.cellsOf4 : Tryd.prog.cellsOf 4 = 1 := by kernel_rfl
theorem Tryd.cellsOf31 : Tryd.prog.cellsOf 31 = 10 := by kernel_rfl
theorem array10 {α : Type} {cs : Array α} (h : cs.size = 10) : ∃ c0 c1 c2 c3 c4 c5 c6 c7 c8 c9, cs = #[c0, c1, c2, c3, c4, c5, c6, c7, c8, c9] := by
  obtain ⟨l⟩ := cs
  match l, h with
  | [c0, c1, c2, c3, c4, c5, c6, c7, c8, c9], _ => exact ⟨c0, c1, c2, c3, c4, c5, c6, c7, c8, c9, rfl⟩
theorem fld {H : Type} {enc : TypeId × Value → H} {P : Program} {W : World} {base : Nat} {spare : Nat → Bool} {held : Bool} {n : Nat} {cs : List Value} {y : Option (DataW H × List MemPlace)} (t : TypeId) (off : Nat) (c : Value) (h : DataW.trod enc P W base spare held n t ((cs.drop off).take (P.cellsOf t)) = y) (hc : P.cellsOf t = 1) (e : (cs.drop off).take 1 = [c]) : DataW.trod enc P W base spare held n t [c] = y := by
  rw [hc, e] at h
  exact h
end Go.Proofs.YtgjhnkadfdcafaaDoor

/- The answers of block.Bytes, block.Read and of the document's own functions, told alike: what is the same of both. -/
namespace Go.Proofs.YtgjhnkadfdcafaaDoor
open Go.RowKit
set_option linter.unusedVariables false

/-- An error as a value, and as a number. -/
def ErrCode (a : Nat → Addr) (fv : Value) (cd : Int) : Prop := (fv = .nilIface ∧ cd = 0) ∨ ∃ i, i < 18 ∧ fv = errV (a i) ∧ cd = 101 + (i : Int)
theorem is_code {w : World} {a : Nat → Addr} {fv : Value} {cd : Int} (h : ErrCode a fv cd) (he : ErrsOf w all18 a) : Calls Tryd.prog 29 #[fv, .int .i64 cd] w fun e w' => e = .returned (.bool true) ∧ Below w.heap.size w w' := by
  rcases h with ⟨rfl, rfl⟩ | ⟨i, hi, rfl, rfl⟩
  · exact is_ok w
  · exact is_err w a i hi _ rfl he
def ansB (e : Int) (rs : List R) : List Int := if okB e rs then blockB e rs else []
def codB (e : Int) (rs : List R) : Int := if okB e rs then 0 else 102
theorem ansB_len (e : Int) (rs : List R) : (ansB e rs).length = 256 ∨ (ansB e rs).length = 0 := by
  unfold ansB
  cases h : okB e rs with
  | true => exact .inl (length_blockB _ _ ((okB_iff e rs).1 h).1.2.2.2)
  | false => exact .inr rfl
theorem bb_uni {e : Int} {ao : Option Addr} {n cap : Nat} {rs : List R} {w : World} {a : Nat → Addr} (hE : BlkErrs w (a 1) (a 2) (a 3) (a 4)) (h : RecRow w ao rs) (hn : rs.length = n) :
    Calls Tryd.prog 24 #[.int .i64 e, .slice ao n cap] w fun r w' => ∃ xo xn xc fv, r = .returned (.tuple #[.slice xo xn xc, fv]) ∧ (ansB e rs).length = xn ∧ Row w' xo (ansB e rs) ∧ ErrCode a fv (codB e rs) ∧ Below w.heap.size w w' := by
  refine (bb_any e ao n cap rs w _ hE.rd.range h hn).mono ?_
  rintro r w' ⟨⟨hok, g, rfl, _, hown⟩ | ⟨hok, rfl⟩, hb⟩
  · have h1 : ansB e rs = blockB e rs := by unfold ansB; rw [hok]; rfl
    have h2 : codB e rs = 0 := by unfold codB; rw [hok]; rfl
    rw [h1, h2]
    exact ⟨_, 256, 256, _, rfl, length_blockB _ _ ((okB_iff e rs).1 hok).1.2.2.2, hown.row, .inl ⟨rfl, rfl⟩, hb⟩
  · have h1 : ansB e rs = [] := by unfold ansB; rw [hok]; rfl
    have h2 : codB e rs = 102 := by unfold codB; rw [hok]; rfl
    rw [h1, h2]
    exact ⟨none, 0, 0, _, rfl, rfl, row_nil _, .inr ⟨1, by omega, rfl, by omega⟩, hb⟩
/-- What a list of bytes is as a block: its epoch, its records, the error's number. -/
def isAns (xs : List Int) : Bool := decide (xs.length = 256) && (!zeroB xs && isBlock xs)
def ansN (xs : List Int) : Int := if isAns xs then epochOf xs else 0
def ansR (xs : List Int) : List R := if isAns xs then recsOf xs else []
def ansC (xs : List Int) : Int := if xs.length ≠ 256 then 103 else if zeroB xs then 0 else if isBlock xs then 0 else 105
theorem ans_cases (xs : List Int) : (xs.length ≠ 256 ∧ ansN xs = 0 ∧ ansR xs = [] ∧ ansC xs = 103) ∨ (xs.length = 256 ∧ zeroB xs = true ∧ ansN xs = 0 ∧ ansR xs = [] ∧ ansC xs = 0) ∨ (xs.length = 256 ∧ zeroB xs = false ∧ isBlock xs = true ∧ ansN xs = epochOf xs ∧ ansR xs = recsOf xs ∧ ansC xs = 0) ∨ (xs.length = 256 ∧ zeroB xs = false ∧ isBlock xs = false ∧ ansN xs = 0 ∧ ansR xs = [] ∧ ansC xs = 105) := by
  by_cases hl : xs.length = 256
  · cases hz : zeroB xs with
    | true => exact .inr (.inl ⟨hl, rfl, by simp [ansN, isAns, hz], by simp [ansR, isAns, hz], by simp [ansC, hl, hz]⟩)
    | false =>
      cases hb : isBlock xs with
      | true => exact .inr (.inr (.inl ⟨hl, rfl, rfl, by simp [ansN, isAns, hl, hz, hb], by simp [ansR, isAns, hl, hz, hb], by simp [ansC, hl, hz, hb]⟩))
      | false => exact .inr (.inr (.inr ⟨hl, rfl, rfl, by simp [ansN, isAns, hb], by simp [ansR, isAns, hb], by simp [ansC, hl, hz, hb]⟩))
  · exact .inl ⟨hl, by simp [ansN, isAns, hl], by simp [ansR, isAns, hl], by simp [ansC, hl]⟩
theorem read_uni {ao : Option Addr} {n cap : Nat} {xs : List Int} {w : World} {a : Nat → Addr} (hE : BlkErrs w (a 1) (a 2) (a 3) (a 4)) (h : Row w ao xs) (hn : xs.length = n) (hc : n ≤ cap) :
    Calls Tryd.prog 61 #[.slice ao n cap] w fun r w' => ∃ mo mk mc fv, r = .returned (.tuple #[.int .i64 (ansN xs), .slice mo mk mc, fv]) ∧ (ansR xs).length = mk ∧ RecRow w' mo (ansR xs) ∧ ErrCode a fv (ansC xs) ∧ Below w.heap.size w w' := by
  rcases ans_cases xs with ⟨h1, h2, h3, h4⟩ | ⟨h1, hz, h2, h3, h4⟩ | ⟨h1, hz, hi, h2, h3, h4⟩ | ⟨h1, hz, hi, h2, h3, h4⟩
  · rw [h2, h3, h4]
    exact (bread_short ao n cap w hE (by omega)).mono fun r w' hh => ⟨none, 0, 0, _, hh.1, rfl, recRow_nil _, .inr ⟨2, by omega, rfl, by omega⟩, hh.2⟩
  · rw [h2, h3, h4]
    rw [h1] at hn
    subst hn
    exact (bread_zero ao cap xs w h h1 hz).mono fun r w' hh => ⟨none, 0, 0, _, hh.1, rfl, recRow_nil _, .inl ⟨rfl, rfl⟩, hh.2⟩
  · rw [h2, h3, h4]
    rw [h1] at hn
    subst hn
    refine (bread_any ao cap xs w hE h h1 hc hz).mono ?_
    rintro r w' ⟨⟨_, mo, mc, rfl, hown⟩ | ⟨hj, _⟩, hb⟩
    · exact ⟨mo, _, mc, _, rfl, length_recsOf xs, hown.row, .inl ⟨rfl, rfl⟩, hb⟩
    · rw [hi] at hj; cases hj
  · rw [h2, h3, h4]
    rw [h1] at hn
    subst hn
    refine (bread_any ao cap xs w hE h h1 hc hz).mono ?_
    rintro r w' ⟨⟨hj, _⟩ | ⟨_, rfl⟩, hb⟩
    · rw [hi] at hj; cases hj
    · exact ⟨none, 0, 0, _, rfl, rfl, recRow_nil _, .inr ⟨4, by omega, rfl, by omega⟩, hb⟩
theorem Cells10.under {w w' : World} {B n : Nat} {r : R} (h : Cells10 w B r) (hb : Below n w w') (hn : B < n) : Cells10 w' B r := by
  have h0 : ∀ o, w'.cell? ⟨B, o, none⟩ = w.cell? ⟨B, o, none⟩ := fun o => hb.cell (show B < n from hn)
  exact ⟨(h0 _).trans h.c0, (h0 _).trans h.c1, (h0 _).trans h.c2, (h0 _).trans h.c3, (h0 _).trans h.c4, (h0 _).trans h.c5, (h0 _).trans h.c6, (h0 _).trans h.c7, (h0 _).trans h.c8, (h0 _).trans h.c9, Nat.lt_of_lt_of_le h.lt hb.size⟩
theorem cells4 {w : World} {x y z u : Value} {k : Nat} (hk : k < 4) : (w.alloc (.cells #[x, y, z, u] 51)).cell? ⟨w.heap.size, k, none⟩ = some ([x, y, z, u].getD k undef) := by
  rw [cell_row (heap_alloc_new w (.cells #[x, y, z, u] 51))]
  rcases (show k = 0 ∨ k = 1 ∨ k = 2 ∨ k = 3 by omega) with rfl | rfl | rfl | rfl <;> rfl
/-- One of four lists of bytes: where it lies, its bytes. -/
def Four (W : World) (G : Nat) : Prop := ∀ k, k < 4 → ∃ ao n c, ∃ xs : List Int, W.cell? ⟨G, k, none⟩ = some (.slice ao n c) ∧ Row W ao xs ∧ xs.length = n ∧ n ≤ c
theorem four_of {w : World} {o1 o2 o3 o4 : Option Addr} {n1 n2 n3 n4 c1 c2 c3 c4 : Nat} {x1 x2 x3 x4 : List Int} (h1 : Row w o1 x1 ∧ x1.length = n1 ∧ n1 ≤ c1) (h2 : Row w o2 x2 ∧ x2.length = n2 ∧ n2 ≤ c2) (h3 : Row w o3 x3 ∧ x3.length = n3 ∧ n3 ≤ c3) (h4 : Row w o4 x4 ∧ x4.length = n4 ∧ n4 ≤ c4) :
    Four (w.alloc (.cells #[.slice o1 n1 c1, .slice o2 n2 c2, .slice o3 n3 c3, .slice o4 n4 c4] 51)) w.heap.size := by
  intro k hk
  have hb := below_box w (.cells #[.slice o1 n1 c1, .slice o2 n2 c2, .slice o3 n3 c3, .slice o4 n4 c4] 51)
  have hc := cells4 (w := w) (x := .slice o1 n1 c1) (y := .slice o2 n2 c2) (z := .slice o3 n3 c3) (u := .slice o4 n4 c4) hk
  rcases (show k = 0 ∨ k = 1 ∨ k = 2 ∨ k = 3 by omega) with rfl | rfl | rfl | rfl
  · exact ⟨_, _, _, x1, hc, h1.1.below hb (Nat.le_refl _), h1.2.1, h1.2.2⟩
  · exact ⟨_, _, _, x2, hc, h2.1.below hb (Nat.le_refl _), h2.2.1, h2.2.2⟩
  · exact ⟨_, _, _, x3, hc, h3.1.below hb (Nat.le_refl _), h3.2.1, h3.2.2⟩
  · exact ⟨_, _, _, x4, hc, h4.1.below hb (Nat.le_refl _), h4.2.1, h4.2.2⟩
theorem IsRow.le {w : World} {a : Option Addr} {len cap : Nat} {zs : List Int} (h : IsRow .u8 w a len cap zs) : len ≤ cap := by
  rcases h with ⟨_, h2, h3, _⟩ | ⟨a, rfl, h1, h2, h3, h4, h5⟩ <;> omega
end Go.Proofs.YtgjhnkadfdcafaaDoor

/- Plain lemmas on logs: what blocks one behind the other say when they are read; that what was flushed is read again, whatever versions a crash keeps. No Go text here. -/
namespace Go.Proofs.YtgjhnkadfdcafaaDoor
open Go.RowKit
set_option linter.unusedVariables false

/-- The records of block k. -/
def chunk (rs : List R) (k : Nat) : List R := (rs.drop (6 * k)).take 6
theorem length_chunk (rs : List R) (k : Nat) : (chunk rs k).length = min 6 (rs.length - 6 * k) := by simp [chunk]
theorem chunk_take (rs : List R) (k q : Nat) (h : q ≤ 6) : (chunk rs k).take q = (rs.drop (6 * k)).take q := by
  unfold chunk
  rw [List.take_take, Nat.min_eq_left h]
theorem take_chunk (rs : List R) (k q : Nat) (h : q ≤ 6) : rs.take (6 * k) ++ (chunk rs k).take q = rs.take (6 * k + q) := by
  rw [chunk_take rs k q h, List.take_add]
theorem chunk_more (rs ts : List R) (k q : Nat) (h : q ≤ (chunk rs k).length) : (chunk (rs ++ ts) k).take q = (chunk rs k).take q := by
  rw [length_chunk] at h
  rw [chunk_take _ _ _ (by omega), chunk_take _ _ _ (by omega), List.drop_append, List.take_append_of_le_length (by simp; omega)]
theorem chunk_of_take (rs : List R) (m k q : Nat) (hq : q ≤ 6) (h : 6 * k + q ≤ m) : (chunk (rs.take m) k).take q = (chunk rs k).take q := by
  rw [chunk_take _ _ _ hq, chunk_take _ _ _ hq, List.drop_take, List.take_take, Nat.min_eq_left (by omega)]
theorem chunk_self (rs : List R) (k : Nat) : (chunk rs k).take 6 = chunk rs k := by rw [List.take_of_length_le]; rw [length_chunk]; omega
theorem mem_chunk {rs : List R} {k q : Nat} {r : R} (h : r ∈ (chunk rs k).take q) : r ∈ rs := List.mem_of_mem_drop (List.mem_of_mem_take (List.mem_of_mem_take h))

/-- What is read of blocks from k on, at most n of them: the records, and the place of the one that can't be (-1: none). -/
def openUp (rd : Nat → List Int) (ep : Int) : Nat → Nat → Int → List R → List R × Int
  | 0, _, _, acc => (acc, -1)
  | n + 1, k, least, acc =>
    if ansC (rd k) ≠ 0 then ([], (k : Int)) else if (ansR (rd k)).length = 0 then (acc, -1) else if ep ≤ ansN (rd k) then ([], (k : Int)) else if ansN (rd k) < least then (acc, -1) else if (ansR (rd k)).length < 6 then (acc ++ ansR (rd k), -1) else openUp rd ep n (k + 1) (ansN (rd k)) (acc ++ ansR (rd k))
theorem open_none {rd : Nat → List Int} {ep : Int} {n k : Nat} {least : Int} {acc : List R} (h1 : ansC (rd k) = 0) (h2 : ansR (rd k) = []) : openUp rd ep (n + 1) k least acc = (acc, -1) := by
  rw [openUp, if_neg (by simp [h1]), if_pos (by rw [h2]; rfl)]
theorem open_less {rd : Nat → List Int} {ep : Int} {n k : Nat} {least : Int} {acc : List R} (h1 : ansC (rd k) = 0) (h2 : ansN (rd k) < ep) (h3 : ansN (rd k) < least) : openUp rd ep (n + 1) k least acc = (acc, -1) := by
  rw [openUp, if_neg (by simp [h1])]
  by_cases h0 : (ansR (rd k)).length = 0
  · rw [if_pos h0]
  · rw [if_neg h0, if_neg (by omega), if_pos h3]
theorem open_part {rd : Nat → List Int} {ep : Int} {n k : Nat} {least : Int} {acc : List R} (h1 : ansC (rd k) = 0) (h0 : 1 ≤ (ansR (rd k)).length) (h2 : ansN (rd k) < ep) (h3 : least ≤ ansN (rd k)) (h4 : (ansR (rd k)).length < 6) : openUp rd ep (n + 1) k least acc = (acc ++ ansR (rd k), -1) := by
  rw [openUp, if_neg (by simp [h1]), if_neg (by omega), if_neg (by omega), if_neg (by omega), if_pos h4]
theorem open_full {rd : Nat → List Int} {ep : Int} {n k : Nat} {least : Int} {acc : List R} (h1 : ansC (rd k) = 0) (h2 : ansN (rd k) < ep) (h3 : least ≤ ansN (rd k)) (h4 : (ansR (rd k)).length = 6) : openUp rd ep (n + 1) k least acc = openUp rd ep n (k + 1) (ansN (rd k)) (acc ++ ansR (rd k)) := by
  rw [openUp, if_neg (by simp [h1]), if_neg (by omega), if_neg (by omega), if_neg (by omega), if_neg (by omega)]
theorem block_not_zero (e : Int) (rs : List R) (h : rs.length ≤ 6) : zeroB (blockB e rs) = false := blockB_not_zero e rs h _ (length_blockB e rs h) 300 fun i _ => rfl
/-- What a block that may be is read as. -/
theorem ans_block {e : Int} {rs : List R} (he : 1 ≤ e ∧ e ≤ 1073741824) (h0 : 1 ≤ rs.length) (h6 : rs.length ≤ 6) (hg : ∀ r ∈ rs, goodB r = true ∧ r.fits) : ansN (blockB e rs) = e ∧ ansR (blockB e rs) = rs ∧ ansC (blockB e rs) = 0 := by
  obtain ⟨h1, h2, h3⟩ := isBlock_blockB e rs ((okB_iff e rs).2 ⟨⟨he.1, he.2, h0, h6⟩, fun r hr => (hg r hr).1⟩) fun r hr => (hg r hr).2
  have hz := block_not_zero e rs h6
  have hl := length_blockB e rs h6
  rcases ans_cases (blockB e rs) with ⟨q, _⟩ | ⟨_, q, _⟩ | ⟨_, _, _, q1, q2, q3⟩ | ⟨_, _, q, _⟩
  · exact absurd hl q
  · rw [hz] at q; cases q
  · exact ⟨q1.trans h2, q2.trans h3, q3⟩
  · rw [h1] at q; cases q
/-- A sector that no boot from m on has written: zeros, or a block of a boot ahead. -/
def OldV (m : Int) (v : List Int) : Prop := v.length = 256 ∧ (zeroB v = true ∨ (zeroB v = false ∧ isBlock v = true ∧ epochOf v < m))
theorem OldV.mono {m m' : Int} {v : List Int} (h : OldV m v) (hm : m ≤ m') : OldV m' v := ⟨h.1, h.2.imp id fun ⟨a, b, c⟩ => ⟨a, b, by omega⟩⟩
theorem ans_old {m : Int} {v : List Int} (h : OldV m v) : ansC v = 0 ∧ (ansR v = [] ∨ ansN v < m) := by
  rcases ans_cases v with ⟨q, _⟩ | ⟨_, q, _, q2, q3⟩ | ⟨_, hz, hb, q1, q2, q3⟩ | ⟨_, hz, hb, _⟩
  · exact absurd h.1 q
  · exact ⟨q3, .inl q2⟩
  · refine ⟨q3, .inr ?_⟩
    rcases h.2 with h1 | ⟨_, _, h1⟩
    · rw [hz] at h1; cases h1
    · rw [q1]; exact h1
  · rcases h.2 with h1 | ⟨_, h1, _⟩
    · rw [hz] at h1; cases h1
    · rw [hb] at h1; cases h1
/-- A version that the boot ep has written of the records c: some of them, from the first on. -/
def NewV (ep : Int) (c : List R) (v : List Int) : Prop := ∃ q, 1 ≤ q ∧ q ≤ c.length ∧ v = blockB ep (c.take q)
/-- What a block must not be below when it is read as number k. -/
def leastOf (e : Nat → Int) (k : Nat) : Int := if k = 0 then 1 else e (k - 1)
/-- A log on a disk in the boot ep: its records, how many are flushed, each block's versions, and which boot the flushed ones are of. -/
structure Walk (N : Nat) (ep : Int) (rs : List R) (D : Nat) (V : Nat → List (List Int)) (e : Nat → Int) : Prop where
  ep0 : 1 ≤ ep
  ep1 : ep ≤ 1073741824
  good : ∀ r ∈ rs, goodB r = true ∧ r.fits
  len : rs.length ≤ 6 * N
  dle : D ≤ rs.length
  epos : ∀ k, 6 * k < D → 1 ≤ e k ∧ e k ≤ ep
  mono : ∀ k, 6 * (k + 1) < D → e k ≤ e (k + 1)
  full : ∀ k, 6 * (k + 1) ≤ D → ∀ v ∈ V k, v = blockB (e k) (chunk rs k)
  part : ∀ k, 6 * k < D → D < 6 * (k + 1) → ∀ v ∈ V k, v = blockB (e k) ((chunk rs k).take (D - 6 * k)) ∨ ∃ q, D - 6 * k ≤ q ∧ q ≤ (chunk rs k).length ∧ v = blockB ep ((chunk rs k).take q)
  more : ∀ k, D ≤ 6 * k → k < N → ∀ v ∈ V k, NewV ep (chunk rs k) v ∨ OldV (if D = 6 * k then leastOf e k else ep) v
/-- What is read from block k on, of whatever versions: a beginning of the records, with all that was flushed. -/
theorem Walk.reads {N : Nat} {ep : Int} {rs : List R} {D : Nat} {V : Nat → List (List Int)} {e : Nat → Int} (h : Walk N ep rs D V e) (c : Nat → List Int) (hc : ∀ k, k < N → c k ∈ V k) (ep' : Int) (hep : ep < ep') :
    ∀ (n k : Nat) (least : Int), k + n = N → 6 * k ≤ rs.length → (6 * k ≤ D → least = leastOf e k) → (D < 6 * k → least = ep) → 
    ∃ m, D ≤ m ∧ 6 * k ≤ m ∧ m ≤ rs.length ∧ openUp c ep' n k least (rs.take (6 * k)) = (rs.take m, -1) ∧
      (∀ j, k ≤ j → 6 * j < m → c j = blockB (ansN (c j)) ((chunk rs j).take (m - 6 * j)) ∧ 1 ≤ ansN (c j) ∧ ansN (c j) ≤ ep) ∧
      (∀ j, k ≤ j → 6 * (j + 1) < m → ansN (c j) ≤ ansN (c (j + 1))) ∧ (6 * k < m → least ≤ ansN (c k)) ∧
      (∀ j, k ≤ j → j < N → m = 6 * j → OldV (if j = k then least else ansN (c (j - 1))) (c j)) := by
  have hblk : ∀ (k q : Nat) (ε : Int), 1 ≤ ε → ε ≤ ep → 1 ≤ q → q ≤ (chunk rs k).length → c k = blockB ε ((chunk rs k).take q) → ansN (c k) = ε ∧ ansR (c k) = (chunk rs k).take q ∧ ansC (c k) = 0 ∧ (ansR (c k)).length = q := by
    intro k q ε h0 h1 h2 h3 h4
    have hl := length_chunk rs k
    have e1 : ((chunk rs k).take q).length = q := by rw [List.length_take]; omega
    obtain ⟨a1, a2, a3⟩ := ans_block (e := ε) (rs := (chunk rs k).take q) ⟨h0, by have := h.ep1; omega⟩ (by omega) (by omega) fun r hr => h.good r (mem_chunk hr)
    rw [← h4] at a1 a2 a3
    exact ⟨a1, a2, a3, by rw [a2, e1]⟩
  intro n
  induction n with
  | zero =>
    intro k least hk hkr hA hB
    have hl := h.len
    have hd := h.dle
    have e1 : rs.length = 6 * k := by omega
    refine ⟨6 * k, by omega, Nat.le_refl _, by omega, rfl, ?_, ?_, ?_, ?_⟩
    · intro j h1 h2; omega
    · intro j h1 h2; omega
    · intro h1; omega
    · intro j h1 h2; omega
  | succ n ih =>
    intro k least hk hkr hA hB
    have hkN : k < N := by omega
    have hv := hc k hkN
    have hlc := length_chunk rs k
    have hdl := h.dle
    -- the block is read as q records of the boot ε, and is not below 'least'
    have key : ∀ (q : Nat) (ε : Int), 1 ≤ ε → ε ≤ ep → 1 ≤ q → q ≤ (chunk rs k).length → c k = blockB ε ((chunk rs k).take q) → least ≤ ε → D ≤ 6 * k + q ∨ q = 6 → (q = 6 → 6 * (k + 1) ≤ D → ε = e k) → (q = 6 → D < 6 * (k + 1) → ε = ep) →
        ∃ m, D ≤ m ∧ 6 * k ≤ m ∧ m ≤ rs.length ∧ openUp c ep' (n + 1) k least (rs.take (6 * k)) = (rs.take m, -1) ∧
      (∀ j, k ≤ j → 6 * j < m → c j = blockB (ansN (c j)) ((chunk rs j).take (m - 6 * j)) ∧ 1 ≤ ansN (c j) ∧ ansN (c j) ≤ ep) ∧
      (∀ j, k ≤ j → 6 * (j + 1) < m → ansN (c j) ≤ ansN (c (j + 1))) ∧ (6 * k < m → least ≤ ansN (c k)) ∧
      (∀ j, k ≤ j → j < N → m = 6 * j → OldV (if j = k then least else ansN (c (j - 1))) (c j)) := by
      intro q ε h0 h1 h2 h3 h4 h5 h6 h7 h8
      obtain ⟨a1, a2, a3, a4⟩ := hblk k q ε h0 h1 h2 h3 h4
      by_cases hq : q < 6
      · refine ⟨6 * k + q, by omega, by omega, by omega, ?_, ?_, ?_, fun _ => by rw [a1]; exact h5, ?_⟩
        · rw [open_part a3 (by omega) (by omega) (by omega) (by omega), a2, take_chunk rs k q (by omega)]
        · intro j hj hjm
          have hjk : j = k := by omega
          subst hjk
          rw [a1, show 6 * j + q - 6 * j = q by omega]
          exact ⟨h4, h0, h1⟩
        · intro j hj hjm; omega
        · intro j hj hjN hjm; omega
      · have hq6 : q = 6 := by omega
        subst hq6
        have hkr2 : 6 * (k + 1) ≤ rs.length := by omega
        obtain ⟨m, m1, m2, m3, m4, m5, m6, m7, m8⟩ := ih (k + 1) ε (by omega) hkr2 (fun hd => by
            rw [leastOf, if_neg (by omega)]
            exact h7 rfl hd) (fun hd => h8 rfl hd)
        refine ⟨m, m1, by omega, m3, ?_, ?_, ?_, fun _ => by rw [a1]; exact h5, ?_⟩
        · rw [open_full a3 (by omega) (by omega) a4, a1, a2, take_chunk rs k 6 (by omega), show 6 * k + 6 = 6 * (k + 1) by omega]
          exact m4
        · intro j hj hjm
          by_cases hjk : j = k
          · subst hjk
            rw [a1]
            refine ⟨?_, h0, h1⟩
            rw [h4]
            congr 1
            rw [List.take_of_length_le (by omega), List.take_of_length_le (by omega)]
          · exact m5 j (by omega) hjm
        · intro j hj hjm
          by_cases hjk : j = k
          · subst hjk
            rw [a1]
            exact m7 (by omega)
          · exact m6 j (by omega) hjm
        · intro j hj hjN hjm
          by_cases hjk : j = k
          · omega
          · rw [if_neg hjk]
            have h9 := m8 j (by omega) hjN hjm
            by_cases hj1 : j = k + 1
            · rw [if_pos hj1] at h9
              rw [show j - 1 = k by omega, a1]
              exact h9
            · rw [if_neg hj1] at h9
              exact h9
    have hlo : ∀ ε, 6 * k < D → ε = e k ∨ ε = ep → least ≤ ε := by
      intro ε hd he
      have hpk := h.epos k hd
      have hle : least ≤ e k := by
        rw [hA (by omega), leastOf]
        split
        · exact hpk.1
        · rename_i hk0
          have := h.mono (k - 1) (by rw [show k - 1 + 1 = k by omega]; exact hd)
          rwa [show k - 1 + 1 = k by omega] at this
      rcases he with rfl | rfl
      · exact hle
      · exact Int.le_trans hle hpk.2
    by_cases hf : 6 * (k + 1) ≤ D
    · have hpk := h.epos k (by omega)
      have hv1 := h.full k hf _ hv
      refine key 6 (e k) hpk.1 hpk.2 (by omega) (by omega) ?_ (hlo _ (by omega) (.inl rfl)) (.inr rfl) (fun _ _ => rfl) (fun _ hd => by omega)
      rw [chunk_self]
      exact hv1
    · by_cases hp : 6 * k < D
      · have hpk := h.epos k hp
        rcases h.part k hp (by omega) _ hv with hv1 | ⟨q, q1, q2, hv1⟩
        · exact key (D - 6 * k) (e k) hpk.1 hpk.2 (by omega) (by omega) hv1 (hlo _ hp (.inl rfl)) (.inl (by omega)) (fun hq _ => by omega) (fun hq _ => by omega)
        · exact key q ep h.ep0 (Int.le_refl _) (by omega) q2 hv1 (hlo _ hp (.inr rfl)) (.inl (by omega)) (fun hq hd => by omega) (fun _ _ => rfl)
      · have hle : least ≤ ep := by
          by_cases hd : D = 6 * k
          · rw [hA (by omega), leastOf]
            split
            · exact h.ep0
            · exact (h.epos (k - 1) (by omega)).2
          · rw [hB (by omega)]; exact Int.le_refl _
        rcases h.more k (by omega) hkN _ hv with ⟨q, q1, q2, hv1⟩ | hold
        · exact key q ep h.ep0 (Int.le_refl _) q1 q2 hv1 hle (.inl (by omega)) (fun hq hd => by omega) (fun _ _ => rfl)
        · have hold2 : OldV least (c k) := by
            by_cases hd : D = 6 * k
            · rw [if_pos hd] at hold
              rw [hA (by omega)]
              exact hold
            · rw [if_neg hd] at hold
              rw [hB (by omega)]
              exact hold
          obtain ⟨a1, a2⟩ := ans_old hold2
          refine ⟨6 * k, by omega, Nat.le_refl _, hkr, ?_, ?_, ?_, fun h1 => by omega, ?_⟩
          · rcases a2 with a2 | a2
            · exact open_none a1 a2
            · exact open_less a1 (by omega) a2
          · intro j h1 h2; omega
          · intro j h1 h2; omega
          · intro j h1 h2 h3
            have hjk : j = k := by omega
            rw [if_pos hjk, hjk]
            exact hold2
end Go.Proofs.YtgjhnkadfdcafaaDoor

/- Plain lemmas on logs: records appended, blocks written, a Sync, a log opened again: each leaves a log as it should be. No Go text here. -/
namespace Go.Proofs.YtgjhnkadfdcafaaDoor
open Go.RowKit
set_option linter.unusedVariables false

theorem chunk_grown {rs ts : List R} {k : Nat} (h : 6 * (k + 1) ≤ rs.length) : chunk (rs ++ ts) k = chunk rs k := by
  have h1 := chunk_more rs ts k 6 (by rw [length_chunk]; omega)
  rwa [chunk_self, chunk_self] at h1
theorem length_chunk_le (rs ts : List R) (k : Nat) : (chunk rs k).length ≤ (chunk (rs ++ ts) k).length := by
  rw [length_chunk, length_chunk, List.length_append]
  omega
/-- Records are appended. -/
theorem Walk.append {N : Nat} {ep : Int} {rs : List R} {D : Nat} {V : Nat → List (List Int)} {e : Nat → Int} (h : Walk N ep rs D V e) (ts : List R) (hg : ∀ r ∈ ts, goodB r = true ∧ r.fits) (hl : rs.length + ts.length ≤ 6 * N) : Walk N ep (rs ++ ts) D V e := by
  have hd := h.dle
  refine ⟨h.ep0, h.ep1, fun r hr => ?_, by rw [List.length_append]; omega, by rw [List.length_append]; omega, h.epos, h.mono, fun k hk v hv => ?_, fun k h1 h2 v hv => ?_, fun k h1 h2 v hv => ?_⟩
  · rcases List.mem_append.1 hr with h1 | h1
    · exact h.good r h1
    · exact hg r h1
  · rw [chunk_grown (by omega)]
    exact h.full k hk v hv
  · have hc := length_chunk rs k
    have hm := length_chunk_le rs ts k
    rcases h.part k h1 h2 v hv with h3 | ⟨q, q1, q2, h3⟩
    · refine .inl ?_
      rw [chunk_more rs ts k _ (by omega)]
      exact h3
    · refine .inr ⟨q, q1, by omega, ?_⟩
      rw [chunk_more rs ts k q q2]
      exact h3
  · have hm := length_chunk_le rs ts k
    rcases h.more k h1 h2 v hv with ⟨q, q1, q2, h3⟩ | h3
    · refine .inl ⟨q, q1, by omega, ?_⟩
      rw [chunk_more rs ts k q q2]
      exact h3
    · exact .inr h3
/-- One block's versions, one more. -/
def addV (V : Nat → List (List Int)) (k : Nat) (b : List Int) (j : Nat) : List (List Int) := if j = k then V k ++ [b] else V j
theorem mem_addV {V : Nat → List (List Int)} {k j : Nat} {b v : List Int} (h : v ∈ addV V k b j) : v ∈ V j ∨ (j = k ∧ v = b) := by
  unfold addV at h
  split at h
  · rename_i hj
    rcases List.mem_append.1 h with h1 | h1
    · exact .inl (by rw [hj]; exact h1)
    · exact .inr ⟨hj, List.mem_singleton.1 h1⟩
  · exact .inl h
/-- A block that is not flushed whole is written, with all its records. -/
theorem Walk.write {N : Nat} {ep : Int} {rs : List R} {D : Nat} {V : Nat → List (List Int)} {e : Nat → Int} (h : Walk N ep rs D V e) (k : Nat) (h1 : D < 6 * (k + 1)) (h2 : 6 * k < rs.length) : Walk N ep rs D (addV V k (blockB ep (chunk rs k))) e := by
  have hd := h.dle
  have hl := length_chunk rs k
  refine ⟨h.ep0, h.ep1, h.good, h.len, h.dle, h.epos, h.mono, fun j hj v hv => ?_, fun j hj hj2 v hv => ?_, fun j hj hj2 v hv => ?_⟩
  · rcases mem_addV hv with h3 | ⟨h3, _⟩
    · exact h.full j hj v h3
    · omega
  · rcases mem_addV hv with h3 | ⟨rfl, h3⟩
    · exact h.part j hj hj2 v h3
    · exact .inr ⟨(chunk rs j).length, by omega, Nat.le_refl _, by rw [h3, List.take_length]⟩
  · rcases mem_addV hv with h3 | ⟨rfl, h3⟩
    · exact h.more j hj hj2 v h3
    · exact .inl ⟨(chunk rs j).length, by omega, Nat.le_refl _, by rw [h3, List.take_length]⟩
/-- All that is not flushed has been written; then the last versions are the fast ones. -/
theorem Walk.sync {N : Nat} {ep : Int} {rs : List R} {D : Nat} {V V' : Nat → List (List Int)} {e : Nat → Int} (h : Walk N ep rs D V e) (hnew : ∀ k, D < 6 * (k + 1) → 6 * k < rs.length → V' k = [blockB ep (chunk rs k)]) (hold : ∀ k, k < N → ∃ v ∈ V k, V' k = [v]) : Walk N ep rs rs.length V' (fun k => if D < 6 * (k + 1) then ep else e k) := by
  have hd := h.dle
  have hln := h.len
  refine ⟨h.ep0, h.ep1, h.good, h.len, Nat.le_refl _, fun k hk => ?_, fun k hk => ?_, fun k hk v hv => ?_, fun k h1 h2 v hv => ?_, fun k h1 h2 v hv => ?_⟩
  · show 1 ≤ (if D < 6 * (k + 1) then ep else e k) ∧ (if D < 6 * (k + 1) then ep else e k) ≤ ep
    split
    · exact ⟨h.ep0, Int.le_refl _⟩
    · exact h.epos k (by omega)
  · show (if D < 6 * (k + 1) then ep else e k) ≤ (if D < 6 * (k + 1 + 1) then ep else e (k + 1))
    by_cases h1 : D < 6 * (k + 1)
    · rw [if_pos h1, if_pos (by omega)]
      exact Int.le_refl _
    · rw [if_neg h1]
      by_cases h2 : D < 6 * (k + 1 + 1)
      · rw [if_pos h2]
        exact (h.epos k (by omega)).2
      · rw [if_neg h2]
        exact h.mono k (by omega)
  · show v = blockB (if D < 6 * (k + 1) then ep else e k) (chunk rs k)
    by_cases h1 : D < 6 * (k + 1)
    · rw [if_pos h1]
      rw [hnew k h1 (by omega)] at hv
      exact List.mem_singleton.1 hv
    · rw [if_neg h1]
      obtain ⟨u, hu, e1⟩ := hold k (by omega)
      rw [e1] at hv
      rw [List.mem_singleton.1 hv]
      exact h.full k (by omega) u hu
  · refine .inl ?_
    show v = blockB (if D < 6 * (k + 1) then ep else e k) _
    rw [if_pos (by omega)]
    rw [hnew k (by omega) h1] at hv
    rw [List.mem_singleton.1 hv, List.take_of_length_le (by rw [length_chunk]; omega)]
  · obtain ⟨u, hu, e1⟩ := hold k h2
    rw [e1] at hv
    have hvu := List.mem_singleton.1 hv
    subst hvu
    have hc := length_chunk rs k
    rcases h.more k (by omega) h2 v hu with ⟨q, q1, q2, _⟩ | h3
    · omega
    · refine .inr ?_
      by_cases h4 : rs.length = 6 * k
      · rw [if_pos h4]
        by_cases h5 : D = 6 * k
        · rw [if_pos h5] at h3
          refine h3.mono ?_
          unfold leastOf
          split
          · exact Int.le_refl _
          · rename_i hk0
            show e (k - 1) ≤ (if D < 6 * (k - 1 + 1) then ep else e (k - 1))
            rw [if_neg (by omega)]
            exact Int.le_refl _
        · rw [if_neg h5] at h3
          unfold leastOf
          rw [if_neg (by omega)]
          show OldV (if D < 6 * (k - 1 + 1) then ep else e (k - 1)) v
          rw [if_pos (by omega)]
          exact h3
      · rw [if_neg h4]
        rw [if_neg (by omega)] at h3
        exact h3
/-- A block of a boot ahead of m is an elder one. -/
theorem old_block {ε m : Int} {c : List R} (h0 : 1 ≤ ε) (h1 : ε < m) (h2 : ε ≤ 1073741824) (h3 : 1 ≤ c.length) (h4 : c.length ≤ 6) (hg : ∀ r ∈ c, goodB r = true ∧ r.fits) : OldV m (blockB ε c) := by
  obtain ⟨b1, b2, b3⟩ := isBlock_blockB ε c ((okB_iff ε c).2 ⟨⟨h0, h2, h3, h4⟩, fun r hr => (hg r hr).1⟩) fun r hr => (hg r hr).2
  exact ⟨length_blockB ε c h4, .inr ⟨block_not_zero ε c h4, b1, by rw [b2]; exact h1⟩⟩
/-- Whatever lies there is zeros, or a block of this boot or one ahead. -/
theorem Walk.old {N : Nat} {ep : Int} {rs : List R} {D : Nat} {V : Nat → List (List Int)} {e : Nat → Int} (h : Walk N ep rs D V e) {k : Nat} (hk : k < N) {v : List Int} (hv : v ∈ V k) {m : Int} (hm : ep < m) : OldV m v := by
  have hd := h.dle
  have hc := length_chunk rs k
  have hb : ∀ (q : Nat) (ε : Int), 1 ≤ ε → ε ≤ ep → 1 ≤ q → q ≤ (chunk rs k).length → OldV m (blockB ε ((chunk rs k).take q)) := fun q ε h0 h1 h2 h3 =>
    old_block h0 (by omega) (by have := h.ep1; omega) (by rw [List.length_take]; omega) (by rw [List.length_take]; omega) fun r hr => h.good r (mem_chunk hr)
  by_cases h1 : 6 * (k + 1) ≤ D
  · have hp := h.epos k (by omega)
    rw [h.full k h1 v hv, ← chunk_self]
    exact hb 6 (e k) hp.1 hp.2 (by omega) (by omega)
  · by_cases h2 : 6 * k < D
    · have hp := h.epos k h2
      rcases h.part k h2 (by omega) v hv with h3 | ⟨q, q1, q2, h3⟩
      · rw [h3]; exact hb _ _ hp.1 hp.2 (by omega) (by omega)
      · rw [h3]; exact hb q ep h.ep0 (Int.le_refl _) (by omega) q2
    · rcases h.more k (by omega) hk v hv with ⟨q, q1, q2, h3⟩ | h3
      · rw [h3]; exact hb q ep h.ep0 (Int.le_refl _) q1 q2
      · refine h3.mono ?_
        split
        · unfold leastOf
          split
          · have := h.ep0; omega
          · have := (h.epos (k - 1) (by omega)).2; omega
        · omega
/-- Opened as a later boot, whatever versions were kept: the beginning of its records that has all that were flushed; it is again a log as it should be. -/
theorem Walk.opened {N : Nat} {ep : Int} {rs : List R} {D : Nat} {V : Nat → List (List Int)} {e : Nat → Int} (h : Walk N ep rs D V e) (c : Nat → List Int) (hc : ∀ k, k < N → c k ∈ V k) (ep' : Int) (hep : ep < ep') (hep' : ep' ≤ 1073741824) :
    ∃ m, D ≤ m ∧ m ≤ rs.length ∧ openUp c ep' N 0 1 [] = (rs.take m, -1) ∧ Walk N ep' (rs.take m) m (fun k => [c k]) (fun k => ansN (c k)) := by
  obtain ⟨m, m1, _, m3, m4, m5, m6, _, m8⟩ := h.reads c hc ep' hep N 0 1 (by omega) (by omega) (fun _ => rfl) (fun hh => by omega)
  have hln := h.len
  have hlm : (rs.take m).length = m := by rw [List.length_take]; omega
  refine ⟨m, m1, m3, by simpa using m4, ⟨by have := h.ep0; omega, hep', fun r hr => h.good r (List.mem_of_mem_take hr), by omega, by omega, fun k hk => ?_, fun k hk => m6 k (by omega) hk, fun k hk v hv => ?_, fun k h1 h2 v hv => ?_, fun k h1 h2 v hv => ?_⟩⟩
  · obtain ⟨_, h1, h2⟩ := m5 k (by omega) hk
    exact ⟨h1, by omega⟩
  · rw [List.mem_singleton.1 hv]
    obtain ⟨h1, _, _⟩ := m5 k (by omega) (by omega)
    have h2 := chunk_of_take rs m k 6 (by omega) (by omega)
    rw [chunk_self, chunk_self] at h2
    rw [List.take_of_length_le (by rw [length_chunk]; omega)] at h1
    rw [h2]
    exact h1
  · refine .inl ?_
    rw [List.mem_singleton.1 hv, chunk_of_take rs m k (m - 6 * k) (by omega) (by omega)]
    exact (m5 k (by omega) h1).1
  · refine .inr ?_
    rw [List.mem_singleton.1 hv]
    by_cases hm : m = 6 * k
    · rw [if_pos hm]
      have h3 := m8 k (by omega) h2 hm
      unfold leastOf
      exact h3
    · rw [if_neg hm]
      exact h.old h2 (hc k h2) hep
/-- A log without records, on a disk of zeros. -/
theorem walk_new (N : Nat) (V : Nat → List (List Int)) (e : Nat → Int) (hV : ∀ k, k < N → ∀ v ∈ V k, v.length = 256 ∧ zeroB v = true) : Walk N 1 [] 0 V e :=
  ⟨by omega, by omega, fun r hr => by simp at hr, by simp, Nat.le_refl _, fun k hk => by omega, fun k hk => by omega, fun k hk => by omega, fun k hk => by omega, fun k _ h2 v hv => .inr ⟨(hV k h2 v hv).1, .inl (hV k h2 v hv).2⟩⟩
/-- The same versions, told otherwise. -/
theorem Walk.congr {N : Nat} {ep : Int} {rs : List R} {D : Nat} {V V' : Nat → List (List Int)} {e : Nat → Int} (h : Walk N ep rs D V e) (hV : ∀ k, k < N → V' k = V k) : Walk N ep rs D V' e := by
  have hd := h.dle
  have hl := h.len
  refine ⟨h.ep0, h.ep1, h.good, h.len, h.dle, h.epos, h.mono, fun k hk v hv => ?_, fun k h1 h2 v hv => ?_, fun k h1 h2 v hv => ?_⟩
  · rw [hV k (by omega)] at hv; exact h.full k hk v hv
  · rw [hV k (by omega)] at hv; exact h.part k h1 h2 v hv
  · rw [hV k h2] at hv; exact h.more k h1 h2 v hv
end Go.Proofs.YtgjhnkadfdcafaaDoor

/- What the methods of a disk's sector, and bytes.Clone, do to memory, at every sector and every list of bytes. -/
namespace Go.Proofs.YtgjhnkadfdcafaaDoor
open Go.RowKit
set_option linter.unusedVariables false

theorem Tryd.info51 : (Tryd.prog.info? 51).map (fun i => (i.zero, i.size, i.bytes)) = some (some (.slice none 0 0), 1, 24) := by kernel_rfl

set_option maxRecDepth 100000 in
set_option maxHeartbeats 400000 in
theorem loose_any (b o : Nat) (ao : Option Addr) (n cap : Nat) (w : World) (hc : w.cell? ⟨b, o, none⟩ = some (.slice ao n cap)) (hn : n ≤ 4294967296) :
    Calls Tryd.prog 59 #[.pointer (some ⟨b, o, none⟩)] w fun e w' => e = .returned (.int .i64 ((n : Int) - 1)) ∧ w' = w := by
  go_enter Tryd.func59, Tryd.ntmps59
  go_wp2_with fail
  go_ret
  exact ⟨rfl, rfl⟩

set_option maxRecDepth 100000 in
set_option maxHeartbeats 400000 in
theorem last_any (b o g off : Nat) (n cap : Nat) (v : Value) (w : World) (hc : w.cell? ⟨b, o, none⟩ = some (.slice (some ⟨g, off, none⟩) (n + 1) cap)) (hn : n + 1 ≤ 4294967296) (hv : w.cell? ⟨g, off + n, none⟩ = some v) :
    Calls Tryd.prog 66 #[.pointer (some ⟨b, o, none⟩)] w fun e w' => e = .returned v ∧ ∃ m, w' = w.drewN m := by
  go_enter Tryd.func66, Tryd.ntmps66
  go_wp2_with fail
  have h1 : (0 : Int) ≤ ((n + 1 : Nat) : Int) - 1 := by omega
  have h2 : ((n + 1 : Nat) : Int) - 1 < ((n + 1 : Nat) : Int) := by omega
  have h3 : (((n + 1 : Nat) : Int) - 1).toNat = n := by omega
  go_quiet ((go_at_call 59; exact Calls.quiet_of_same (loose_any _ _ _ _ _ _ (by assumption) (by omega))))
  go_wp2_with fail
  go_ret
  exact ⟨rfl, _, rfl⟩

set_option maxRecDepth 100000 in
set_option maxHeartbeats 400000 in
theorem keep_any (b o g off : Nat) (n cap k : Nat) (xo : Option Addr) (xl xc : Nat) (w : World) (hc : w.cell? ⟨b, o, none⟩ = some (.slice (some ⟨g, off, none⟩) n cap)) (hf : w.frozen? ⟨b, o, none⟩ = false) (hn : n ≤ 4294967296) (hk : k < n) (hv : w.cell? ⟨g, off + k, none⟩ = some (.slice xo xl xc)) :
    Calls Tryd.prog 35 #[.pointer (some ⟨b, o, none⟩), .int .i64 k] w fun e w' => e = .returned (.tuple #[]) ∧ w' = (w.setCell ⟨b, o, none⟩ (.slice (some ⟨w.heap.size, 0, none⟩) 1 1)).alloc (.cells #[.slice xo xl xc] 51) := by
  have hb := World.block_lt_of_cell? w _ hc
  simp only at hb
  have h1 : (k : Int) < (n : Int) := by omega
  go_enter Tryd.func35, Tryd.ntmps35
  go_wp2_with fail
  go_end0
  exact ⟨rfl, rfl⟩

set_option maxRecDepth 100000 in
set_option maxHeartbeats 400000 in
theorem clone_any (ao : Option Addr) (cap : Nat) (xs : List Int) (w : World) (h : Row w ao xs) (hp : 0 < xs.length) :
    Calls Tryd.prog 44 #[.slice ao xs.length cap] w fun e w' => ∃ g c, e = .returned (.slice (some ⟨g, 0, none⟩) xs.length c) ∧ w.heap.size ≤ g ∧ Own w' w.heap.size (some ⟨g, 0, none⟩) c xs ∧ Below w.heap.size w w' := by
  obtain ⟨i0, hi, hz0, hz1, hz2⟩ := info_parts Tryd.info5
  have HR := hide h
  obtain ⟨h0, h1, h2⟩ := h
  obtain ⟨b, off, rfl, hb, hc⟩ := h2 hp
  have HC := hide hc
  clear hc h2
  have hE := fun w' => Lib.run_eql_slice_nil (P := Tryd.prog) w' 51 5 (some ⟨b, off, none⟩) xs.length cap 0 0 Tryd.underlying51
  have hsrc : ∀ j u, (cellsOf xs)[j]? = some u → (w.alloc (.cells #[] 5)).cell? ((⟨b, off, none⟩ : Addr).add j) = some u := by
    intro j u hj
    obtain ⟨hlt, rfl⟩ := cellsOf_at hj
    rw [Addr.add_lit, ((Below.refl w.heap.size w).alloc (Nat.le_refl _) _).cell (by exact hb)]
    exact HC.out j hlt
  have HS := hide hsrc
  clear hsrc
  have hown : (w.alloc (.cells #[] 5)).ownsRow w.heap.size 5 1 (.slice (some ⟨w.heap.size, 0, none⟩) 0 0) 0 [] := World.ownsRow_made w #[] 0 (Nat.le_refl _) (by decide) (by simp)
  have HW := hide hown
  clear hown
  go_enter Tryd.func44, Tryd.ntmps44
  go_wp2_with (at_builtin; refine wpList_append_own_at _ rfl (.tmp 5) (.tmp 6) 51 rfl w.heap.size 5 i0 (.int .u8 0) 1 1 Tryd.underlying51 hi hz0 hz1 hz2 rfl (by decide) _ 0 [] rfl HW.out ⟨b, off, none⟩ xs.length cap (cellsOf xs) rfl (by rw [length_cellsOf, Nat.mul_one]) HS.out (oneCell_cellsOf xs) (by unfold maxLen; omega) (by omega) (by simp) ?_; intro v' w2 hown2 hgr2 _ _; have HO2 := hide hown2; have HG2 := hide hgr2; clear hown2 hgr2)
  go_ret
  have h3 := HO2.out
  rw [Nat.zero_add, List.nil_append] at h3
  obtain ⟨ao', c', rfl⟩ := own_shape h3
  have h4 : Own w2 w.heap.size ao' c' xs := ⟨h3, h1, h0⟩
  rcases h3.2 with ⟨e, h5⟩ | ⟨g, c, cur, hv, hg, _⟩
  · omega
  · simp only [Value.slice.injEq, true_and] at hv
    obtain ⟨rfl, rfl⟩ := hv
    exact ⟨g, _, rfl, hg, h4, ((Below.refl _ _).alloc (Nat.le_refl _) _).grown HG2.out (by simp) (fun j e => by cases e; exact Nat.le_refl _)⟩

theorem grown_alloc_at {w w2 : World} {x : Obj} {r : Option Nat} (h : (w.alloc x).grownBy w2 r) {b : Nat} (hb : b < w.heap.size) (hne : r ≠ some b) : w2.heap[b]? = w.heap[b]? :=
  (h.block b (Nat.lt_of_lt_of_le hb (by simp)) (fun e => hne e.symm)).trans (Below.heap_alloc _ _ _ hb)
set_option maxRecDepth 100000 in
set_option maxHeartbeats 400000 in
theorem add_any (b o : Nat) (v : Value) (n : Nat) (xs : List Value) (xo : Option Addr) (xl xc : Nat) (B : Nat) (w : World) (hc : w.cell? ⟨b, o, none⟩ = some v) (hf : w.frozen? ⟨b, o, none⟩ = false) (hn : n + 1 ≤ 4294967296) (ho : w.ownsRow B 51 1 v n xs) (hB : B ≤ w.heap.size) (hne : v.ownBlock ≠ some b) :
    Calls Tryd.prog 30 #[.pointer (some ⟨b, o, none⟩), .slice xo xl xc] w fun e w' => e = .returned (.tuple #[]) ∧ ∃ w1 v', w' = w1.setCell ⟨b, o, none⟩ v' ∧ w1.ownsRow B 51 1 v' (n + 1) (xs ++ [.slice xo xl xc]) ∧ w.grownBy w1 v.ownBlock ∧ (v'.ownBlock = v.ownBlock ∨ ∃ g, v'.ownBlock = some g ∧ w.heap.size ≤ g) := by
  obtain ⟨i0, hi, hz0, hz1, hz2⟩ := info_parts Tryd.info51
  obtain ⟨ao, cap, rfl⟩ := own_shape ho
  have HO := hide ho
  clear ho
  have hb := World.block_lt_of_cell? w _ hc
  simp only at hb
  go_enter Tryd.func30, Tryd.ntmps30
  go_wp2_with (at_builtin; refine wpList_append_own_at _ rfl (.tmp 8) (.tmp 10) 67 rfl B 51 i0 (.slice none 0 0) 1 24 Tryd.underlying67 hi hz0 hz1 hz2 rfl (by decide) (.slice ao n cap) n xs rfl (HO.out.alloc _) ⟨w.heap.size, 0, none⟩ 1 1 [.slice xo xl xc] rfl rfl (cell_one_new _ _ _) (by simp [Value.oneCell']) (by unfold maxLen; omega) (by omega) (by simp; omega) ?_; intro v' w2 hown2 hgr2 _ hat2; obtain ⟨ao', c', rfl⟩ := own_shape hown2; have hc2 : w2.cell? ⟨b, o, none⟩ = some (.slice ao n cap) := (World.cell?_of_block (w := w) (grown_alloc_at hgr2 hb hne)).trans hc; have hf2 : w2.frozen? ⟨b, o, none⟩ = false := (World.frozen?_of_block (w := w) (grown_alloc_at hgr2 hb hne)).trans hf; have HO2 := hide hown2; have HG2 := hide hgr2; have HA2 := hide hat2; clear hown2 hgr2 hat2)
  go_end0
  refine ⟨rfl, w2, _, rfl, HO2.out, ?_, ?_⟩
  · exact ⟨HG2.out.os, HG2.out.tape, HG2.out.output, by have := HG2.out.size; simp at this; omega, fun k hk e => (HG2.out.block k (by simp; omega) e).trans (Below.heap_alloc _ _ _ hk)⟩
  · rcases HA2.out with h | h
    · exact .inl h
    · exact .inr ⟨_, h, by simp⟩
end Go.Proofs.YtgjhnkadfdcafaaDoor

/- What a disk is in memory: its sectors, each with its versions, and what stays of it while other memory turns. -/
namespace Go.Proofs.YtgjhnkadfdcafaaDoor
open Go.RowKit
set_option linter.unusedVariables false

/-- Of the blocks that K names nothing has turned; no block has gone. -/
structure Kept (K : Nat → Prop) (w w' : World) : Prop where
  os : w'.os = w.os
  tape : w'.tape = w.tape
  output : w'.output = w.output
  size : w.heap.size ≤ w'.heap.size
  block : ∀ k, K k → w'.heap[k]? = w.heap[k]?
theorem Kept.refl (K : Nat → Prop) (w : World) : Kept K w w := ⟨rfl, rfl, rfl, Nat.le_refl _, fun _ _ => rfl⟩
theorem Kept.trans {K : Nat → Prop} {a b c : World} (h : Kept K a b) (k : Kept K b c) : Kept K a c :=
  ⟨k.os.trans h.os, k.tape.trans h.tape, k.output.trans h.output, Nat.le_trans h.size k.size, fun i hi => (k.block i hi).trans (h.block i hi)⟩
theorem Kept.mono {K L : Nat → Prop} {w w' : World} (h : Kept K w w') (hL : ∀ k, L k → K k) : Kept L w w' := ⟨h.os, h.tape, h.output, h.size, fun k hk => h.block k (hL k hk)⟩
theorem Kept.of_below {K : Nat → Prop} {B : Nat} {w w' : World} (h : Below B w w') (hK : ∀ k, K k → k < B) : Kept K w w' := ⟨h.os, h.tape, h.output, h.size, fun k hk => h.block k (hK k hk)⟩
theorem Kept.below {K : Nat → Prop} {B : Nat} {w w' : World} (h : Kept K w w') (hK : ∀ k, k < B → K k) : Below B w w' := ⟨h.os, h.tape, h.output, h.size, fun k hk => h.block k (hK k hk)⟩
theorem Kept.cell {K : Nat → Prop} {w w' : World} (h : Kept K w w') {p : Addr} (hp : K p.block) : w'.cell? p = w.cell? p := World.cell?_of_block (w := w) (h.block p.block hp)
theorem Kept.frozen {K : Nat → Prop} {w w' : World} (h : Kept K w w') {p : Addr} (hp : K p.block) : w'.frozen? p = w.frozen? p := World.frozen?_of_block (w := w) (h.block p.block hp)
theorem Kept.drewN {K : Nat → Prop} {w w' : World} (h : Kept K w w') (n : Nat) : Kept K w (w'.drewN n) := h.trans ⟨rfl, rfl, rfl, Nat.le_refl _, fun _ _ => rfl⟩
theorem Kept.over {K : Nat → Prop} {w w1 w2 : World} (h : Kept K w w1) (hK : ∀ k, K k → k < w1.heap.size) (hb : Below w1.heap.size w1 w2) : Kept K w w2 := h.trans (Kept.of_below hb hK)

/-- A row that is owned stays owned where its block stays. -/
theorem owns_of_block {w w' : World} {B e sz n : Nat} {v : Value} {xs : List Value} (h : w.ownsRow B e sz v n xs) (hb : ∀ g, v.ownBlock = some g → g < w.heap.size → w'.heap[g]? = w.heap[g]?) : w'.ownsRow B e sz v n xs := by
  refine ⟨h.1, ?_⟩
  rcases h.2 with h | ⟨g, cap, cur, rfl, hg, hh, r⟩
  · exact .inl h
  · exact .inr ⟨g, cap, cur, rfl, hg, by rw [hb g rfl (lt_of_block hh)]; exact hh, r⟩
/-- The block of a row that is owned holds its kind of cells. -/
theorem owns_type {w : World} {B e sz n : Nat} {v : Value} {xs : List Value} (h : w.ownsRow B e sz v n xs) {g : Nat} (hg : v.ownBlock = some g) : ∃ cur, w.heap[g]? = some (.cells cur e (0, 0)) := by
  rcases h.2 with ⟨rfl, _⟩ | ⟨g', cap, cur, rfl, _, hh, _⟩
  · simp [Value.ownBlock] at hg
  · simp only [Value.ownBlock, Option.some.injEq] at hg
    subst hg
    exact ⟨cur, hh⟩
theorem Own.of_block {w w' : World} {B : Nat} {ao : Option Addr} {cap : Nat} {xs : List Int} (h : Own w B ao cap xs) (hb : ∀ g, (Value.slice ao xs.length cap).ownBlock = some g → g < w.heap.size → w'.heap[g]? = w.heap[g]?) : Own w' B ao cap xs := ⟨owns_of_block h.1 hb, h.2⟩

/-- A sector: the value that holds its versions, and what they are. -/
structure Sec where
  v : Value
  vs : List Part
def Sec.isIn (w : World) (K : Nat → Prop) (s : Sec) : Prop :=
  w.ownsRow 0 51 1 s.v s.vs.length (s.vs.map Part.val) ∧ 1 ≤ s.vs.length ∧ s.vs.length ≤ 4294967296 ∧ (∀ g, s.v.ownBlock = some g → ¬ K g) ∧
  ∀ p ∈ s.vs, Own w 0 p.ao p.cap p.xs ∧ p.xs.length = 256 ∧ ∀ g, p.val.ownBlock = some g → ¬ K g
/-- The three errors that a disk answers. -/
def Errs (w : World) (K : Nat → Prop) (a : Nat → Addr) : Prop := ∀ i, i < 3 → K (gno i) ∧ w.cell? ⟨gno i, 0, none⟩ = some (errV (a i))
structure DiskOf (w : World) (K : Nat → Prop) (a : Nat → Addr) (d s : Nat) (ss : List Sec) (off : Bool) (fuse : Int) : Prop where
  head : w.heap[d]? = some (.cells #[.slice (some ⟨s, 0, none⟩) ss.length ss.length, .bool off, .int .i64 fuse] 66 (0, 0))
  secs : w.heap[s]? = some (.cells (ss.map Sec.v).toArray 69 (0, 0))
  each : ∀ x ∈ ss, x.isIn w K
  apart : ∀ (i j : Nat) (x y : Sec), ss[i]? = some x → ss[j]? = some y → i ≠ j → x.v.ownBlock ≠ y.v.ownBlock
  nd : ¬ K d
  ns : ¬ K s
  low : ∀ k, K k → k < w.heap.size
  many : 1 ≤ ss.length ∧ ss.length ≤ 200
  fuseBd : -1 ≤ fuse ∧ fuse ≤ 9223372036854775807
  errs : Errs w K a
/-- The versions of each sector, as bytes. -/
def vers (ss : List Sec) : List (List (List Int)) := ss.map fun x => x.vs.map (·.xs)
/-- A disk: its sectors' versions (the fast one first), whether power is off, its fuse. -/
def Disk (w : World) (K : Nat → Prop) (a : Nat → Addr) (d : Nat) (vss : List (List (List Int))) (off : Bool) (fuse : Int) : Prop :=
  ∃ s ss, DiskOf w K a d s ss off fuse ∧ vers ss = vss
theorem length_vers (ss : List Sec) : (vers ss).length = ss.length := by simp [vers]
theorem Disk.errs {w : World} {K : Nat → Prop} {a : Nat → Addr} {d : Nat} {vss : List (List (List Int))} {off : Bool} {fuse : Int} (h : Disk w K a d vss off fuse) : Errs w K a := by obtain ⟨s, ss, h, _⟩ := h; exact h.errs
theorem Disk.low {w : World} {K : Nat → Prop} {a : Nat → Addr} {d : Nat} {vss : List (List (List Int))} {off : Bool} {fuse : Int} (h : Disk w K a d vss off fuse) : ∀ k, K k → k < w.heap.size := by obtain ⟨s, ss, h, _⟩ := h; exact h.low
theorem Disk.many {w : World} {K : Nat → Prop} {a : Nat → Addr} {d : Nat} {vss : List (List (List Int))} {off : Bool} {fuse : Int} (h : Disk w K a d vss off fuse) : 1 ≤ vss.length ∧ vss.length ≤ 200 := by obtain ⟨s, ss, h, rfl⟩ := h; rw [length_vers]; exact h.many

theorem DiskOf.ne {w : World} {K : Nat → Prop} {a : Nat → Addr} {d s : Nat} {ss : List Sec} {off : Bool} {fuse : Int} (h : DiskOf w K a d s ss off fuse) : d ≠ s := by
  intro e
  have h1 := h.head
  rw [e, h.secs] at h1
  simp at h1
theorem DiskOf.ne_ver {w : World} {K : Nat → Prop} {a : Nat → Addr} {d s : Nat} {ss : List Sec} {off : Bool} {fuse : Int} (h : DiskOf w K a d s ss off fuse) {x : Sec} (hx : x ∈ ss) {g : Nat} (hg : x.v.ownBlock = some g) : g ≠ d ∧ g ≠ s := by
  obtain ⟨cur, hc⟩ := owns_type (h.each x hx).1 hg
  constructor
  · rintro rfl; rw [h.head] at hc; simp at hc
  · rintro rfl; rw [h.secs] at hc; simp at hc
theorem DiskOf.ne_part {w : World} {K : Nat → Prop} {a : Nat → Addr} {d s : Nat} {ss : List Sec} {off : Bool} {fuse : Int} (h : DiskOf w K a d s ss off fuse) {x : Sec} (hx : x ∈ ss) {p : Part} (hp : p ∈ x.vs) {g : Nat} (hg : p.val.ownBlock = some g) : g ≠ d ∧ g ≠ s ∧ ∀ y ∈ ss, y.v.ownBlock ≠ some g := by
  obtain ⟨cur, hc⟩ := owns_type ((h.each x hx).2.2.2.2 p hp).1.1 hg
  refine ⟨?_, ?_, fun y hy e => ?_⟩
  · rintro rfl; rw [h.head] at hc; simp at hc
  · rintro rfl; rw [h.secs] at hc; simp at hc
  · obtain ⟨cur', hc'⟩ := owns_type (h.each y hy).1 e
    rw [hc] at hc'
    simp at hc'

/-- One sector turns: what is in the disk's other blocks, and all that K names, stays. -/
theorem DiskOf.step {w w' : World} {K : Nat → Prop} {a : Nat → Addr} {d s : Nat} {ss : List Sec} {off : Bool} {fuse : Int} (h : DiskOf w K a d s ss off fuse) (i : Nat) (x x' : Sec) (hx : ss[i]? = some x)
    (hos : w'.os = w.os) (htape : w'.tape = w.tape) (hout : w'.output = w.output) (hsize : w.heap.size ≤ w'.heap.size)
    (hold : ∀ k, k < w.heap.size → k ≠ s → some k ≠ x.v.ownBlock → w'.heap[k]? = w.heap[k]?)
    (hsec : w'.heap[s]? = some (.cells ((ss.set i x').map Sec.v).toArray 69 (0, 0))) (hin : x'.isIn w' K)
    (hat : x'.v.ownBlock = x.v.ownBlock ∨ ∃ g, x'.v.ownBlock = some g ∧ w.heap.size ≤ g) :
    DiskOf w' K a d s (ss.set i x') off fuse ∧ Kept K w w' := by
  have hxm : x ∈ ss := List.mem_of_getElem? hx
  have hil : i < ss.length := (List.getElem?_eq_some_iff.1 hx).1
  have hkept : Kept K w w' := ⟨hos, htape, hout, hsize, fun k hk => hold k (h.low k hk) (fun e => h.ns (e ▸ hk)) (fun e => (h.each x hxm).2.2.2.1 k e.symm hk)⟩
  have hother : ∀ j y, ss[j]? = some y → j ≠ i → y.isIn w' K := by
    intro j y hy hj
    have hym := List.mem_of_getElem? hy
    obtain ⟨h1, h2, h3, h4, h5⟩ := h.each y hym
    refine ⟨owns_of_block h1 fun g hg hlt => hold g hlt (h.ne_ver hym hg).2 (fun e => h.apart j i y x hy hx hj (by rw [hg, e])), h2, h3, h4, fun p hp => ?_⟩
    obtain ⟨p1, p2, p3⟩ := h5 p hp
    exact ⟨p1.of_block fun g hg hlt => hold g hlt (h.ne_part hym hp hg).2.1 (fun e => (h.ne_part hym hp hg).2.2 x hxm e.symm), p2, p3⟩
  refine ⟨⟨?_, hsec, ?_, ?_, h.nd, h.ns, fun k hk => Nat.lt_of_lt_of_le (h.low k hk) hsize, by simpa using h.many, h.fuseBd, fun j hj => ⟨(h.errs j hj).1, by rw [hkept.cell (by exact (h.errs j hj).1)]; exact (h.errs j hj).2⟩⟩, hkept⟩
  · rw [hold d (lt_of_block h.head) h.ne (fun e => (h.ne_ver hxm e.symm).1 rfl), List.length_set]
    exact h.head
  · intro y hy
    obtain ⟨j, hj⟩ := List.getElem?_of_mem hy
    rw [List.getElem?_set] at hj
    by_cases e1 : i = j
    · rw [if_pos e1, if_pos hil] at hj
      simp only [Option.some.injEq] at hj
      rw [← hj]
      exact hin
    · rw [if_neg e1] at hj
      exact hother j y hj (by omega)
  · have hnew : ∀ j y, ss[j]? = some y → j ≠ i → x'.v.ownBlock ≠ y.v.ownBlock := by
      intro j y hy hj e
      rcases hat with h1 | ⟨g, h1, h2⟩
      · exact h.apart j i y x hy hx hj (e.symm.trans h1)
      · obtain ⟨cur, hc⟩ := owns_type (h.each y (List.mem_of_getElem? hy)).1 (e.symm.trans h1)
        have := lt_of_block hc
        omega
    intro j k y z hy hz hjk
    rw [List.getElem?_set] at hy hz
    by_cases e1 : i = j
    · rw [if_pos e1, if_pos hil] at hy
      rw [if_neg (by omega)] at hz
      simp only [Option.some.injEq] at hy
      rw [← hy]
      exact hnew k z hz (by omega)
    · rw [if_neg e1] at hy
      by_cases e2 : i = k
      · rw [if_pos e2, if_pos hil] at hz
        simp only [Option.some.injEq] at hz
        rw [← hz]
        exact fun e => hnew j y hy (by omega) e.symm
      · rw [if_neg e2] at hz
        exact h.apart j k y z hy hz hjk

/-- While nothing that is there turns, a disk stays, whatever new blocks K names besides. -/
theorem DiskOf.more {w w' : World} {K L : Nat → Prop} {a : Nat → Addr} {d s : Nat} {ss : List Sec} {off : Bool} {fuse : Int} (h : DiskOf w K a d s ss off fuse) (hb : Below w.heap.size w w') (hL : ∀ k, L k → k < w'.heap.size ∧ (k < w.heap.size → K k)) (hg : ∀ k, k < 3 → L (gno k)) : DiskOf w' L a d s ss off fuse := by
  have hn : ∀ g, g < w.heap.size → ¬ K g → ¬ L g := fun g h1 h2 h3 => h2 ((hL g h3).2 h1)
  have hd := lt_of_block h.head
  have hs := lt_of_block h.secs
  refine ⟨?_, ?_, fun x hx => ?_, h.apart, hn d hd h.nd, hn s hs h.ns, fun k hk => (hL k hk).1, h.many, h.fuseBd, fun j hj => ⟨hg j hj, ?_⟩⟩
  · rw [hb.block d hd]; exact h.head
  · rw [hb.block s hs]; exact h.secs
  · obtain ⟨h1, h2, h3, h4, h5⟩ := h.each x hx
    refine ⟨owns_of_block h1 fun g _ hlt => hb.block g hlt, h2, h3, fun g hg => ?_, fun p hp => ?_⟩
    · exact hn g (h1.lt g hg).2 (h4 g hg)
    · obtain ⟨p1, p2, p3⟩ := h5 p hp
      exact ⟨p1.of_block fun g _ hlt => hb.block g hlt, p2, fun g hg => hn g (p1.1.lt g hg).2 (p3 g hg)⟩
  · rw [hb.cell (h.low _ (h.errs j hj).1)]; exact (h.errs j hj).2
theorem Disk.more {w w' : World} {K L : Nat → Prop} {a : Nat → Addr} {d : Nat} {vss : List (List (List Int))} {off : Bool} {fuse : Int} (h : Disk w K a d vss off fuse) (hb : Below w.heap.size w w') (hL : ∀ k, L k → k < w'.heap.size ∧ (k < w.heap.size → K k)) (hg : ∀ k, k < 3 → L (gno k)) : Disk w' L a d vss off fuse := by
  obtain ⟨s, ss, h, e⟩ := h
  exact ⟨s, ss, h.more hb hL hg, e⟩
theorem Disk.below {w w' : World} {K : Nat → Prop} {a : Nat → Addr} {d : Nat} {vss : List (List (List Int))} {off : Bool} {fuse : Int} (h : Disk w K a d vss off fuse) (hb : Below w.heap.size w w') : Disk w' K a d vss off fuse :=
  h.more hb (fun k hk => ⟨Nat.lt_of_lt_of_le (h.low k hk) hb.size, fun _ => hk⟩) (fun k hk => (h.errs k hk).1)
theorem Disk.drewN {w : World} {K : Nat → Prop} {a : Nat → Addr} {d : Nat} {vss : List (List (List Int))} {off : Bool} {fuse : Int} (h : Disk w K a d vss off fuse) (n : Nat) : Disk (w.drewN n) K a d vss off fuse := by
  obtain ⟨s, ss, h, e⟩ := h
  exact ⟨s, ss, ⟨h.head, h.secs, h.each, h.apart, h.nd, h.ns, h.low, h.many, h.fuseBd, h.errs⟩, e⟩

/-- Power, and the fuse, turn; nothing else does. -/
theorem DiskOf.power {w w' : World} {K : Nat → Prop} {a : Nat → Addr} {d s : Nat} {ss : List Sec} {off off' : Bool} {fuse fuse' : Int} (h : DiskOf w K a d s ss off fuse)
    (hos : w'.os = w.os) (htape : w'.tape = w.tape) (hout : w'.output = w.output) (hsize : w'.heap.size = w.heap.size) (hold : ∀ k, k ≠ d → w'.heap[k]? = w.heap[k]?)
    (hhead : w'.heap[d]? = some (.cells #[.slice (some ⟨s, 0, none⟩) ss.length ss.length, .bool off', .int .i64 fuse'] 66 (0, 0))) (hf : -1 ≤ fuse' ∧ fuse' ≤ 9223372036854775807) :
    DiskOf w' K a d s ss off' fuse' ∧ Kept K w w' := by
  have hkept : Kept K w w' := ⟨hos, htape, hout, by omega, fun k hk => hold k (fun e => h.nd (e ▸ hk))⟩
  refine ⟨⟨hhead, ?_, fun x hx => ?_, h.apart, h.nd, h.ns, by rw [hsize]; exact h.low, h.many, hf, fun j hj => ⟨(h.errs j hj).1, by rw [hkept.cell (by exact (h.errs j hj).1)]; exact (h.errs j hj).2⟩⟩, hkept⟩
  · rw [hold s (fun e => h.ne e.symm)]; exact h.secs
  · obtain ⟨h1, h2, h3, h4, h5⟩ := h.each x hx
    refine ⟨owns_of_block h1 fun g hg _ => hold g (h.ne_ver hx hg).1, h2, h3, h4, fun p hp => ?_⟩
    obtain ⟨p1, p2, p3⟩ := h5 p hp
    exact ⟨p1.of_block fun g hg _ => hold g (h.ne_part hx hp hg).1, p2, p3⟩
end Go.Proofs.YtgjhnkadfdcafaaDoor

/- What a disk's small methods answer: Size, Off, Fuse, has, spend, powerOn, at every disk. -/
namespace Go.Proofs.YtgjhnkadfdcafaaDoor
open Go.RowKit
set_option linter.unusedVariables false

theorem heap_set_same {w : World} {d : Nat} {c : Array Value} {e : TypeId} (h : w.heap[d]? = some (.cells c e (0, 0))) (o : Nat) (v : Value) : (w.setCell ⟨d, o, none⟩ v).heap[d]? = some (.cells (c.setIfInBounds o v) e (0, 0)) := by
  simp [World.setCell, Array.getElem?_modify, h]
theorem frozen_row {w : World} {d : Nat} {c : Array Value} {e : TypeId} (h : w.heap[d]? = some (.cells c e (0, 0))) (o : Nat) : w.frozen? ⟨d, o, none⟩ = false := by
  simp [World.frozen?, h]
theorem DiskOf.c0 {w : World} {K : Nat → Prop} {a : Nat → Addr} {d s : Nat} {ss : List Sec} {off : Bool} {fuse : Int} (h : DiskOf w K a d s ss off fuse) : w.cell? ⟨d, 0, none⟩ = some (.slice (some ⟨s, 0, none⟩) ss.length ss.length) := by rw [cell_row h.head]; rfl
theorem DiskOf.c1 {w : World} {K : Nat → Prop} {a : Nat → Addr} {d s : Nat} {ss : List Sec} {off : Bool} {fuse : Int} (h : DiskOf w K a d s ss off fuse) : w.cell? ⟨d, 1, none⟩ = some (.bool off) := by rw [cell_row h.head]; rfl
theorem DiskOf.c2 {w : World} {K : Nat → Prop} {a : Nat → Addr} {d s : Nat} {ss : List Sec} {off : Bool} {fuse : Int} (h : DiskOf w K a d s ss off fuse) : w.cell? ⟨d, 2, none⟩ = some (.int .i64 fuse) := by rw [cell_row h.head]; rfl
theorem DiskOf.fz {w : World} {K : Nat → Prop} {a : Nat → Addr} {d s : Nat} {ss : List Sec} {off : Bool} {fuse : Int} (h : DiskOf w K a d s ss off fuse) (o : Nat) : w.frozen? ⟨d, o, none⟩ = false := frozen_row h.head o
theorem DiskOf.cs {w : World} {K : Nat → Prop} {a : Nat → Addr} {d s : Nat} {ss : List Sec} {off : Bool} {fuse : Int} (h : DiskOf w K a d s ss off fuse) {i : Nat} {x : Sec} (hx : ss[i]? = some x) : w.cell? ⟨s, i, none⟩ = some x.v := by rw [cell_row h.secs]; simp [hx]
theorem DiskOf.fs {w : World} {K : Nat → Prop} {a : Nat → Addr} {d s : Nat} {ss : List Sec} {off : Bool} {fuse : Int} (h : DiskOf w K a d s ss off fuse) (o : Nat) : w.frozen? ⟨s, o, none⟩ = false := frozen_row h.secs o
theorem DiskOf.e {w : World} {K : Nat → Prop} {a : Nat → Addr} {d s : Nat} {ss : List Sec} {off : Bool} {fuse : Int} (h : DiskOf w K a d s ss off fuse) (i : Nat) (hi : i < 3) : w.cell? ⟨gno i, 0, none⟩ = some (.iface 120 (.pointer (some (a i)))) := (h.errs i hi).2
theorem DiskOf.e0 {w : World} {K : Nat → Prop} {a : Nat → Addr} {d s : Nat} {ss : List Sec} {off : Bool} {fuse : Int} (h : DiskOf w K a d s ss off fuse) : w.cell? ⟨2, 0, none⟩ = some (.iface 120 (.pointer (some (a 0)))) := h.e 0 (show 0 < 3 by omega)
theorem DiskOf.e1 {w : World} {K : Nat → Prop} {a : Nat → Addr} {d s : Nat} {ss : List Sec} {off : Bool} {fuse : Int} (h : DiskOf w K a d s ss off fuse) : w.cell? ⟨1, 0, none⟩ = some (.iface 120 (.pointer (some (a 1)))) := h.e 1 (show 1 < 3 by omega)
theorem DiskOf.e2 {w : World} {K : Nat → Prop} {a : Nat → Addr} {d s : Nat} {ss : List Sec} {off : Bool} {fuse : Int} (h : DiskOf w K a d s ss off fuse) : w.cell? ⟨3, 0, none⟩ = some (.iface 120 (.pointer (some (a 2)))) := h.e 2 (show 2 < 3 by omega)

/-- Is there a sector i? -/
def hasSec (n : Nat) (i : Int) : Bool := decide (0 ≤ i ∧ i < n)
set_option maxRecDepth 100000 in
set_option maxHeartbeats 400000 in
theorem hasSec_any (d s n : Nat) (i : Int) (w : World) (h0 : w.cell? ⟨d, 0, none⟩ = some (.slice (some ⟨s, 0, none⟩) n n)) :
    Calls Tryd.prog 43 #[.pointer (some ⟨d, 0, none⟩), .int .i64 i] w fun e w' => e = .returned (.bool (hasSec n i)) ∧ w' = w := by
  by_cases h1 : 0 ≤ i
  · go_enter Tryd.func43, Tryd.ntmps43
    go_wp2_with fail
    go_ret
    exact ⟨ret_bool (by simp [hasSec, h1]), rfl⟩
  · have h2 : decide (0 ≤ i) = false := by simpa using h1
    go_enter Tryd.func43, Tryd.ntmps43
    go_wp2_with fail
    go_ret
    exact ⟨ret_bool (by simp [hasSec]; omega), rfl⟩

theorem DiskOf.set1 {w : World} {K : Nat → Prop} {a : Nat → Addr} {d s : Nat} {ss : List Sec} {off : Bool} {fuse : Int} (h : DiskOf w K a d s ss off fuse) (off' : Bool) : DiskOf (w.setCell ⟨d, 1, none⟩ (.bool off')) K a d s ss off' fuse ∧ Kept K w (w.setCell ⟨d, 1, none⟩ (.bool off')) :=
  h.power rfl rfl rfl (by simp [World.setCell]) (fun k hk => Below.heap_setCell _ _ _ _ hk) (heap_set_same h.head 1 _) h.fuseBd
theorem DiskOf.set2 {w : World} {K : Nat → Prop} {a : Nat → Addr} {d s : Nat} {ss : List Sec} {off : Bool} {fuse : Int} (h : DiskOf w K a d s ss off fuse) (fuse' : Int) (hf : -1 ≤ fuse' ∧ fuse' ≤ 9223372036854775807) : DiskOf (w.setCell ⟨d, 2, none⟩ (.int .i64 fuse')) K a d s ss off fuse' ∧ Kept K w (w.setCell ⟨d, 2, none⟩ (.int .i64 fuse')) :=
  h.power rfl rfl rfl (by simp [World.setCell]) (fun k hk => Below.heap_setCell _ _ _ _ hk) (heap_set_same h.head 2 _) hf

set_option maxRecDepth 100000 in
set_option maxHeartbeats 400000 in
theorem fuse_any (d : Nat) (n : Int) {w : World} {K : Nat → Prop} {a : Nat → Addr} {vss : List (List (List Int))} {off : Bool} {fuse : Int} (h : Disk w K a d vss off fuse) (hn : n ≤ 9223372036854775807) :
    Calls Tryd.prog 21 #[.pointer (some ⟨d, 0, none⟩), .int .i64 n] w fun e w' => e = .returned (.tuple #[]) ∧ Disk w' K a d vss off (max n (-1)) ∧ Kept K w w' := by
  obtain ⟨s, ss, h, rfl⟩ := h
  have h0 := h.c2
  have h1 := h.fz 2
  have H := hide h
  clear h
  go_enter Tryd.func21, Tryd.ntmps21
  go_wp2_with fail
  · go_end0
    rw [show max n (-1) = -1 by omega]
    exact ⟨rfl, ⟨s, ss, (H.out.set2 (-1) (by omega)).1, rfl⟩, (H.out.set2 (-1) (by omega)).2⟩
  · go_end0
    rw [show max n (-1) = n by omega]
    exact ⟨rfl, ⟨s, ss, (H.out.set2 n (by omega)).1, rfl⟩, (H.out.set2 n (by omega)).2⟩
set_option maxRecDepth 100000 in
set_option maxHeartbeats 400000 in
theorem powerOn_any (d s : Nat) (ss : List Sec) {w : World} {K : Nat → Prop} {a : Nat → Addr} {off : Bool} {fuse : Int} (h : DiskOf w K a d s ss off fuse) :
    Calls Tryd.prog 37 #[.pointer (some ⟨d, 0, none⟩)] w fun e w' => e = .returned (.tuple #[]) ∧ DiskOf w' K a d s ss false (-1) ∧ Kept K w w' := by
  have h0 := h.c2
  have h1 := h.fz 2
  have h2 := h.c1
  have h3 := h.fz 1
  have H := hide h
  clear h
  go_enter Tryd.func37, Tryd.ntmps37
  go_wp2_with fail
  go_end0
  have h4 := H.out.set1 false
  have h5 := h4.1.set2 (-1) (by omega)
  exact ⟨rfl, h5.1, h4.2.trans h5.2⟩
/-- What a fuse is behind one more that goes through. -/
def burnt (fuse : Int) : Int := if 0 < fuse then fuse - 1 else fuse
set_option maxRecDepth 100000 in
set_option maxHeartbeats 400000 in
theorem spend_ok (d s : Nat) (ss : List Sec) {w : World} {K : Nat → Prop} {a : Nat → Addr} {off : Bool} {fuse : Int} (h : DiskOf w K a d s ss off fuse) (hf : fuse ≠ 0) :
    Calls Tryd.prog 45 #[.pointer (some ⟨d, 0, none⟩)] w fun e w' => e = .returned .nilIface ∧ DiskOf w' K a d s ss off (burnt fuse) ∧ Kept K w w' := by
  have h0 := h.c2
  have h1 := h.fz 2
  have hb := h.fuseBd
  have H := hide h
  clear h
  have hz : (fuse == 0) = false := by simp [hf]
  unfold burnt
  by_cases hp : 0 < fuse
  · rw [if_pos hp]
    go_enter Tryd.func45, Tryd.ntmps45
    go_wp2_with fail
    go_ret
    have h4 := H.out.set2 (fuse - 1) (by omega)
    exact ⟨rfl, h4.1, h4.2⟩
  · rw [if_neg hp]
    have hd : decide (0 < fuse) = false := by simpa using hp
    go_enter Tryd.func45, Tryd.ntmps45
    go_wp2_with fail
    go_ret
    exact ⟨rfl, H.out, Kept.refl _ _⟩
set_option maxRecDepth 100000 in
set_option maxHeartbeats 400000 in
theorem spend_burn (d s : Nat) (ss : List Sec) {w : World} {K : Nat → Prop} {a : Nat → Addr} {off : Bool} (h : DiskOf w K a d s ss off 0) :
    Calls Tryd.prog 45 #[.pointer (some ⟨d, 0, none⟩)] w fun e w' => e = .returned (errV (a 0)) ∧ DiskOf w' K a d s ss true 0 ∧ Kept K w w' := by
  have h0 := h.c2
  have h1 := h.c1
  have h2 := h.fz 1
  have h4 := h.set1 true
  have he := h4.1.e0
  have H4 := hide h4
  clear h h4
  go_enter Tryd.func45, Tryd.ntmps45
  go_wp2_with fail
  go_ret
  exact ⟨rfl, H4.out.1, H4.out.2⟩
end Go.Proofs.YtgjhnkadfdcafaaDoor

/- What a disk's Read and Write answer, at every disk. -/
namespace Go.Proofs.YtgjhnkadfdcafaaDoor
open Go.RowKit
set_option linter.unusedVariables false

/-- The last of a sector's versions. -/
def lastV (vs : List (List Int)) : List Int := vs.getD (vs.length - 1) []
theorem DiskOf.sec {w : World} {K : Nat → Prop} {a : Nat → Addr} {d s : Nat} {ss : List Sec} {off : Bool} {fuse : Int} (h : DiskOf w K a d s ss off fuse) {i : Nat} {x : Sec} (hx : ss[i]? = some x) :
    ∃ g cap, x.v = .slice (some ⟨g, 0, none⟩) x.vs.length cap ∧ g < w.heap.size ∧ ∀ j p, x.vs[j]? = some p → w.cell? ⟨g, j, none⟩ = some p.val := by
  obtain ⟨h1, h2, h3, h4, h5⟩ := h.each x (List.mem_of_getElem? hx)
  rcases h1.2 with ⟨_, e⟩ | ⟨g, cap, cur, hv, _, hh, _⟩
  · omega
  · refine ⟨g, cap, hv, lt_of_block hh, fun j p hp => ?_⟩
    have := h1.cells (g := g) (by rw [hv]; rfl) j p.val (by simp [hp])
    rw [Addr.add_lit, Nat.zero_add] at this
    exact this
theorem vers_at {ss : List Sec} {i : Nat} {x : Sec} (h : ss[i]? = some x) : (vers ss).getD i [] = x.vs.map (·.xs) := by
  simp [vers, List.getD_eq_getElem?_getD, h]
theorem lastV_of {x : Sec} {p : Part} {n : Nat} (h : x.vs[n]? = some p) (hn : x.vs.length = n + 1) : lastV (x.vs.map (·.xs)) = p.xs := by
  simp only [lastV, List.length_map, hn, Nat.add_sub_cancel, List.getD_eq_getElem?_getD, List.getElem?_map, h]
  rfl
theorem sec_at {ss : List Sec} {k : Nat} (h : k < ss.length) : ∃ x, ss[k]? = some x := ⟨_, List.getElem?_eq_getElem h⟩

theorem clone_len (ao : Option Addr) (n cap : Nat) (xs : List Int) (w : World) (h : Row w ao xs) (hn : xs.length = n) (hp : 0 < n) :
    Calls Tryd.prog 44 #[.slice ao n cap] w fun e w' => ∃ g c, e = .returned (.slice (some ⟨g, 0, none⟩) n c) ∧ w.heap.size ≤ g ∧ Own w' w.heap.size (some ⟨g, 0, none⟩) c xs ∧ Below w.heap.size w w' := by subst hn; exact clone_any ao cap xs w h hp
set_option maxRecDepth 100000 in
set_option maxHeartbeats 400000 in
theorem read_off (d : Nat) (i : Int) {w : World} {K : Nat → Prop} {a : Nat → Addr} {vss : List (List (List Int))} {fuse : Int} (h : Disk w K a d vss true fuse) :
    Calls Tryd.prog 60 #[.pointer (some ⟨d, 0, none⟩), .int .i64 i] w fun e w' => e = .returned (.tuple #[.slice none 0 0, errV (a 0)]) ∧ Below w.heap.size w w' := by
  obtain ⟨s, ss, h, rfl⟩ := h
  have h0 := h.c1
  have he := h.e0
  clear h
  go_enter Tryd.func60, Tryd.ntmps60
  go_wp2_with fail
  go_quiet (fail)
  go_wp2_with fail
  go_ret2
  exact ⟨rfl, below_drewN (Below.refl _ _) _⟩
set_option maxRecDepth 100000 in
set_option maxHeartbeats 400000 in
theorem read_range (d : Nat) (i : Int) {w : World} {K : Nat → Prop} {a : Nat → Addr} {vss : List (List (List Int))} {fuse : Int} (h : Disk w K a d vss false fuse) (hi : hasSec vss.length i = false) :
    Calls Tryd.prog 60 #[.pointer (some ⟨d, 0, none⟩), .int .i64 i] w fun e w' => e = .returned (.tuple #[.slice none 0 0, errV (a 1)]) ∧ Below w.heap.size w w' := by
  obtain ⟨s, ss, h, rfl⟩ := h
  rw [length_vers] at hi
  have h0 := h.c0
  have h1 := h.c1
  have he := h.e1
  clear h
  go_enter Tryd.func60, Tryd.ntmps60
  go_wp2_with fail
  refine (hasSec_any _ _ _ _ _ h0).mono ?_
  rintro e w' ⟨rfl, rfl⟩
  go_wp2_with fail
  go_quiet (fail)
  go_wp2_with fail
  go_ret2
  exact ⟨rfl, below_drewN (Below.refl _ _) _⟩
set_option maxRecDepth 100000 in
set_option maxHeartbeats 400000 in
theorem dread_ok (d k : Nat) {w : World} {K : Nat → Prop} {a : Nat → Addr} {vss : List (List (List Int))} {fuse : Int} (h : Disk w K a d vss false fuse) (hk : k < vss.length) :
    Calls Tryd.prog 60 #[.pointer (some ⟨d, 0, none⟩), .int .i64 k] w fun e w' => ∃ g c, e = .returned (.tuple #[.slice (some ⟨g, 0, none⟩) 256 c, .nilIface]) ∧ w.heap.size ≤ g ∧ Own w' w.heap.size (some ⟨g, 0, none⟩) c (lastV (vss.getD k [])) ∧ (lastV (vss.getD k [])).length = 256 ∧ Below w.heap.size w w' := by
  have hm := h.many
  obtain ⟨s, ss, h, rfl⟩ := h
  rw [length_vers] at hk hm
  have h0 := h.c0
  have h1 := h.c1
  obtain ⟨x, hx⟩ := sec_at hk
  obtain ⟨g, cap, hv, hg, hc⟩ := h.sec hx
  have hcs := h.cs hx
  obtain ⟨i1, i2, i3, i4, i5⟩ := h.each x (List.mem_of_getElem? hx)
  obtain ⟨n, hn⟩ : ∃ n, x.vs.length = n + 1 := ⟨x.vs.length - 1, by omega⟩
  obtain ⟨p, hp⟩ : ∃ p, x.vs[n]? = some p := ⟨_, List.getElem?_eq_getElem (by omega)⟩
  obtain ⟨p1, p2, p3⟩ := i5 p (List.mem_of_getElem? hp)
  have hcp := hc n p hp
  rw [vers_at hx, lastV_of hp hn]
  rw [hv, hn] at hcs
  have hlen : x.vs.length ≤ 4294967296 := i3
  rw [hn] at hlen
  have hh : hasSec ss.length k = true := by simp [hasSec]; omega
  have HP := hide p1
  have hki : (k : Int) < (ss.length : Int) := by omega
  have HG := hide hcp
  have HS := hide hcs
  clear h hv hc i1 i2 i3 i4 i5 hx hp p1 p3 hcp hcs hn
  obtain ⟨po, pc, px⟩ := p
  simp only at p2 HP ⊢
  have HV : Hid (w.cell? ⟨g, n, none⟩ = some (.slice po 256 pc)) := by rw [← p2]; exact HG.out
  clear HG
  go_enter Tryd.func60, Tryd.ntmps60
  go_wp2_with fail
  refine (hasSec_any _ _ _ _ _ h0).mono ?_
  rintro e w' ⟨rfl, rfl⟩
  go_wp2_with fail
  refine (last_any s k g 0 n cap (.slice po 256 pc) _ HS.out hlen (by rw [Nat.zero_add]; exact HV.out)).mono ?_
  rintro e w1 ⟨rfl, m, rfl⟩
  go_wp2_with fail
  refine (clone_len po 256 pc px _ (HP.out.row.drewN m) p2 (by omega)).mono ?_
  rintro e w2 ⟨g', c', rfl, hg', hown, hbel⟩
  have HO := hide hown
  have HB := hide hbel
  clear hown hbel
  go_wp2_with fail
  go_ret2
  exact ⟨g', c', rfl, hg', HO.out, p2, (below_drewN (Below.refl _ _) m).trans HB.out⟩
end Go.Proofs.YtgjhnkadfdcafaaDoor

/- How a disk's sector turns: a version more, or one version alone; all else stays. -/
namespace Go.Proofs.YtgjhnkadfdcafaaDoor
open Go.RowKit
set_option linter.unusedVariables false

theorem DiskOf.ne_bytes {w : World} {K : Nat → Prop} {a : Nat → Addr} {d s : Nat} {ss : List Sec} {off : Bool} {fuse : Int} (h : DiskOf w K a d s ss off fuse) {B : Nat} {ao : Option Addr} {cap : Nat} {xs : List Int} (ho : Own w B ao cap xs) {g : Nat} (hg : (Value.slice ao xs.length cap).ownBlock = some g) : g ≠ d ∧ g ≠ s ∧ ∀ y ∈ ss, y.v.ownBlock ≠ some g := by
  obtain ⟨cur, hc⟩ := owns_type ho.1 hg
  refine ⟨?_, ?_, fun y hy e => ?_⟩
  · rintro rfl; rw [h.head] at hc; simp at hc
  · rintro rfl; rw [h.secs] at hc; simp at hc
  · obtain ⟨cur', hc'⟩ := owns_type (h.each y hy).1 e
    rw [hc] at hc'
    simp at hc'
theorem set_secs (ss : List Sec) (i : Nat) (x' : Sec) : (ss.map Sec.v).toArray.setIfInBounds i x'.v = ((ss.set i x').map Sec.v).toArray := by
  simp [List.map_set]
theorem DiskOf.added {w w1 : World} {K : Nat → Prop} {a : Nat → Addr} {d s : Nat} {ss : List Sec} {off : Bool} {fuse : Int} (h : DiskOf w K a d s ss off fuse) {i : Nat} {x : Sec} (hx : ss[i]? = some x) (p : Part) (hp : Own w 0 p.ao p.cap p.xs) (hpl : p.xs.length = 256) (hpk : ∀ g, p.val.ownBlock = some g → ¬ K g) (hlen : x.vs.length + 1 ≤ 4294967296)
    {v' : Value} (ho : w1.ownsRow 0 51 1 v' (x.vs.length + 1) (x.vs.map Part.val ++ [p.val])) (hg : w.grownBy w1 x.v.ownBlock) (hat : v'.ownBlock = x.v.ownBlock ∨ ∃ g, v'.ownBlock = some g ∧ w.heap.size ≤ g) :
    DiskOf (w1.setCell ⟨s, i, none⟩ v') K a d s (ss.set i ⟨v', x.vs ++ [p]⟩) off fuse ∧ Kept K w (w1.setCell ⟨s, i, none⟩ v') := by
  have hxm := List.mem_of_getElem? hx
  have hs : w1.heap[s]? = w.heap[s]? := hg.block s (lt_of_block h.secs) (fun e => (h.ne_ver hxm e.symm).2 rfl)
  have hold : ∀ k, k < w.heap.size → k ≠ s → some k ≠ x.v.ownBlock → (w1.setCell ⟨s, i, none⟩ v').heap[k]? = w.heap[k]? := fun k h1 h2 h3 => (Below.heap_setCell _ _ _ _ h2).trans (hg.block k h1 h3)
  have hbytes : ∀ {ao cap xs}, Own w 0 ao cap xs → Own (w1.setCell ⟨s, i, none⟩ v') 0 ao cap xs := fun hq => hq.of_block fun g hg hlt => hold g hlt (h.ne_bytes hq hg).2.1 (fun e => (h.ne_bytes hq hg).2.2 x hxm e.symm)
  obtain ⟨i1, i2, i3, i4, i5⟩ := h.each x hxm
  refine h.step i x ⟨v', x.vs ++ [p]⟩ hx (by exact hg.os) (by exact hg.tape) (by exact hg.output) (by have := hg.size; simpa [World.setCell] using this) hold ?_ ?_ hat
  · rw [← set_secs]
    exact heap_set_same (hs.trans h.secs) i v'
  · refine ⟨?_, by simp, by simpa using hlen, ?_, ?_⟩
    · simp only [List.length_append, List.length_cons, List.length_nil, List.map_append, List.map_cons, List.map_nil]
      refine owns_of_block ho fun g hg' _ => Below.heap_setCell _ _ _ _ ?_
      rcases hat with h1 | ⟨g', h1, h2⟩
      · exact (h.ne_ver hxm (h1 ▸ hg')).2
      · rw [h1] at hg'
        have := lt_of_block h.secs
        simp only [Option.some.injEq] at hg'
        show g ≠ s
        omega
    · intro g hg' hk
      rcases hat with h1 | ⟨g', h1, h2⟩
      · exact i4 g (h1 ▸ hg') hk
      · rw [show (⟨v', x.vs ++ [p]⟩ : Sec).v = v' from rfl, h1] at hg'
        simp only [Option.some.injEq] at hg'
        have := h.low g hk
        omega
    · intro q hq
      rcases List.mem_append.1 hq with h1 | h1
      · exact ⟨hbytes (i5 q h1).1, (i5 q h1).2⟩
      · rw [List.mem_singleton.1 h1]
        exact ⟨hbytes hp, hpl, hpk⟩
theorem DiskOf.fresh {w : World} {K : Nat → Prop} {a : Nat → Addr} {d s : Nat} {ss : List Sec} {off : Bool} {fuse : Int} (h : DiskOf w K a d s ss off fuse) {i : Nat} {x : Sec} (hx : ss[i]? = some x) (p : Part) (hp : Own w 0 p.ao p.cap p.xs) (hpl : p.xs.length = 256) (hpk : ∀ g, p.val.ownBlock = some g → ¬ K g) :
    DiskOf ((w.setCell ⟨s, i, none⟩ (.slice (some ⟨w.heap.size, 0, none⟩) 1 1)).alloc (.cells #[p.val] 51)) K a d s (ss.set i ⟨.slice (some ⟨w.heap.size, 0, none⟩) 1 1, [p]⟩) off fuse ∧ Kept K w ((w.setCell ⟨s, i, none⟩ (.slice (some ⟨w.heap.size, 0, none⟩) 1 1)).alloc (.cells #[p.val] 51)) := by
  have hxm := List.mem_of_getElem? hx
  have hsz : (w.setCell ⟨s, i, none⟩ (.slice (some ⟨w.heap.size, 0, none⟩) 1 1)).heap.size = w.heap.size := by simp [World.setCell]
  have hold : ∀ k, k < w.heap.size → k ≠ s → some k ≠ x.v.ownBlock → ((w.setCell ⟨s, i, none⟩ (.slice (some ⟨w.heap.size, 0, none⟩) 1 1)).alloc (.cells #[p.val] 51)).heap[k]? = w.heap[k]? := fun k h1 h2 _ => (Below.heap_alloc _ _ _ (by rw [hsz]; exact h1)).trans (Below.heap_setCell _ _ _ _ h2)
  refine h.step i x ⟨.slice (some ⟨w.heap.size, 0, none⟩) 1 1, [p]⟩ hx rfl rfl rfl (by simp [hsz]) hold ?_ ?_ (.inr ⟨w.heap.size, rfl, Nat.le_refl _⟩)
  · rw [← set_secs, Below.heap_alloc _ _ _ (by rw [hsz]; exact lt_of_block h.secs)]
    exact heap_set_same h.secs i _
  · refine ⟨⟨by simp, .inr ⟨w.heap.size, 1, #[p.val], rfl, Nat.zero_le _, ?_, by simp, by decide, by simp, by simp⟩⟩, by simp, by simp, ?_, ?_⟩
    · have := heap_alloc_new (w.setCell ⟨s, i, none⟩ (.slice (some ⟨w.heap.size, 0, none⟩) 1 1)) (.cells #[p.val] 51)
      rw [hsz] at this
      exact this
    · intro g hg hk
      simp only [Value.ownBlock, Option.some.injEq] at hg
      have := h.low g hk
      omega
    · intro q hq
      rw [List.mem_singleton.1 hq]
      exact ⟨hp.of_block fun g hg hlt => hold g hlt (h.ne_bytes hp hg).2.1 (fun e => (h.ne_bytes hp hg).2.2 x hxm e.symm), hpl, hpk⟩

theorem sec_loose {w : World} {K : Nat → Prop} {a : Nat → Addr} {d s : Nat} {ss : List Sec} {off : Bool} {fuse : Int} (h : DiskOf w K a d s ss off fuse) {i : Nat} {x : Sec} (hx : ss[i]? = some x) :
    Calls Tryd.prog 59 #[.pointer (some ⟨s, i, none⟩)] w fun e w' => e = .returned (.int .i64 ((x.vs.length : Int) - 1)) ∧ w' = w := by
  obtain ⟨g, cap, hv, _, _⟩ := h.sec hx
  exact loose_any s i _ _ _ w (by rw [h.cs hx, hv]) (h.each x (List.mem_of_getElem? hx)).2.2.1
theorem sec_add {w : World} {K : Nat → Prop} {a : Nat → Addr} {d s : Nat} {ss : List Sec} {off : Bool} {fuse : Int} (h : DiskOf w K a d s ss off fuse) {i : Nat} {x : Sec} (hx : ss[i]? = some x) (p : Part) (hp : Own w 0 p.ao p.cap p.xs) (hpl : p.xs.length = 256) (hpk : ∀ g, p.val.ownBlock = some g → ¬ K g) (hlen : x.vs.length + 1 ≤ 4294967296) :
    Calls Tryd.prog 30 #[.pointer (some ⟨s, i, none⟩), p.val] w fun e w' => e = .returned (.tuple #[]) ∧ ∃ v', DiskOf w' K a d s (ss.set i ⟨v', x.vs ++ [p]⟩) off fuse ∧ Kept K w w' := by
  have hxm := List.mem_of_getElem? hx
  refine (add_any s i x.v x.vs.length (x.vs.map Part.val) p.ao p.xs.length p.cap 0 w (h.cs hx) (h.fs i) hlen (h.each x hxm).1 (Nat.zero_le _) (fun e => (h.ne_ver hxm e).2 rfl)).mono ?_
  rintro e w' ⟨rfl, w1, v', rfl, h1, h2, h3⟩
  exact ⟨rfl, v', h.added hx p hp hpl hpk hlen h1 h2 h3⟩
theorem sec_keep {w : World} {K : Nat → Prop} {a : Nat → Addr} {d s : Nat} {ss : List Sec} {off : Bool} {fuse : Int} (h : DiskOf w K a d s ss off fuse) {i : Nat} {x : Sec} (hx : ss[i]? = some x) (k : Nat) (p : Part) (hp : x.vs[k]? = some p) :
    Calls Tryd.prog 35 #[.pointer (some ⟨s, i, none⟩), .int .i64 k] w fun e w' => e = .returned (.tuple #[]) ∧ ∃ v', DiskOf w' K a d s (ss.set i ⟨v', [p]⟩) off fuse ∧ Kept K w w' := by
  have hxm := List.mem_of_getElem? hx
  obtain ⟨g, cap, hv, hg, hc⟩ := h.sec hx
  obtain ⟨i1, i2, i3, i4, i5⟩ := h.each x hxm
  obtain ⟨p1, p2, p3⟩ := i5 p (List.mem_of_getElem? hp)
  refine (keep_any s i g 0 x.vs.length cap k p.ao p.xs.length p.cap w (by rw [h.cs hx, hv]) (h.fs i) i3 (List.getElem?_eq_some_iff.1 hp).1 (by rw [Nat.zero_add]; exact hc k p hp)).mono ?_
  rintro e w' ⟨rfl, rfl⟩
  exact ⟨rfl, _, h.fresh hx p p1 p2 p3⟩
end Go.Proofs.YtgjhnkadfdcafaaDoor

/- What a disk's Write answers, at every disk. -/
namespace Go.Proofs.YtgjhnkadfdcafaaDoor
open Go.RowKit
set_option linter.unusedVariables false

theorem vers_set (ss : List Sec) (i : Nat) (x : Sec) : vers (ss.set i x) = (vers ss).set i (x.vs.map (·.xs)) := by simp [vers, List.map_set]
theorem DiskOf.belowD {w w' : World} {K : Nat → Prop} {a : Nat → Addr} {d s : Nat} {ss : List Sec} {off : Bool} {fuse : Int} (h : DiskOf w K a d s ss off fuse) (hb : Below w.heap.size w w') : DiskOf w' K a d s ss off fuse :=
  h.more hb (fun k hk => ⟨Nat.lt_of_lt_of_le (h.low k hk) hb.size, fun _ => hk⟩) (fun k hk => (h.errs k hk).1)
theorem Own.any {w : World} {B : Nat} {ao : Option Addr} {cap : Nat} {xs : List Int} (h : Own w B ao cap xs) : Own w 0 ao cap xs := h.mono (Nat.zero_le _)

theorem sec_add_len {w : World} {K : Nat → Prop} {a : Nat → Addr} {d s : Nat} {ss : List Sec} {off : Bool} {fuse : Int} (h : DiskOf w K a d s ss off fuse) {i : Nat} {x : Sec} (hx : ss[i]? = some x) (ao : Option Addr) (cap : Nat) (xs : List Int) (hp : Own w 0 ao cap xs) (hpl : xs.length = 256) (hpk : ∀ g, (Value.slice ao 256 cap).ownBlock = some g → ¬ K g) (hlen : x.vs.length + 1 ≤ 4294967296) :
    Calls Tryd.prog 30 #[.pointer (some ⟨s, i, none⟩), .slice ao 256 cap] w fun e w' => e = .returned (.tuple #[]) ∧ ∃ v', DiskOf w' K a d s (ss.set i ⟨v', x.vs ++ [⟨ao, cap, xs⟩]⟩) off fuse ∧ Kept K w w' := by
  have h1 := sec_add h hx ⟨ao, cap, xs⟩ hp hpl (by show ∀ g, (Value.slice ao xs.length cap).ownBlock = some g → ¬ K g; rw [hpl]; exact hpk) hlen
  rw [show (⟨ao, cap, xs⟩ : Part).val = .slice ao 256 cap by rw [← hpl]; rfl] at h1
  exact h1

theorem not_low {K : Nat → Prop} {B g' n c : Nat} (low : ∀ k, K k → k < B) (h : B ≤ g') : ∀ g, (Value.slice (some ⟨g', 0, none⟩) n c).ownBlock = some g → ¬ K g := by
  intro g e hk
  simp only [Value.ownBlock, Option.some.injEq] at e
  have := low g hk
  omega

set_option maxRecDepth 100000 in
set_option maxHeartbeats 400000 in
theorem write_off (d : Nat) (i : Int) (b : Value) {w : World} {K : Nat → Prop} {a : Nat → Addr} {vss : List (List (List Int))} {fuse : Int} (h : Disk w K a d vss true fuse) :
    Calls Tryd.prog 25 #[.pointer (some ⟨d, 0, none⟩), .int .i64 i, b] w fun e w' => e = .returned (errV (a 0)) ∧ w' = w := by
  obtain ⟨s, ss, h, rfl⟩ := h
  have h0 := h.c1
  have he := h.e0
  clear h
  go_enter Tryd.func25, Tryd.ntmps25
  go_wp2_with fail
  go_ret
  exact ⟨rfl, rfl⟩
set_option maxRecDepth 100000 in
set_option maxHeartbeats 400000 in
theorem write_range (d : Nat) (i : Int) (b : Value) {w : World} {K : Nat → Prop} {a : Nat → Addr} {vss : List (List (List Int))} {fuse : Int} (h : Disk w K a d vss false fuse) (hi : hasSec vss.length i = false) :
    Calls Tryd.prog 25 #[.pointer (some ⟨d, 0, none⟩), .int .i64 i, b] w fun e w' => e = .returned (errV (a 1)) ∧ w' = w := by
  obtain ⟨s, ss, h, rfl⟩ := h
  rw [length_vers] at hi
  have h0 := h.c0
  have h1 := h.c1
  have he := h.e1
  clear h
  go_enter Tryd.func25, Tryd.ntmps25
  go_wp2_with fail
  refine (hasSec_any _ _ _ _ _ h0).mono ?_
  rintro e w' ⟨rfl, rfl⟩
  go_wp2_with fail
  go_ret
  exact ⟨rfl, rfl⟩
set_option maxRecDepth 100000 in
set_option maxHeartbeats 400000 in
theorem write_short (d : Nat) (i : Int) (bo : Option Addr) (n c : Nat) {w : World} {K : Nat → Prop} {a : Nat → Addr} {vss : List (List (List Int))} {fuse : Int} (h : Disk w K a d vss false fuse) (hi : hasSec vss.length i = true) (hn : n ≠ 256) :
    Calls Tryd.prog 25 #[.pointer (some ⟨d, 0, none⟩), .int .i64 i, .slice bo n c] w fun e w' => e = .returned (errV (a 2)) ∧ w' = w := by
  obtain ⟨s, ss, h, rfl⟩ := h
  rw [length_vers] at hi
  have h0 := h.c0
  have h1 := h.c1
  have he := h.e2
  clear h
  have hne : ((n : Int) != 256) = true := by simp; omega
  go_enter Tryd.func25, Tryd.ntmps25
  go_wp2_with fail
  refine (hasSec_any _ _ _ _ _ h0).mono ?_
  rintro e w' ⟨rfl, rfl⟩
  go_wp2_with fail
  go_ret
  exact ⟨rfl, rfl⟩

set_option maxRecDepth 100000 in
set_option maxHeartbeats 1000000 in
theorem write_any (d k : Nat) (bo : Option Addr) (bc : Nat) (ys : List Int) {w : World} {K : Nat → Prop} {a : Nat → Addr} {s : Nat} {ss : List Sec} {fuse : Int} (h : DiskOf w K a d s ss false fuse) (hk : k < ss.length) (hr : Row w bo ys) (hl : ys.length = 256) (x : Sec) (hx : ss[k]? = some x) (hlen : x.vs.length + 1 ≤ 4294967296) :
    Calls Tryd.prog 25 #[.pointer (some ⟨d, 0, none⟩), .int .i64 k, .slice bo 256 bc] w fun e w' => ∃ x' : Sec, x'.vs.map (·.xs) = x.vs.map (·.xs) ++ [ys] ∧ Kept K w w' ∧ (fuse ≠ 0 → e = .returned .nilIface ∧ DiskOf w' K a d s (ss.set k x') false (burnt fuse)) ∧ (fuse = 0 → e = .returned (errV (a 0)) ∧ DiskOf w' K a d s (ss.set k x') true 0) := by
  have h0 := h.c0
  have h1 := h.c1
  have hm := h.many
  have H := hide h
  have HR := hide hr
  have HX := hide hx
  have hh : hasSec ss.length k = true := by simp [hasSec]; omega
  have hki : (k : Int) < (ss.length : Int) := by omega
  clear h hr hx
  go_enter Tryd.func25, Tryd.ntmps25
  go_wp2_with fail
  refine (hasSec_any _ _ _ _ _ h0).mono ?_
  rintro e w' ⟨rfl, rfl⟩
  go_wp2_with fail
  go_region_held3 (fun w' => w'.cell? ⟨d, 0, none⟩ = some (.slice (some ⟨s, 0, none⟩) ss.length ss.length)) (first | go_keep | assumption)
    (first
      | (go_at_call 44; refine (clone_len bo 256 bc ys _ (by exact HR.out) hl (by omega)).mono ?_; rintro e w1 ⟨g', c', rfl, hg', hown, hbel⟩; have hbel := of_drew hbel; have H1 := hide (H.out.belowD hbel); have hc1 := H1.out.c0; have HO := hide hown; have HB := hide hbel; have HG := hide hg'; clear hown hbel hg')
      | (go_at_call 30; refine (sec_add_len H1.out HX.out (some ⟨g', 0, none⟩) c' ys HO.out.any hl (not_low H.out.low HG.out) hlen).mono ?_; rintro e w2 ⟨rfl, v', h2, k2⟩; have hc2 := h2.c0; rw [List.length_set] at hc2; have H2 := hide h2; have HK := hide k2; clear h2 k2))
  have hmap : (x.vs ++ [(⟨some ⟨g', 0, none⟩, c', ys⟩ : Part)]).map (fun p : Part => p.xs) = x.vs.map (·.xs) ++ [ys] := by simp
  have HM := hide hmap
  have HKK : Hid (Kept K w' w2) := (Kept.of_below HB.out H.out.low).trans HK.out
  clear hmap HK HB
  by_cases hf : fuse = 0
  · subst hf
    go_wp2_with fail
    refine (spend_burn _ _ _ H2.out).mono ?_
    rintro e w3 ⟨rfl, h3, k3⟩
    have H3 := hide h3
    have HK3 := hide k3
    clear h3 k3
    go_wp2_with fail
    go_ret
    exact ⟨_, HM.out, HKK.out.trans HK3.out, rfl, H3.out⟩
  · go_wp2_with fail
    refine (spend_ok _ _ _ H2.out hf).mono ?_
    rintro e w3 ⟨rfl, h3, k3⟩
    have H3 := hide h3
    have HK3 := hide k3
    clear h3 k3
    go_wp2_with fail
    go_ret
    exact ⟨_, HM.out, HKK.out.trans HK3.out, fun _ => ⟨rfl, H3.out⟩, fun e => absurd e hf⟩
theorem write_ok (d k : Nat) (bo : Option Addr) (bc : Nat) (ys : List Int) {w : World} {K : Nat → Prop} {a : Nat → Addr} {vss : List (List (List Int))} {fuse : Int} (h : Disk w K a d vss false fuse) (hk : k < vss.length) (hr : Row w bo ys) (hl : ys.length = 256) (hlen : (vss.getD k []).length + 1 ≤ 4294967296) (hf : fuse ≠ 0) :
    Calls Tryd.prog 25 #[.pointer (some ⟨d, 0, none⟩), .int .i64 k, .slice bo 256 bc] w fun e w' => e = .returned .nilIface ∧ Disk w' K a d (vss.set k (vss.getD k [] ++ [ys])) false (burnt fuse) ∧ Kept K w w' := by
  obtain ⟨s, ss, h, rfl⟩ := h
  rw [length_vers] at hk
  obtain ⟨x, hx⟩ := sec_at hk
  rw [vers_at hx] at hlen ⊢
  refine (write_any d k bo bc ys h hk hr hl x hx (by simpa using hlen)).mono ?_
  rintro e w' ⟨x', hx', hkept, h1, _⟩
  exact ⟨(h1 hf).1, ⟨s, _, (h1 hf).2, by rw [vers_set, hx']⟩, hkept⟩
theorem write_burn (d k : Nat) (bo : Option Addr) (bc : Nat) (ys : List Int) {w : World} {K : Nat → Prop} {a : Nat → Addr} {vss : List (List (List Int))} (h : Disk w K a d vss false 0) (hk : k < vss.length) (hr : Row w bo ys) (hl : ys.length = 256) (hlen : (vss.getD k []).length + 1 ≤ 4294967296) :
    Calls Tryd.prog 25 #[.pointer (some ⟨d, 0, none⟩), .int .i64 k, .slice bo 256 bc] w fun e w' => e = .returned (errV (a 0)) ∧ Disk w' K a d (vss.set k (vss.getD k [] ++ [ys])) true 0 ∧ Kept K w w' := by
  obtain ⟨s, ss, h, rfl⟩ := h
  rw [length_vers] at hk
  obtain ⟨x, hx⟩ := sec_at hk
  rw [vers_at hx] at hlen ⊢
  refine (write_any d k bo bc ys h hk hr hl x hx (by simpa using hlen)).mono ?_
  rintro e w' ⟨x', hx', hkept, _, h1⟩
  exact ⟨(h1 rfl).1, ⟨s, _, (h1 rfl).2, by rw [vers_set, hx']⟩, hkept⟩
end Go.Proofs.YtgjhnkadfdcafaaDoor

/- What a disk's Sync answers, at every disk. -/
namespace Go.Proofs.YtgjhnkadfdcafaaDoor
open Go.RowKit
set_option linter.unusedVariables false

/-- The first k of a list turned by f, the rest as they are. -/
def syncTo {α : Type} (f : α → α) (k : Nat) (l : List α) : List α := (l.take k).map f ++ l.drop k
theorem syncTo_zero {α : Type} (f : α → α) (l : List α) : syncTo f 0 l = l := by simp [syncTo]
theorem syncTo_all {α : Type} (f : α → α) (l : List α) : syncTo f l.length l = l.map f := by simp [syncTo]
theorem length_syncTo {α : Type} (f : α → α) (k : Nat) (l : List α) : (syncTo f k l).length = l.length := by simp [syncTo]; omega
theorem syncTo_at {α : Type} (f : α → α) (k : Nat) (l : List α) : (syncTo f k l)[k]? = l[k]? := by
  by_cases h : k < l.length
  · rw [syncTo, List.getElem?_append_right (by simp; omega)]
    simp [Nat.min_eq_left (Nat.le_of_lt h)]
  · rw [List.getElem?_eq_none (by rw [length_syncTo]; omega), List.getElem?_eq_none (by omega)]
theorem syncTo_succ {α : Type} (f : α → α) (k : Nat) (l : List α) (x : α) (h : l[k]? = some x) : (syncTo f k l).set k (f x) = syncTo f (k + 1) l := by
  have hk : k < l.length := (List.getElem?_eq_some_iff.1 h).1
  have hx : l[k] = x := (List.getElem?_eq_some_iff.1 h).2
  unfold syncTo
  rw [List.set_append_right _ _ (by simp; omega), List.take_succ_eq_append_getElem hk, List.drop_eq_getElem_cons hk, hx]
  simp [Nat.min_eq_left (Nat.le_of_lt hk)]
theorem vers_get (ss : List Sec) (i : Nat) : (vers ss)[i]? = (ss[i]?).map fun x => x.vs.map (·.xs) := by simp [vers]

theorem DiskOf.drew {w : World} {K : Nat → Prop} {a : Nat → Addr} {d s : Nat} {ss : List Sec} {off : Bool} {fuse : Int} (h : DiskOf w K a d s ss off fuse) : DiskOf w.drew K a d s ss off fuse := ⟨h.head, h.secs, h.each, h.apart, h.nd, h.ns, h.low, h.many, h.fuseBd, h.errs⟩
theorem DiskOf.drewN {w : World} {K : Nat → Prop} {a : Nat → Addr} {d s : Nat} {ss : List Sec} {off : Bool} {fuse : Int} (h : DiskOf w K a d s ss off fuse) (n : Nat) : DiskOf (w.drewN n) K a d s ss off fuse := ⟨h.head, h.secs, h.each, h.apart, h.nd, h.ns, h.low, h.many, h.fuseBd, h.errs⟩
theorem Disk.drew {w : World} {K : Nat → Prop} {a : Nat → Addr} {d : Nat} {vss : List (List (List Int))} {off : Bool} {fuse : Int} (h : Disk w K a d vss off fuse) : Disk w.drew K a d vss off fuse := by obtain ⟨s, ss, h, e⟩ := h; exact ⟨s, ss, h.drew, e⟩
theorem Kept.of_drew {K : Nat → Prop} {w w1 : World} (h : Kept K w.drew w1) : Kept K w w1 := ⟨h.os, h.tape, h.output, h.size, h.block⟩
theorem sec_keep_int {w : World} {K : Nat → Prop} {a : Nat → Addr} {d s : Nat} {ss : List Sec} {off : Bool} {fuse : Int} (h : DiskOf w K a d s ss off fuse) {i : Nat} {x : Sec} (hx : ss[i]? = some x) (k : Nat) (kk : Int) (hk : kk = k) (p : Part) (hp : x.vs[k]? = some p) :
    Calls Tryd.prog 35 #[.pointer (some ⟨s, i, none⟩), .int .i64 kk] w fun e w' => e = .returned (.tuple #[]) ∧ ∃ v', DiskOf w' K a d s (ss.set i ⟨v', [p]⟩) off fuse ∧ Kept K w w' := by subst hk; exact sec_keep h hx k p hp

set_option maxRecDepth 100000 in
set_option maxHeartbeats 400000 in
theorem sync_off (d : Nat) {w : World} {K : Nat → Prop} {a : Nat → Addr} {vss : List (List (List Int))} {fuse : Int} (h : Disk w K a d vss true fuse) :
    Calls Tryd.prog 33 #[.pointer (some ⟨d, 0, none⟩)] w fun e w' => e = .returned (errV (a 0)) ∧ w' = w := by
  obtain ⟨s, ss, h, rfl⟩ := h
  have h0 := h.c1
  have he := h.e0
  clear h
  go_enter Tryd.func33, Tryd.ntmps33
  go_wp2_with fail
  go_ret
  exact ⟨rfl, rfl⟩
set_option maxRecDepth 100000 in
set_option maxHeartbeats 400000 in
theorem sync_burn (d : Nat) {w : World} {K : Nat → Prop} {a : Nat → Addr} {vss : List (List (List Int))} (h : Disk w K a d vss false 0) :
    Calls Tryd.prog 33 #[.pointer (some ⟨d, 0, none⟩)] w fun e w' => e = .returned (errV (a 0)) ∧ Disk w' K a d vss true 0 ∧ Kept K w w' := by
  obtain ⟨s, ss, h, rfl⟩ := h
  have h0 := h.c1
  have H := hide h
  clear h
  go_enter Tryd.func33, Tryd.ntmps33
  go_wp2_with fail
  refine (spend_burn _ _ _ H.out).mono ?_
  rintro e w1 ⟨rfl, h1, k1⟩
  have H1 := hide h1
  have HK := hide k1
  clear h1 k1
  unfold errV
  go_wp2_with fail
  go_ret
  exact ⟨rfl, ⟨s, ss, H1.out, rfl⟩, HK.out⟩
/-- Behind a Sync a sector has its last version alone. -/
def synced (vs : List (List Int)) : List (List Int) := [lastV vs]
theorem sync_step {ss' : List Sec} {k : Nat} {vss : List (List (List Int))} {x : Sec} {p : Part} {n : Nat} {v' : Value} (he : vers ss' = syncTo synced k vss) (hx : ss'[k]? = some x) (hp : x.vs[n]? = some p) (hn : x.vs.length = n + 1) : vers (ss'.set k ⟨v', [p]⟩) = syncTo synced (k + 1) vss := by
  have h1 : (vers ss')[k]? = some (x.vs.map (·.xs)) := by rw [vers_get, hx]; rfl
  rw [he, syncTo_at] at h1
  rw [vers_set, he]
  have h2 := syncTo_succ synced k vss _ h1
  rw [show synced (x.vs.map (·.xs)) = [p.xs] by rw [synced, lastV_of hp hn]] at h2
  exact h2
theorem last_part {w : World} {K : Nat → Prop} {a : Nat → Addr} {d s : Nat} {ss : List Sec} {off : Bool} {fuse : Int} (h : DiskOf w K a d s ss off fuse) {k : Nat} (hk : k < ss.length) : ∃ x n p, ss[k]? = some x ∧ x.vs.length = n + 1 ∧ x.vs[n]? = some p := by
  obtain ⟨x, hx⟩ := sec_at hk
  have := (h.each x (List.mem_of_getElem? hx)).2.1
  exact ⟨x, x.vs.length - 1, _, hx, by omega, List.getElem?_eq_getElem (by omega)⟩
theorem length_of_vers {ss ss' : List Sec} {f : List (List Int) → List (List Int)} {k : Nat} (h : vers ss' = syncTo f k (vers ss)) : ss'.length = ss.length := by
  have := congrArg List.length h
  rw [length_vers, length_syncTo, length_vers] at this
  exact this
set_option maxRecDepth 100000 in
set_option maxHeartbeats 1000000 in
theorem sync_ok (d : Nat) {w : World} {K : Nat → Prop} {a : Nat → Addr} {vss : List (List (List Int))} {fuse : Int} (h : Disk w K a d vss false fuse) (hf : fuse ≠ 0) :
    Calls Tryd.prog 33 #[.pointer (some ⟨d, 0, none⟩)] w fun e w' => e = .returned .nilIface ∧ Disk w' K a d (vss.map synced) false (burnt fuse) ∧ Kept K w w' := by
  obtain ⟨s, ss, h, rfl⟩ := h
  have h0 := h.c1
  have hm := h.many
  have H := hide h
  clear h
  go_enter Tryd.func33, Tryd.ntmps33
  go_wp2_with fail
  refine (spend_ok _ _ _ H.out hf).mono ?_
  rintro e w1 ⟨rfl, h1, k1⟩
  have h2 := h1.c0
  have H1 := hide h1
  have HK := hide k1
  clear h1 k1 h0 H
  go_wp2_with fail
  go_loopw [20] (fun i wr => ∃ (k : Nat) (ss' : List Sec), k ≤ ss.length ∧ i = .int .i64 k ∧ DiskOf wr K a d s ss' false (burnt fuse) ∧ vers ss' = syncTo synced k (vers ss) ∧ Kept K w wr) (fun i _ => ss.length - (intOf i).toNat)
  case atStart => exact ⟨0, ss, by omega, rfl, H1.out, (syncTo_zero _ _).symm, HK.out⟩
  case round =>
    clear H1 HK h2
    obtain ⟨k, ss', hk, rfl, hd, he, hkept⟩ := hrel
    have hlen := length_of_vers he
    have h3 := hd.c0
    rw [hlen] at h3
    have HD := hide hd
    have HE := hide he
    have HK := hide hkept
    have HL := hide hlen
    clear hd he hkept hlen
    by_cases hlt : k < ss.length
    · obtain ⟨x, n, p, hx, hn, hp⟩ := last_part HD.out (k := k) (by rw [HL.out]; exact hlt)
      have HX := hide hx
      have HN := hide hn
      have HP := hide hp
      clear hx hn hp
      have hki : (k : Int) < (ss.length : Int) := by omega
      go_wp2_with fail
      go_region_held3 (fun w' => w'.cell? ⟨d, 0, none⟩ = some (.slice (some ⟨s, 0, none⟩) ss.length ss.length)) (first | go_keep | assumption)
        (first
          | (go_at_call 59; refine (sec_loose HD.out.drew HX.out).mono ?_; rintro e w2 ⟨rfl, rfl⟩)
          | (go_at_call 35; refine (sec_keep_int HD.out.drew HX.out n _ (by have := HN.out; omega) p HP.out).mono ?_; rintro e w2 ⟨rfl, v', h4, k4⟩; have h5 := h4.c0; rw [List.length_set, HL.out] at h5; have H4 := hide h4; have HK4 := hide k4.of_drew; clear h4 k4))
      go_wp2_with fail
      go_roundw
      case rel => exact ⟨k + 1, _, by omega, by go_num, H4.out, sync_step HE.out HX.out HP.out HN.out, HK.out.trans HK4.out⟩
      case measure => simp [intOf]; omega
    · go_wp2_with fail
      go_ret
      have hk' : k = ss.length := by omega
      refine ⟨rfl, ⟨s, ss', HD.out, ?_⟩, HK.out⟩
      rw [HE.out, hk', ← length_vers, syncTo_all]
end Go.Proofs.YtgjhnkadfdcafaaDoor

/- Which sectors have loose versions, and which version each keeps in a crash: plain lists and numbers. -/
namespace Go.Proofs.YtgjhnkadfdcafaaDoor
set_option linter.unusedVariables false

/-- The versions of sector i. -/
def verOf (vss : List (List (List Int))) (i : Nat) : List (List Int) := vss.getD i []
/-- Of the first k sectors those that have loose versions, and how many. -/
def looseUp (vss : List (List (List Int))) : Nat → List (Nat × Nat)
  | 0 => []
  | k + 1 => if 1 < (verOf vss k).length then looseUp vss k ++ [(k, (verOf vss k).length - 1)] else looseUp vss k
def looseL (vss : List (List (List Int))) : List (Nat × Nat) := looseUp vss vss.length
theorem looseUp_yes {vss : List (List (List Int))} {k : Nat} (h : 1 < (verOf vss k).length) : looseUp vss (k + 1) = looseUp vss k ++ [(k, (verOf vss k).length - 1)] := by rw [looseUp, if_pos h]
theorem looseUp_no {vss : List (List (List Int))} {k : Nat} (h : ¬ 1 < (verOf vss k).length) : looseUp vss (k + 1) = looseUp vss k := by rw [looseUp, if_neg h]
theorem looseUp_le (vss : List (List (List Int))) (k : Nat) : (looseUp vss k).length ≤ k := by
  induction k with
  | zero => simp [looseUp]
  | succ k ih => rw [looseUp]; split <;> (try simp only [List.length_append, List.length_cons, List.length_nil]) <;> omega
theorem looseUp_mono (vss : List (List (List Int))) (k m : Nat) : (looseUp vss k).length ≤ (looseUp vss (k + m)).length := by
  induction m with
  | zero => exact Nat.le_refl _
  | succ m ih => rw [← Nat.add_assoc, looseUp]; split <;> (try simp only [List.length_append, List.length_cons, List.length_nil]) <;> omega
theorem looseUp_at (vss : List (List (List Int))) (i : Nat) (hi : 1 < (verOf vss i).length) : ∀ N, i < N → (looseUp vss N)[(looseUp vss i).length]? = some (i, (verOf vss i).length - 1) := by
  intro N
  induction N with
  | zero => intro h; omega
  | succ N ih =>
    intro h
    by_cases e : i = N
    · subst e
      rw [looseUp_yes hi]
      simp
    · have h1 := ih (by omega)
      rw [looseUp]
      split
      · rw [List.getElem?_append_left (List.getElem?_eq_some_iff.1 h1).1]
        exact h1
      · exact h1
theorem looseUp_of (vss : List (List (List Int))) : ∀ N t, t < (looseUp vss N).length → ∃ i, i < N ∧ 1 < (verOf vss i).length ∧ (looseUp vss i).length = t := by
  intro N
  induction N with
  | zero => intro t h; simp [looseUp] at h
  | succ N ih =>
    intro t h
    by_cases hN : 1 < (verOf vss N).length
    · rw [looseUp_yes hN] at h
      simp only [List.length_append, List.length_cons, List.length_nil] at h
      by_cases e : t < (looseUp vss N).length
      · obtain ⟨i, h1, h2, h3⟩ := ih t e
        exact ⟨i, by omega, h2, h3⟩
      · exact ⟨N, by omega, hN, by omega⟩
    · rw [looseUp_no hN] at h
      obtain ⟨i, h1, h2, h3⟩ := ih t h
      exact ⟨i, by omega, h2, h3⟩
theorem looseL_at {vss : List (List (List Int))} {t : Nat} {q : Nat × Nat} (h : (looseL vss)[t]? = some q) : q.1 < vss.length ∧ 1 < (verOf vss q.1).length ∧ q.2 + 1 = (verOf vss q.1).length ∧ (looseUp vss q.1).length = t := by
  have ht := (List.getElem?_eq_some_iff.1 h).1
  obtain ⟨i, h1, h2, h3⟩ := looseUp_of vss vss.length t ht
  have h4 := looseUp_at vss i h2 vss.length h1
  rw [h3] at h4
  rw [show (looseL vss)[t]? = (looseUp vss vss.length)[t]? from rfl, h4] at h
  cases h
  exact ⟨h1, h2, by simp only; omega, h3⟩
theorem looseL_uniq {vss : List (List (List Int))} {t k : Nat} {q : Nat × Nat} (h : (looseL vss)[t]? = some q) (hk : k < vss.length) (hl : 1 < (verOf vss k).length) (hr : (looseUp vss k).length = t) : k = q.1 := by
  have h1 := looseUp_at vss k hl vss.length hk
  rw [hr] at h1
  rw [show (looseL vss)[t]? = (looseUp vss vss.length)[t]? from rfl, h1] at h
  cases h
  rfl
theorem looseL_le (vss : List (List (List Int))) : (looseL vss).length ≤ vss.length := looseUp_le _ _
theorem looseUp_nil {vss : List (List (List Int))} (h : ∀ k, k < vss.length → (verOf vss k).length ≤ 1) : ∀ N, N ≤ vss.length → looseUp vss N = [] := by
  intro N
  induction N with
  | zero => intro _; rfl
  | succ N ih => intro hN; rw [looseUp_no (by have := h N (by omega); omega)]; exact ih (by omega)
theorem looseL_nil {vss : List (List (List Int))} (h : ∀ k, k < vss.length → (verOf vss k).length ≤ 1) : looseL vss = [] := looseUp_nil h _ (Nat.le_refl _)

/-- Which of n versions the one of rank i keeps. -/
def choiceB (zs : List Int) (i n : Nat) : Nat := if zs.length ≤ i ∨ zs.getD i 0 < 0 then 0 else (zs.getD i 0 % n).toNat
theorem choiceB_lt (zs : List Int) (i n : Nat) (h : 0 < n) : choiceB zs i n < n := by
  unfold choiceB
  split
  · exact h
  · have h1 := Int.emod_nonneg (zs.getD i 0) (show (n : Int) ≠ 0 by omega)
    have h2 := Int.emod_lt_of_pos (zs.getD i 0) (show (0 : Int) < n by omega)
    omega
/-- What sector k has behind a crash. -/
def crashedSec (zs : List Int) (vss : List (List (List Int))) (k : Nat) : List (List Int) :=
  if 1 < (verOf vss k).length then [(verOf vss k).getD (choiceB zs (looseUp vss k).length (verOf vss k).length) []] else verOf vss k
/-- What all sectors have, the first t loose ones crashed. -/
def crashUp (zs : List Int) (vss : List (List (List Int))) (t : Nat) : List (List (List Int)) :=
  (List.range vss.length).map fun k => if (looseUp vss k).length < t then crashedSec zs vss k else verOf vss k
def crashed (zs : List Int) (vss : List (List (List Int))) : List (List (List Int)) := (List.range vss.length).map (crashedSec zs vss)
theorem length_crashUp (zs : List Int) (vss : List (List (List Int))) (t : Nat) : (crashUp zs vss t).length = vss.length := by simp [crashUp]
theorem length_crashed (zs : List Int) (vss : List (List (List Int))) : (crashed zs vss).length = vss.length := by simp [crashed]
theorem range_self (vss : List (List (List Int))) : (List.range vss.length).map (verOf vss) = vss := by
  apply List.ext_getElem
  · simp
  · intro i h1 h2
    simp [verOf, List.getD_eq_getElem?_getD, List.getElem?_eq_getElem h2]
theorem crashUp_zero (zs : List Int) (vss : List (List (List Int))) : crashUp zs vss 0 = vss := by
  unfold crashUp
  simp only [Nat.not_lt_zero, if_false]
  exact range_self vss
theorem crashUp_get {zs : List Int} {vss : List (List (List Int))} {t k : Nat} (hk : k < vss.length) : (crashUp zs vss t)[k]? = some (if (looseUp vss k).length < t then crashedSec zs vss k else verOf vss k) := by
  unfold crashUp
  rw [List.getElem?_map, List.getElem?_range hk]
  rfl
theorem crashUp_at {zs : List Int} {vss : List (List (List Int))} {t : Nat} {q : Nat × Nat} (h : (looseL vss)[t]? = some q) : (crashUp zs vss t)[q.1]? = some (verOf vss q.1) := by
  obtain ⟨h1, h2, h3, h4⟩ := looseL_at h
  rw [crashUp_get h1, if_neg (by omega)]
theorem crashUp_succ {zs : List Int} {vss : List (List (List Int))} {t : Nat} {q : Nat × Nat} (h : (looseL vss)[t]? = some q) : (crashUp zs vss t).set q.1 [(verOf vss q.1).getD (choiceB zs t (q.2 + 1)) []] = crashUp zs vss (t + 1) := by
  obtain ⟨h1, h2, h3, h4⟩ := looseL_at h
  apply List.ext_getElem?
  intro k
  by_cases k2 : k < vss.length
  · rw [List.getElem?_set]
    by_cases e : q.1 = k
    · rw [if_pos e, if_pos (by rw [length_crashUp]; exact h1)]
      subst e
      rw [crashUp_get k2, if_pos (by omega), crashedSec, if_pos h2, h4, h3]
    · rw [if_neg e, crashUp_get k2, crashUp_get k2]
      by_cases e1 : (looseUp vss k).length < t
      · rw [if_pos e1, if_pos (by omega)]
      · rw [if_neg e1]
        by_cases e2 : (looseUp vss k).length < t + 1
        · rw [if_pos e2, crashedSec]
          by_cases e3 : 1 < (verOf vss k).length
          · exact absurd (looseL_uniq h k2 e3 (by omega)).symm e
          · rw [if_neg e3]
        · rw [if_neg e2]
  · rw [List.getElem?_eq_none (by rw [List.length_set, length_crashUp]; omega), List.getElem?_eq_none (by rw [length_crashUp]; omega)]
theorem crashUp_all (zs : List Int) (vss : List (List (List Int))) : crashUp zs vss (looseL vss).length = crashed zs vss := by
  unfold crashUp crashed
  apply List.map_congr_left
  intro k hk
  have hk' : k < vss.length := by simpa using hk
  by_cases e : (looseUp vss k).length < (looseL vss).length
  · rw [if_pos e]
  · rw [if_neg e, crashedSec]
    by_cases e3 : 1 < (verOf vss k).length
    · have := looseUp_at vss k e3 vss.length hk'
      exact absurd (List.getElem?_eq_some_iff.1 this).1 e
    · rw [if_neg e3]
theorem verOf_crashed {zs : List Int} {vss : List (List (List Int))} {k : Nat} (hk : k < vss.length) : verOf (crashed zs vss) k = crashedSec zs vss k := by
  simp [verOf, crashed, List.getD_eq_getElem?_getD, List.getElem?_range hk]
theorem crashedSec_one {zs : List Int} {vss : List (List (List Int))} {k : Nat} (h : 1 ≤ (verOf vss k).length) : (crashedSec zs vss k).length = 1 := by
  unfold crashedSec
  split
  · rfl
  · omega
/-- What a sector has behind a crash is one of its versions. -/
theorem crashedSec_mem {zs : List Int} {vss : List (List (List Int))} {k : Nat} (h : 1 ≤ (verOf vss k).length) : ∃ v ∈ verOf vss k, crashedSec zs vss k = [v] := by
  unfold crashedSec
  split
  · rename_i h1
    have h2 := choiceB_lt zs (looseUp vss k).length (verOf vss k).length (by omega)
    refine ⟨(verOf vss k)[choiceB zs (looseUp vss k).length (verOf vss k).length], List.getElem_mem h2, ?_⟩
    rw [List.getD_eq_getElem?_getD, List.getElem?_eq_getElem h2]
    rfl
  · have h1 : (verOf vss k).length = 1 := by omega
    obtain ⟨v, hv⟩ := List.length_eq_one_iff.1 h1
    exact ⟨v, by rw [hv]; simp, hv⟩
end Go.Proofs.YtgjhnkadfdcafaaDoor
