/- Lemmas and contracts that the law stands on, joined: BSaysMath, WalMath, WalMath2. -/
import Derived.Test.YtjacenhblclkaaaDoorJoin22
import Derived.Test.YtjacenhblclkaaaDoorJoin5
import Derived.Test.YtjacenhblclkaaaDoorJoin26
import Derived.Test.YtjacenhblclkaaaDoorJoin27
/- The answers of block.Bytes, block.Read and of the document's own functions, told alike: what is the same of both. -/
namespace Go.Proofs.YtjacenhblclkaaaDoor
open Go.RowKit
set_option linter.unusedVariables false

def ansB (e : Int) (rs : List R) : List Int := if okB e rs then blockB e rs else []
def codB (e : Int) (rs : List R) : Int := if okB e rs then 0 else 102
theorem ansB_len (e : Int) (rs : List R) : (ansB e rs).length = 256 ∨ (ansB e rs).length = 0 := by
  unfold ansB
  cases h : okB e rs with
  | true => exact .inl (length_blockB _ _ ((okB_iff e rs).1 h).1.2.2.2)
  | false => exact .inr rfl
theorem bb_uni {e : Int} {ao : Option Addr} {n cap : Nat} {rs : List R} {w : World} {a : Nat → Addr} (hE : BlkErrs w (a 1) (a 2) (a 3) (a 4)) (h : RecRow w ao rs) (hn : rs.length = n) :
    Calls Tryd.prog 101 #[.int .i64 e, .slice ao n cap] w fun r w' => ∃ xo xn xc fv, r = .returned (.tuple #[.slice xo xn xc, fv]) ∧ (ansB e rs).length = xn ∧ Row w' xo (ansB e rs) ∧ ErrCode a fv (codB e rs) ∧ Below w.heap.size w w' := by
  refine (bb_any e ao n cap rs w _ hE.rd.range h hn).mono ?_
  rintro r w' ⟨⟨hok, g, rfl, _, hown⟩ | ⟨hok, rfl⟩, hb⟩
  · have h1 : ansB e rs = blockB e rs := by unfold ansB; rw [hok]; rfl
    have h2 : codB e rs = 0 := by unfold codB; rw [hok]; rfl
    rw [h1, h2]
    exact ⟨_, 256, 256, _, rfl, length_blockB _ _ ((okB_iff e rs).1 hok).1.2.2.2, hown.row, .inl ⟨rfl, rfl⟩, hb⟩
  · have h1 : ansB e rs = [] := by unfold ansB; rw [hok]; rfl
    have h2 : codB e rs = 102 := by unfold codB; rw [hok]; rfl
    rw [h1, h2]
    exact ⟨none, 0, 0, _, rfl, rfl, row_nil _, .inr ⟨1, by omega, rfl, by omega⟩, hb⟩
/-- What a list of bytes is as a block: its epoch, its records, the error's number. -/
def isAns (xs : List Int) : Bool := decide (xs.length = 256) && (!zeroB xs && isBlock xs)
def ansN (xs : List Int) : Int := if isAns xs then epochOf xs else 0
def ansR (xs : List Int) : List R := if isAns xs then recsOf xs else []
def ansC (xs : List Int) : Int := if xs.length ≠ 256 then 103 else if zeroB xs then 0 else if isBlock xs then 0 else 105
theorem ans_cases (xs : List Int) : (xs.length ≠ 256 ∧ ansN xs = 0 ∧ ansR xs = [] ∧ ansC xs = 103) ∨ (xs.length = 256 ∧ zeroB xs = true ∧ ansN xs = 0 ∧ ansR xs = [] ∧ ansC xs = 0) ∨ (xs.length = 256 ∧ zeroB xs = false ∧ isBlock xs = true ∧ ansN xs = epochOf xs ∧ ansR xs = recsOf xs ∧ ansC xs = 0) ∨ (xs.length = 256 ∧ zeroB xs = false ∧ isBlock xs = false ∧ ansN xs = 0 ∧ ansR xs = [] ∧ ansC xs = 105) := by
  by_cases hl : xs.length = 256
  · cases hz : zeroB xs with
    | true => exact .inr (.inl ⟨hl, rfl, by simp [ansN, isAns, hz], by simp [ansR, isAns, hz], by simp [ansC, hl, hz]⟩)
    | false =>
      cases hb : isBlock xs with
      | true => exact .inr (.inr (.inl ⟨hl, rfl, rfl, by simp [ansN, isAns, hl, hz, hb], by simp [ansR, isAns, hl, hz, hb], by simp [ansC, hl, hz, hb]⟩))
      | false => exact .inr (.inr (.inr ⟨hl, rfl, rfl, by simp [ansN, isAns, hb], by simp [ansR, isAns, hb], by simp [ansC, hl, hz, hb]⟩))
  · exact .inl ⟨hl, by simp [ansN, isAns, hl], by simp [ansR, isAns, hl], by simp [ansC, hl]⟩
theorem Cells10.under {w w' : World} {B n : Nat} {r : R} (h : Cells10 w B r) (hb : Below n w w') (hn : B < n) : Cells10 w' B r := by
  have h0 : ∀ o, w'.cell? ⟨B, o, none⟩ = w.cell? ⟨B, o, none⟩ := fun o => hb.cell (show B < n from hn)
  exact ⟨(h0 _).trans h.c0, (h0 _).trans h.c1, (h0 _).trans h.c2, (h0 _).trans h.c3, (h0 _).trans h.c4, (h0 _).trans h.c5, (h0 _).trans h.c6, (h0 _).trans h.c7, (h0 _).trans h.c8, (h0 _).trans h.c9, Nat.lt_of_lt_of_le h.lt hb.size⟩
theorem cells4 {w : World} {x y z u : Value} {k : Nat} (hk : k < 4) : (w.alloc (.cells #[x, y, z, u] 44)).cell? ⟨w.heap.size, k, none⟩ = some ([x, y, z, u].getD k undef) := by
  rw [cell_row (heap_alloc_new w (.cells #[x, y, z, u] 44))]
  rcases (show k = 0 ∨ k = 1 ∨ k = 2 ∨ k = 3 by omega) with rfl | rfl | rfl | rfl <;> rfl
/-- One of four lists of bytes: where it lies, its bytes. -/
def Four (W : World) (G : Nat) : Prop := ∀ k, k < 4 → ∃ ao n c, ∃ xs : List Int, W.cell? ⟨G, k, none⟩ = some (.slice ao n c) ∧ Row W ao xs ∧ xs.length = n ∧ n ≤ c
theorem four_of {w : World} {o1 o2 o3 o4 : Option Addr} {n1 n2 n3 n4 c1 c2 c3 c4 : Nat} {x1 x2 x3 x4 : List Int} (h1 : Row w o1 x1 ∧ x1.length = n1 ∧ n1 ≤ c1) (h2 : Row w o2 x2 ∧ x2.length = n2 ∧ n2 ≤ c2) (h3 : Row w o3 x3 ∧ x3.length = n3 ∧ n3 ≤ c3) (h4 : Row w o4 x4 ∧ x4.length = n4 ∧ n4 ≤ c4) :
    Four (w.alloc (.cells #[.slice o1 n1 c1, .slice o2 n2 c2, .slice o3 n3 c3, .slice o4 n4 c4] 44)) w.heap.size := by
  intro k hk
  have hb := below_box w (.cells #[.slice o1 n1 c1, .slice o2 n2 c2, .slice o3 n3 c3, .slice o4 n4 c4] 44)
  have hc := cells4 (w := w) (x := .slice o1 n1 c1) (y := .slice o2 n2 c2) (z := .slice o3 n3 c3) (u := .slice o4 n4 c4) hk
  rcases (show k = 0 ∨ k = 1 ∨ k = 2 ∨ k = 3 by omega) with rfl | rfl | rfl | rfl
  · exact ⟨_, _, _, x1, hc, h1.1.below hb (Nat.le_refl _), h1.2.1, h1.2.2⟩
  · exact ⟨_, _, _, x2, hc, h2.1.below hb (Nat.le_refl _), h2.2.1, h2.2.2⟩
  · exact ⟨_, _, _, x3, hc, h3.1.below hb (Nat.le_refl _), h3.2.1, h3.2.2⟩
  · exact ⟨_, _, _, x4, hc, h4.1.below hb (Nat.le_refl _), h4.2.1, h4.2.2⟩
theorem IsRow.le {w : World} {a : Option Addr} {len cap : Nat} {zs : List Int} (h : IsRow .u8 w a len cap zs) : len ≤ cap := by
  rcases h with ⟨_, h2, h3, _⟩ | ⟨a, rfl, h1, h2, h3, h4, h5⟩ <;> omega
end Go.Proofs.YtjacenhblclkaaaDoor

/- Plain lemmas on logs: what blocks one behind the other say when they are read; that what was flushed is read again, whatever versions a crash keeps. No Go text here. -/
namespace Go.Proofs.YtjacenhblclkaaaDoor
open Go.RowKit
set_option linter.unusedVariables false

/-- The records of block k. -/
def chunk (rs : List R) (k : Nat) : List R := (rs.drop (6 * k)).take 6
theorem length_chunk (rs : List R) (k : Nat) : (chunk rs k).length = min 6 (rs.length - 6 * k) := by simp [chunk]
theorem chunk_take (rs : List R) (k q : Nat) (h : q ≤ 6) : (chunk rs k).take q = (rs.drop (6 * k)).take q := by
  unfold chunk
  rw [List.take_take, Nat.min_eq_left h]
theorem take_chunk (rs : List R) (k q : Nat) (h : q ≤ 6) : rs.take (6 * k) ++ (chunk rs k).take q = rs.take (6 * k + q) := by
  rw [chunk_take rs k q h, List.take_add]
theorem chunk_more (rs ts : List R) (k q : Nat) (h : q ≤ (chunk rs k).length) : (chunk (rs ++ ts) k).take q = (chunk rs k).take q := by
  rw [length_chunk] at h
  rw [chunk_take _ _ _ (by omega), chunk_take _ _ _ (by omega), List.drop_append, List.take_append_of_le_length (by simp; omega)]
theorem chunk_of_take (rs : List R) (m k q : Nat) (hq : q ≤ 6) (h : 6 * k + q ≤ m) : (chunk (rs.take m) k).take q = (chunk rs k).take q := by
  rw [chunk_take _ _ _ hq, chunk_take _ _ _ hq, List.drop_take, List.take_take, Nat.min_eq_left (by omega)]
theorem chunk_self (rs : List R) (k : Nat) : (chunk rs k).take 6 = chunk rs k := by rw [List.take_of_length_le]; rw [length_chunk]; omega
theorem mem_chunk {rs : List R} {k q : Nat} {r : R} (h : r ∈ (chunk rs k).take q) : r ∈ rs := List.mem_of_mem_drop (List.mem_of_mem_take (List.mem_of_mem_take h))

/-- What is read of blocks from k on, at most n of them: the records, and the place of the one that can't be (-1: none). -/
def openUp (rd : Nat → List Int) (ep : Int) : Nat → Nat → Int → List R → List R × Int
  | 0, _, _, acc => (acc, -1)
  | n + 1, k, least, acc =>
    if ansC (rd k) ≠ 0 then ([], (k : Int)) else if (ansR (rd k)).length = 0 then (acc, -1) else if ep ≤ ansN (rd k) then ([], (k : Int)) else if ansN (rd k) < least then (acc, -1) else if (ansR (rd k)).length < 6 then (acc ++ ansR (rd k), -1) else openUp rd ep n (k + 1) (ansN (rd k)) (acc ++ ansR (rd k))
theorem open_none {rd : Nat → List Int} {ep : Int} {n k : Nat} {least : Int} {acc : List R} (h1 : ansC (rd k) = 0) (h2 : ansR (rd k) = []) : openUp rd ep (n + 1) k least acc = (acc, -1) := by
  rw [openUp, if_neg (by simp [h1]), if_pos (by rw [h2]; rfl)]
theorem open_less {rd : Nat → List Int} {ep : Int} {n k : Nat} {least : Int} {acc : List R} (h1 : ansC (rd k) = 0) (h2 : ansN (rd k) < ep) (h3 : ansN (rd k) < least) : openUp rd ep (n + 1) k least acc = (acc, -1) := by
  rw [openUp, if_neg (by simp [h1])]
  by_cases h0 : (ansR (rd k)).length = 0
  · rw [if_pos h0]
  · rw [if_neg h0, if_neg (by omega), if_pos h3]
theorem open_part {rd : Nat → List Int} {ep : Int} {n k : Nat} {least : Int} {acc : List R} (h1 : ansC (rd k) = 0) (h0 : 1 ≤ (ansR (rd k)).length) (h2 : ansN (rd k) < ep) (h3 : least ≤ ansN (rd k)) (h4 : (ansR (rd k)).length < 6) : openUp rd ep (n + 1) k least acc = (acc ++ ansR (rd k), -1) := by
  rw [openUp, if_neg (by simp [h1]), if_neg (by omega), if_neg (by omega), if_neg (by omega), if_pos h4]
theorem open_full {rd : Nat → List Int} {ep : Int} {n k : Nat} {least : Int} {acc : List R} (h1 : ansC (rd k) = 0) (h2 : ansN (rd k) < ep) (h3 : least ≤ ansN (rd k)) (h4 : (ansR (rd k)).length = 6) : openUp rd ep (n + 1) k least acc = openUp rd ep n (k + 1) (ansN (rd k)) (acc ++ ansR (rd k)) := by
  rw [openUp, if_neg (by simp [h1]), if_neg (by omega), if_neg (by omega), if_neg (by omega), if_neg (by omega)]
theorem block_not_zero (e : Int) (rs : List R) (h : rs.length ≤ 6) : zeroB (blockB e rs) = false := blockB_not_zero e rs h _ (length_blockB e rs h) 300 fun i _ => rfl
/-- What a block that may be is read as. -/
theorem ans_block {e : Int} {rs : List R} (he : 1 ≤ e ∧ e ≤ 1073741824) (h0 : 1 ≤ rs.length) (h6 : rs.length ≤ 6) (hg : ∀ r ∈ rs, goodB r = true ∧ r.fits) : ansN (blockB e rs) = e ∧ ansR (blockB e rs) = rs ∧ ansC (blockB e rs) = 0 := by
  obtain ⟨h1, h2, h3⟩ := isBlock_blockB e rs ((okB_iff e rs).2 ⟨⟨he.1, he.2, h0, h6⟩, fun r hr => (hg r hr).1⟩) fun r hr => (hg r hr).2
  have hz := block_not_zero e rs h6
  have hl := length_blockB e rs h6
  rcases ans_cases (blockB e rs) with ⟨q, _⟩ | ⟨_, q, _⟩ | ⟨_, _, _, q1, q2, q3⟩ | ⟨_, _, q, _⟩
  · exact absurd hl q
  · rw [hz] at q; cases q
  · exact ⟨q1.trans h2, q2.trans h3, q3⟩
  · rw [h1] at q; cases q
/-- A sector that no boot from m on has written: zeros, or a block of a boot ahead. -/
def OldV (m : Int) (v : List Int) : Prop := v.length = 256 ∧ (zeroB v = true ∨ (zeroB v = false ∧ isBlock v = true ∧ epochOf v < m))
theorem OldV.mono {m m' : Int} {v : List Int} (h : OldV m v) (hm : m ≤ m') : OldV m' v := ⟨h.1, h.2.imp id fun ⟨a, b, c⟩ => ⟨a, b, by omega⟩⟩
theorem ans_old {m : Int} {v : List Int} (h : OldV m v) : ansC v = 0 ∧ (ansR v = [] ∨ ansN v < m) := by
  rcases ans_cases v with ⟨q, _⟩ | ⟨_, q, _, q2, q3⟩ | ⟨_, hz, hb, q1, q2, q3⟩ | ⟨_, hz, hb, _⟩
  · exact absurd h.1 q
  · exact ⟨q3, .inl q2⟩
  · refine ⟨q3, .inr ?_⟩
    rcases h.2 with h1 | ⟨_, _, h1⟩
    · rw [hz] at h1; cases h1
    · rw [q1]; exact h1
  · rcases h.2 with h1 | ⟨_, h1, _⟩
    · rw [hz] at h1; cases h1
    · rw [hb] at h1; cases h1
/-- A version that the boot ep has written of the records c: some of them, from the first on. -/
def NewV (ep : Int) (c : List R) (v : List Int) : Prop := ∃ q, 1 ≤ q ∧ q ≤ c.length ∧ v = blockB ep (c.take q)
/-- What a block must not be below when it is read as number k. -/
def leastOf (e : Nat → Int) (k : Nat) : Int := if k = 0 then 1 else e (k - 1)
/-- A log on a disk in the boot ep: its records, how many are flushed, each block's versions, and which boot the flushed ones are of. -/
structure Walk (N : Nat) (ep : Int) (rs : List R) (D : Nat) (V : Nat → List (List Int)) (e : Nat → Int) : Prop where
  ep0 : 1 ≤ ep
  ep1 : ep ≤ 1073741824
  good : ∀ r ∈ rs, goodB r = true ∧ r.fits
  len : rs.length ≤ 6 * N
  dle : D ≤ rs.length
  epos : ∀ k, 6 * k < D → 1 ≤ e k ∧ e k ≤ ep
  mono : ∀ k, 6 * (k + 1) < D → e k ≤ e (k + 1)
  full : ∀ k, 6 * (k + 1) ≤ D → ∀ v ∈ V k, v = blockB (e k) (chunk rs k)
  part : ∀ k, 6 * k < D → D < 6 * (k + 1) → ∀ v ∈ V k, v = blockB (e k) ((chunk rs k).take (D - 6 * k)) ∨ ∃ q, D - 6 * k ≤ q ∧ q ≤ (chunk rs k).length ∧ v = blockB ep ((chunk rs k).take q)
  more : ∀ k, D ≤ 6 * k → k < N → ∀ v ∈ V k, NewV ep (chunk rs k) v ∨ OldV (if D = 6 * k then leastOf e k else ep) v
/-- What is read from block k on, of whatever versions: a beginning of the records, with all that was flushed. -/
theorem Walk.reads {N : Nat} {ep : Int} {rs : List R} {D : Nat} {V : Nat → List (List Int)} {e : Nat → Int} (h : Walk N ep rs D V e) (c : Nat → List Int) (hc : ∀ k, k < N → c k ∈ V k) (ep' : Int) (hep : ep < ep') :
    ∀ (n k : Nat) (least : Int), k + n = N → 6 * k ≤ rs.length → (6 * k ≤ D → least = leastOf e k) → (D < 6 * k → least = ep) → 
    ∃ m, D ≤ m ∧ 6 * k ≤ m ∧ m ≤ rs.length ∧ openUp c ep' n k least (rs.take (6 * k)) = (rs.take m, -1) ∧
      (∀ j, k ≤ j → 6 * j < m → c j = blockB (ansN (c j)) ((chunk rs j).take (m - 6 * j)) ∧ 1 ≤ ansN (c j) ∧ ansN (c j) ≤ ep) ∧
      (∀ j, k ≤ j → 6 * (j + 1) < m → ansN (c j) ≤ ansN (c (j + 1))) ∧ (6 * k < m → least ≤ ansN (c k)) ∧
      (∀ j, k ≤ j → j < N → m = 6 * j → OldV (if j = k then least else ansN (c (j - 1))) (c j)) := by
  have hblk : ∀ (k q : Nat) (ε : Int), 1 ≤ ε → ε ≤ ep → 1 ≤ q → q ≤ (chunk rs k).length → c k = blockB ε ((chunk rs k).take q) → ansN (c k) = ε ∧ ansR (c k) = (chunk rs k).take q ∧ ansC (c k) = 0 ∧ (ansR (c k)).length = q := by
    intro k q ε h0 h1 h2 h3 h4
    have hl := length_chunk rs k
    have e1 : ((chunk rs k).take q).length = q := by rw [List.length_take]; omega
    obtain ⟨a1, a2, a3⟩ := ans_block (e := ε) (rs := (chunk rs k).take q) ⟨h0, by have := h.ep1; omega⟩ (by omega) (by omega) fun r hr => h.good r (mem_chunk hr)
    rw [← h4] at a1 a2 a3
    exact ⟨a1, a2, a3, by rw [a2, e1]⟩
  intro n
  induction n with
  | zero =>
    intro k least hk hkr hA hB
    have hl := h.len
    have hd := h.dle
    have e1 : rs.length = 6 * k := by omega
    refine ⟨6 * k, by omega, Nat.le_refl _, by omega, rfl, ?_, ?_, ?_, ?_⟩
    · intro j h1 h2; omega
    · intro j h1 h2; omega
    · intro h1; omega
    · intro j h1 h2; omega
  | succ n ih =>
    intro k least hk hkr hA hB
    have hkN : k < N := by omega
    have hv := hc k hkN
    have hlc := length_chunk rs k
    have hdl := h.dle
    -- the block is read as q records of the boot ε, and is not below 'least'
    have key : ∀ (q : Nat) (ε : Int), 1 ≤ ε → ε ≤ ep → 1 ≤ q → q ≤ (chunk rs k).length → c k = blockB ε ((chunk rs k).take q) → least ≤ ε → D ≤ 6 * k + q ∨ q = 6 → (q = 6 → 6 * (k + 1) ≤ D → ε = e k) → (q = 6 → D < 6 * (k + 1) → ε = ep) →
        ∃ m, D ≤ m ∧ 6 * k ≤ m ∧ m ≤ rs.length ∧ openUp c ep' (n + 1) k least (rs.take (6 * k)) = (rs.take m, -1) ∧
      (∀ j, k ≤ j → 6 * j < m → c j = blockB (ansN (c j)) ((chunk rs j).take (m - 6 * j)) ∧ 1 ≤ ansN (c j) ∧ ansN (c j) ≤ ep) ∧
      (∀ j, k ≤ j → 6 * (j + 1) < m → ansN (c j) ≤ ansN (c (j + 1))) ∧ (6 * k < m → least ≤ ansN (c k)) ∧
      (∀ j, k ≤ j → j < N → m = 6 * j → OldV (if j = k then least else ansN (c (j - 1))) (c j)) := by
      intro q ε h0 h1 h2 h3 h4 h5 h6 h7 h8
      obtain ⟨a1, a2, a3, a4⟩ := hblk k q ε h0 h1 h2 h3 h4
      by_cases hq : q < 6
      · refine ⟨6 * k + q, by omega, by omega, by omega, ?_, ?_, ?_, fun _ => by rw [a1]; exact h5, ?_⟩
        · rw [open_part a3 (by omega) (by omega) (by omega) (by omega), a2, take_chunk rs k q (by omega)]
        · intro j hj hjm
          have hjk : j = k := by omega
          subst hjk
          rw [a1, show 6 * j + q - 6 * j = q by omega]
          exact ⟨h4, h0, h1⟩
        · intro j hj hjm; omega
        · intro j hj hjN hjm; omega
      · have hq6 : q = 6 := by omega
        subst hq6
        have hkr2 : 6 * (k + 1) ≤ rs.length := by omega
        obtain ⟨m, m1, m2, m3, m4, m5, m6, m7, m8⟩ := ih (k + 1) ε (by omega) hkr2 (fun hd => by
            rw [leastOf, if_neg (by omega)]
            exact h7 rfl hd) (fun hd => h8 rfl hd)
        refine ⟨m, m1, by omega, m3, ?_, ?_, ?_, fun _ => by rw [a1]; exact h5, ?_⟩
        · rw [open_full a3 (by omega) (by omega) a4, a1, a2, take_chunk rs k 6 (by omega), show 6 * k + 6 = 6 * (k + 1) by omega]
          exact m4
        · intro j hj hjm
          by_cases hjk : j = k
          · subst hjk
            rw [a1]
            refine ⟨?_, h0, h1⟩
            rw [h4]
            congr 1
            rw [List.take_of_length_le (by omega), List.take_of_length_le (by omega)]
          · exact m5 j (by omega) hjm
        · intro j hj hjm
          by_cases hjk : j = k
          · subst hjk
            rw [a1]
            exact m7 (by omega)
          · exact m6 j (by omega) hjm
        · intro j hj hjN hjm
          by_cases hjk : j = k
          · omega
          · rw [if_neg hjk]
            have h9 := m8 j (by omega) hjN hjm
            by_cases hj1 : j = k + 1
            · rw [if_pos hj1] at h9
              rw [show j - 1 = k by omega, a1]
              exact h9
            · rw [if_neg hj1] at h9
              exact h9
    have hlo : ∀ ε, 6 * k < D → ε = e k ∨ ε = ep → least ≤ ε := by
      intro ε hd he
      have hpk := h.epos k hd
      have hle : least ≤ e k := by
        rw [hA (by omega), leastOf]
        split
        · exact hpk.1
        · rename_i hk0
          have := h.mono (k - 1) (by rw [show k - 1 + 1 = k by omega]; exact hd)
          rwa [show k - 1 + 1 = k by omega] at this
      rcases he with rfl | rfl
      · exact hle
      · exact Int.le_trans hle hpk.2
    by_cases hf : 6 * (k + 1) ≤ D
    · have hpk := h.epos k (by omega)
      have hv1 := h.full k hf _ hv
      refine key 6 (e k) hpk.1 hpk.2 (by omega) (by omega) ?_ (hlo _ (by omega) (.inl rfl)) (.inr rfl) (fun _ _ => rfl) (fun _ hd => by omega)
      rw [chunk_self]
      exact hv1
    · by_cases hp : 6 * k < D
      · have hpk := h.epos k hp
        rcases h.part k hp (by omega) _ hv with hv1 | ⟨q, q1, q2, hv1⟩
        · exact key (D - 6 * k) (e k) hpk.1 hpk.2 (by omega) (by omega) hv1 (hlo _ hp (.inl rfl)) (.inl (by omega)) (fun hq _ => by omega) (fun hq _ => by omega)
        · exact key q ep h.ep0 (Int.le_refl _) (by omega) q2 hv1 (hlo _ hp (.inr rfl)) (.inl (by omega)) (fun hq hd => by omega) (fun _ _ => rfl)
      · have hle : least ≤ ep := by
          by_cases hd : D = 6 * k
          · rw [hA (by omega), leastOf]
            split
            · exact h.ep0
            · exact (h.epos (k - 1) (by omega)).2
          · rw [hB (by omega)]; exact Int.le_refl _
        rcases h.more k (by omega) hkN _ hv with ⟨q, q1, q2, hv1⟩ | hold
        · exact key q ep h.ep0 (Int.le_refl _) q1 q2 hv1 hle (.inl (by omega)) (fun hq hd => by omega) (fun _ _ => rfl)
        · have hold2 : OldV least (c k) := by
            by_cases hd : D = 6 * k
            · rw [if_pos hd] at hold
              rw [hA (by omega)]
              exact hold
            · rw [if_neg hd] at hold
              rw [hB (by omega)]
              exact hold
          obtain ⟨a1, a2⟩ := ans_old hold2
          refine ⟨6 * k, by omega, Nat.le_refl _, hkr, ?_, ?_, ?_, fun h1 => by omega, ?_⟩
          · rcases a2 with a2 | a2
            · exact open_none a1 a2
            · exact open_less a1 (by omega) a2
          · intro j h1 h2; omega
          · intro j h1 h2; omega
          · intro j h1 h2 h3
            have hjk : j = k := by omega
            rw [if_pos hjk, hjk]
            exact hold2
end Go.Proofs.YtjacenhblclkaaaDoor

/- Plain lemmas on logs: records appended, blocks written, a Sync, a log opened again: each leaves a log as it should be. No Go text here. -/
namespace Go.Proofs.YtjacenhblclkaaaDoor
open Go.RowKit
set_option linter.unusedVariables false

theorem chunk_grown {rs ts : List R} {k : Nat} (h : 6 * (k + 1) ≤ rs.length) : chunk (rs ++ ts) k = chunk rs k := by
  have h1 := chunk_more rs ts k 6 (by rw [length_chunk]; omega)
  rwa [chunk_self, chunk_self] at h1
theorem length_chunk_le (rs ts : List R) (k : Nat) : (chunk rs k).length ≤ (chunk (rs ++ ts) k).length := by
  rw [length_chunk, length_chunk, List.length_append]
  omega
/-- Records are appended. -/
theorem Walk.append {N : Nat} {ep : Int} {rs : List R} {D : Nat} {V : Nat → List (List Int)} {e : Nat → Int} (h : Walk N ep rs D V e) (ts : List R) (hg : ∀ r ∈ ts, goodB r = true ∧ r.fits) (hl : rs.length + ts.length ≤ 6 * N) : Walk N ep (rs ++ ts) D V e := by
  have hd := h.dle
  refine ⟨h.ep0, h.ep1, fun r hr => ?_, by rw [List.length_append]; omega, by rw [List.length_append]; omega, h.epos, h.mono, fun k hk v hv => ?_, fun k h1 h2 v hv => ?_, fun k h1 h2 v hv => ?_⟩
  · rcases List.mem_append.1 hr with h1 | h1
    · exact h.good r h1
    · exact hg r h1
  · rw [chunk_grown (by omega)]
    exact h.full k hk v hv
  · have hc := length_chunk rs k
    have hm := length_chunk_le rs ts k
    rcases h.part k h1 h2 v hv with h3 | ⟨q, q1, q2, h3⟩
    · refine .inl ?_
      rw [chunk_more rs ts k _ (by omega)]
      exact h3
    · refine .inr ⟨q, q1, by omega, ?_⟩
      rw [chunk_more rs ts k q q2]
      exact h3
  · have hm := length_chunk_le rs ts k
    rcases h.more k h1 h2 v hv with ⟨q, q1, q2, h3⟩ | h3
    · refine .inl ⟨q, q1, by omega, ?_⟩
      rw [chunk_more rs ts k q q2]
      exact h3
    · exact .inr h3
/-- One block's versions, one more. -/
def addV (V : Nat → List (List Int)) (k : Nat) (b : List Int) (j : Nat) : List (List Int) := if j = k then V k ++ [b] else V j
theorem mem_addV {V : Nat → List (List Int)} {k j : Nat} {b v : List Int} (h : v ∈ addV V k b j) : v ∈ V j ∨ (j = k ∧ v = b) := by
  unfold addV at h
  split at h
  · rename_i hj
    rcases List.mem_append.1 h with h1 | h1
    · exact .inl (by rw [hj]; exact h1)
    · exact .inr ⟨hj, List.mem_singleton.1 h1⟩
  · exact .inl h
/-- A block that is not flushed whole is written, with all its records. -/
theorem Walk.write {N : Nat} {ep : Int} {rs : List R} {D : Nat} {V : Nat → List (List Int)} {e : Nat → Int} (h : Walk N ep rs D V e) (k : Nat) (h1 : D < 6 * (k + 1)) (h2 : 6 * k < rs.length) : Walk N ep rs D (addV V k (blockB ep (chunk rs k))) e := by
  have hd := h.dle
  have hl := length_chunk rs k
  refine ⟨h.ep0, h.ep1, h.good, h.len, h.dle, h.epos, h.mono, fun j hj v hv => ?_, fun j hj hj2 v hv => ?_, fun j hj hj2 v hv => ?_⟩
  · rcases mem_addV hv with h3 | ⟨h3, _⟩
    · exact h.full j hj v h3
    · omega
  · rcases mem_addV hv with h3 | ⟨rfl, h3⟩
    · exact h.part j hj hj2 v h3
    · exact .inr ⟨(chunk rs j).length, by omega, Nat.le_refl _, by rw [h3, List.take_length]⟩
  · rcases mem_addV hv with h3 | ⟨rfl, h3⟩
    · exact h.more j hj hj2 v h3
    · exact .inl ⟨(chunk rs j).length, by omega, Nat.le_refl _, by rw [h3, List.take_length]⟩
/-- All that is not flushed has been written; then the last versions are the fast ones. -/
theorem Walk.sync {N : Nat} {ep : Int} {rs : List R} {D : Nat} {V V' : Nat → List (List Int)} {e : Nat → Int} (h : Walk N ep rs D V e) (hnew : ∀ k, D < 6 * (k + 1) → 6 * k < rs.length → V' k = [blockB ep (chunk rs k)]) (hold : ∀ k, k < N → ∃ v ∈ V k, V' k = [v]) : Walk N ep rs rs.length V' (fun k => if D < 6 * (k + 1) then ep else e k) := by
  have hd := h.dle
  have hln := h.len
  refine ⟨h.ep0, h.ep1, h.good, h.len, Nat.le_refl _, fun k hk => ?_, fun k hk => ?_, fun k hk v hv => ?_, fun k h1 h2 v hv => ?_, fun k h1 h2 v hv => ?_⟩
  · show 1 ≤ (if D < 6 * (k + 1) then ep else e k) ∧ (if D < 6 * (k + 1) then ep else e k) ≤ ep
    split
    · exact ⟨h.ep0, Int.le_refl _⟩
    · exact h.epos k (by omega)
  · show (if D < 6 * (k + 1) then ep else e k) ≤ (if D < 6 * (k + 1 + 1) then ep else e (k + 1))
    by_cases h1 : D < 6 * (k + 1)
    · rw [if_pos h1, if_pos (by omega)]
      exact Int.le_refl _
    · rw [if_neg h1]
      by_cases h2 : D < 6 * (k + 1 + 1)
      · rw [if_pos h2]
        exact (h.epos k (by omega)).2
      · rw [if_neg h2]
        exact h.mono k (by omega)
  · show v = blockB (if D < 6 * (k + 1) then ep else e k) (chunk rs k)
    by_cases h1 : D < 6 * (k + 1)
    · rw [if_pos h1]
      rw [hnew k h1 (by omega)] at hv
      exact List.mem_singleton.1 hv
    · rw [if_neg h1]
      obtain ⟨u, hu, e1⟩ := hold k (by omega)
      rw [e1] at hv
      rw [List.mem_singleton.1 hv]
      exact h.full k (by omega) u hu
  · refine .inl ?_
    show v = blockB (if D < 6 * (k + 1) then ep else e k) _
    rw [if_pos (by omega)]
    rw [hnew k (by omega) h1] at hv
    rw [List.mem_singleton.1 hv, List.take_of_length_le (by rw [length_chunk]; omega)]
  · obtain ⟨u, hu, e1⟩ := hold k h2
    rw [e1] at hv
    have hvu := List.mem_singleton.1 hv
    subst hvu
    have hc := length_chunk rs k
    rcases h.more k (by omega) h2 v hu with ⟨q, q1, q2, _⟩ | h3
    · omega
    · refine .inr ?_
      by_cases h4 : rs.length = 6 * k
      · rw [if_pos h4]
        by_cases h5 : D = 6 * k
        · rw [if_pos h5] at h3
          refine h3.mono ?_
          unfold leastOf
          split
          · exact Int.le_refl _
          · rename_i hk0
            show e (k - 1) ≤ (if D < 6 * (k - 1 + 1) then ep else e (k - 1))
            rw [if_neg (by omega)]
            exact Int.le_refl _
        · rw [if_neg h5] at h3
          unfold leastOf
          rw [if_neg (by omega)]
          show OldV (if D < 6 * (k - 1 + 1) then ep else e (k - 1)) v
          rw [if_pos (by omega)]
          exact h3
      · rw [if_neg h4]
        rw [if_neg (by omega)] at h3
        exact h3
/-- A block of a boot ahead of m is an elder one. -/
theorem old_block {ε m : Int} {c : List R} (h0 : 1 ≤ ε) (h1 : ε < m) (h2 : ε ≤ 1073741824) (h3 : 1 ≤ c.length) (h4 : c.length ≤ 6) (hg : ∀ r ∈ c, goodB r = true ∧ r.fits) : OldV m (blockB ε c) := by
  obtain ⟨b1, b2, b3⟩ := isBlock_blockB ε c ((okB_iff ε c).2 ⟨⟨h0, h2, h3, h4⟩, fun r hr => (hg r hr).1⟩) fun r hr => (hg r hr).2
  exact ⟨length_blockB ε c h4, .inr ⟨block_not_zero ε c h4, b1, by rw [b2]; exact h1⟩⟩
/-- Whatever lies there is zeros, or a block of this boot or one ahead. -/
theorem Walk.old {N : Nat} {ep : Int} {rs : List R} {D : Nat} {V : Nat → List (List Int)} {e : Nat → Int} (h : Walk N ep rs D V e) {k : Nat} (hk : k < N) {v : List Int} (hv : v ∈ V k) {m : Int} (hm : ep < m) : OldV m v := by
  have hd := h.dle
  have hc := length_chunk rs k
  have hb : ∀ (q : Nat) (ε : Int), 1 ≤ ε → ε ≤ ep → 1 ≤ q → q ≤ (chunk rs k).length → OldV m (blockB ε ((chunk rs k).take q)) := fun q ε h0 h1 h2 h3 =>
    old_block h0 (by omega) (by have := h.ep1; omega) (by rw [List.length_take]; omega) (by rw [List.length_take]; omega) fun r hr => h.good r (mem_chunk hr)
  by_cases h1 : 6 * (k + 1) ≤ D
  · have hp := h.epos k (by omega)
    rw [h.full k h1 v hv, ← chunk_self]
    exact hb 6 (e k) hp.1 hp.2 (by omega) (by omega)
  · by_cases h2 : 6 * k < D
    · have hp := h.epos k h2
      rcases h.part k h2 (by omega) v hv with h3 | ⟨q, q1, q2, h3⟩
      · rw [h3]; exact hb _ _ hp.1 hp.2 (by omega) (by omega)
      · rw [h3]; exact hb q ep h.ep0 (Int.le_refl _) (by omega) q2
    · rcases h.more k (by omega) hk v hv with ⟨q, q1, q2, h3⟩ | h3
      · rw [h3]; exact hb q ep h.ep0 (Int.le_refl _) q1 q2
      · refine h3.mono ?_
        split
        · unfold leastOf
          split
          · have := h.ep0; omega
          · have := (h.epos (k - 1) (by omega)).2; omega
        · omega
/-- Opened as a later boot, whatever versions were kept: the beginning of its records that has all that were flushed; it is again a log as it should be. -/
theorem Walk.opened {N : Nat} {ep : Int} {rs : List R} {D : Nat} {V : Nat → List (List Int)} {e : Nat → Int} (h : Walk N ep rs D V e) (c : Nat → List Int) (hc : ∀ k, k < N → c k ∈ V k) (ep' : Int) (hep : ep < ep') (hep' : ep' ≤ 1073741824) :
    ∃ m, D ≤ m ∧ m ≤ rs.length ∧ openUp c ep' N 0 1 [] = (rs.take m, -1) ∧ Walk N ep' (rs.take m) m (fun k => [c k]) (fun k => ansN (c k)) := by
  obtain ⟨m, m1, _, m3, m4, m5, m6, _, m8⟩ := h.reads c hc ep' hep N 0 1 (by omega) (by omega) (fun _ => rfl) (fun hh => by omega)
  have hln := h.len
  have hlm : (rs.take m).length = m := by rw [List.length_take]; omega
  refine ⟨m, m1, m3, by simpa using m4, ⟨by have := h.ep0; omega, hep', fun r hr => h.good r (List.mem_of_mem_take hr), by omega, by omega, fun k hk => ?_, fun k hk => m6 k (by omega) hk, fun k hk v hv => ?_, fun k h1 h2 v hv => ?_, fun k h1 h2 v hv => ?_⟩⟩
  · obtain ⟨_, h1, h2⟩ := m5 k (by omega) hk
    exact ⟨h1, by omega⟩
  · rw [List.mem_singleton.1 hv]
    obtain ⟨h1, _, _⟩ := m5 k (by omega) (by omega)
    have h2 := chunk_of_take rs m k 6 (by omega) (by omega)
    rw [chunk_self, chunk_self] at h2
    rw [List.take_of_length_le (by rw [length_chunk]; omega)] at h1
    rw [h2]
    exact h1
  · refine .inl ?_
    rw [List.mem_singleton.1 hv, chunk_of_take rs m k (m - 6 * k) (by omega) (by omega)]
    exact (m5 k (by omega) h1).1
  · refine .inr ?_
    rw [List.mem_singleton.1 hv]
    by_cases hm : m = 6 * k
    · rw [if_pos hm]
      have h3 := m8 k (by omega) h2 hm
      unfold leastOf
      exact h3
    · rw [if_neg hm]
      exact h.old h2 (hc k h2) hep
/-- A log without records, on a disk of zeros. -/
theorem walk_new (N : Nat) (V : Nat → List (List Int)) (e : Nat → Int) (hV : ∀ k, k < N → ∀ v ∈ V k, v.length = 256 ∧ zeroB v = true) : Walk N 1 [] 0 V e :=
  ⟨by omega, by omega, fun r hr => by simp at hr, by simp, Nat.le_refl _, fun k hk => by omega, fun k hk => by omega, fun k hk => by omega, fun k hk => by omega, fun k _ h2 v hv => .inr ⟨(hV k h2 v hv).1, .inl (hV k h2 v hv).2⟩⟩
/-- The same versions, told otherwise. -/
theorem Walk.congr {N : Nat} {ep : Int} {rs : List R} {D : Nat} {V V' : Nat → List (List Int)} {e : Nat → Int} (h : Walk N ep rs D V e) (hV : ∀ k, k < N → V' k = V k) : Walk N ep rs D V' e := by
  have hd := h.dle
  have hl := h.len
  refine ⟨h.ep0, h.ep1, h.good, h.len, h.dle, h.epos, h.mono, fun k hk v hv => ?_, fun k h1 h2 v hv => ?_, fun k h1 h2 v hv => ?_⟩
  · rw [hV k (by omega)] at hv; exact h.full k hk v hv
  · rw [hV k (by omega)] at hv; exact h.part k h1 h2 v hv
  · rw [hV k h2] at hv; exact h.more k h1 h2 v hv
end Go.Proofs.YtjacenhblclkaaaDoor
