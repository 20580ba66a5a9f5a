/- Lemmas and contracts that the law stands on, joined: Base, PlMath, PlPage, PlApart. -/
import Derived.Test.YtdijgpkcolpfoabJoin4
import Derived.Deep.RegionHeld3
import Derived.BigQuiet
import Derived.Laws.AppendOwn
/- Small facts on memory that every later text wants, and what an error of package api is as a value. -/
namespace Go.Proofs.Ytdijgpkcolpfoab
open Go.RowKit
set_option linter.unusedVariables false

theorem lt_of_block {w : World} {g : Nat} {x : Obj} (h : w.heap[g]? = some x) : g < w.heap.size := (Array.getElem?_eq_some_iff.1 h).1
theorem cell_row {w : World} {d : Nat} {c : Array Value} {e : TypeId} (h : w.heap[d]? = some (.cells c e (0, 0))) (o : Nat) : w.cell? ⟨d, o, none⟩ = c[o]? := by
  simp [World.cell?, h]
theorem below_drewN {B : Nat} {a w : World} (h : Below B a w) (n : Nat) : Below B a (w.drewN n) := h.trans ⟨rfl, rfl, rfl, Nat.le_refl _, fun _ _ => rfl⟩
theorem below_drew {B : Nat} {a w : World} (h : Below B a w) : Below B a w.drew := h.trans ⟨rfl, rfl, rfl, Nat.le_refl _, fun _ _ => rfl⟩
theorem of_drew {B : Nat} {w w1 : World} (h : Below B w.drew w1) : Below B w w1 := ⟨h.os, h.tape, h.output, h.size, h.block⟩
/-- The errors of package api in the document's order: the block of each one's variable. -/
def gno (i : Nat) : Nat := [999, 999, 999, 999, 999, 999, 999, 999, 999, 999, 999, 999, 999, 999, 999, 999, 999, 999].getD i 0
end Go.Proofs.Ytdijgpkcolpfoab

/- What a key is mixed to (P9.1), its page, a page's keys, in plain numbers. No Go text here. -/
namespace Go.Proofs.Ytdijgpkcolpfoab
open Go.RowKit
set_option linter.unusedVariables false

/-- The numbers that a key is mixed to (P9.1), in plain numbers. -/
def mixN (k : Nat) : Nat := k * 2654435761 % 4294967296
def pgN (k M : Nat) : Nat := mixN k / 65536 % M
/-- place.Page, of any key and any number of pages. -/
def pageI (key pages : Int) : Int := 1 + key % 4294967296 * 2654435761 % 4294967296 / 65536 % max pages 1
theorem pageI_bd (key pages : Int) : 1 ≤ pageI key pages ∧ pageI key pages ≤ max pages 1 := by
  unfold pageI
  have h0 : 0 < max pages 1 := by omega
  have h1 := Int.emod_nonneg (key % 4294967296 * 2654435761 % 4294967296 / 65536) (b := max pages 1) (by omega)
  have h2 := Int.emod_lt_of_pos (key % 4294967296 * 2654435761 % 4294967296 / 65536) h0
  omega
theorem pageI_none (key pages : Int) (h : pages ≤ 1) : pageI key pages = 1 := by
  have h1 := pageI_bd key pages
  omega
theorem pageI_turn (key pages : Int) : pageI (key + 4294967296) pages = pageI key pages ∧ pageI (key - 4294967296) pages = pageI key pages := by
  unfold pageI
  have h1 : (key + 4294967296) % 4294967296 = key % 4294967296 := by omega
  have h2 : (key - 4294967296) % 4294967296 = key % 4294967296 := by omega
  rw [h1, h2]
  exact ⟨rfl, rfl⟩
theorem pageI_nat (k M : Nat) (hM : 1 ≤ M) : pageI k M = ((1 + pgN k M : Nat) : Int) := by
  unfold pageI pgN mixN
  have h : max (M : Int) 1 = M := by omega
  have h2 : k * 2654435761 % 4294967296 = k % 4294967296 * 2654435761 % 4294967296 := by
    rw [Nat.mod_mul_mod]
  rw [h, h2]
  simp only [Int.natCast_add, Int.natCast_emod, Int.natCast_ediv, Int.natCast_mul]
  rfl

-- ---- the keys of a page, rising ----
/-- Those of the first k keys that are on that page. -/
def kUp (page pages : Int) : Nat → List Int
  | 0 => []
  | k + 1 => if pageI k pages = page then kUp page pages k ++ [(k : Int)] else kUp page pages k
theorem kUp_yes {page pages : Int} {k : Nat} (h : pageI k pages = page) : kUp page pages (k + 1) = kUp page pages k ++ [(k : Int)] := by rw [kUp, if_pos h]
theorem kUp_no {page pages : Int} {k : Nat} (h : ¬ pageI k pages = page) : kUp page pages (k + 1) = kUp page pages k := by rw [kUp, if_neg h]
theorem kUp_le (page pages : Int) (k : Nat) : (kUp page pages k).length ≤ k := by
  induction k with
  | zero => simp [kUp]
  | succ k ih => rw [kUp]; split <;> (try rw [List.length_append, List.length_singleton]) <;> omega
theorem kUp_pre (page pages : Int) (k : Nat) : ∀ m, kUp page pages k <+: kUp page pages (k + m)
  | 0 => List.prefix_refl _
  | m + 1 => by
    refine (kUp_pre page pages k m).trans ?_
    rw [← Nat.add_assoc, kUp]
    split
    · exact List.prefix_append _ _
    · exact List.prefix_refl _
/-- place.Keys: the first n of them, of all keys. -/
def maxK : Nat := 1048576
theorem maxK_eq : maxK = 1048576 := rfl
def keysP (page pages n : Int) : List Int := (kUp page pages maxK).take n.toNat
theorem keysP_of {page pages n : Int} {k : Nat} (hk : k ≤ maxK) (h : (kUp page pages k).length = n.toNat ∨ (k = maxK ∧ (kUp page pages k).length ≤ n.toNat)) : kUp page pages k = keysP page pages n := by
  unfold keysP
  rcases h with h | ⟨rfl, h⟩
  · obtain ⟨m, hm⟩ : ∃ m, maxK = k + m := ⟨maxK - k, by omega⟩
    rw [hm]
    exact (List.prefix_iff_eq_take.mp (kUp_pre page pages k m)).trans (by rw [h])
  · rw [List.take_of_length_le h]
theorem kUp_mem {page pages : Int} : ∀ {k : Nat} {x : Int}, x ∈ kUp page pages k → ∃ j : Nat, j < k ∧ x = j ∧ pageI j pages = page
  | 0, x, h => by simp [kUp] at h
  | k + 1, x, h => by
    rw [kUp] at h
    split at h
    · rename_i hp
      rcases List.mem_append.mp h with h | h
      · obtain ⟨j, h1, h2⟩ := kUp_mem h
        exact ⟨j, by omega, h2⟩
      · exact ⟨k, by omega, by simpa using h, hp⟩
    · obtain ⟨j, h1, h2⟩ := kUp_mem h
      exact ⟨j, by omega, h2⟩
theorem keysP_mem {page pages n x : Int} (h : x ∈ keysP page pages n) : ∃ j : Nat, j < maxK ∧ x = j ∧ pageI j pages = page := kUp_mem (List.mem_of_mem_take h)
theorem keysP_nil {page pages n : Int} (h : n ≤ 0 ∨ page < 1 ∨ max pages 1 < page) : keysP page pages n = [] := by
  rcases h with h | h
  · unfold keysP
    rw [show n.toNat = 0 by omega]
    rfl
  · rcases e : keysP page pages n with _ | ⟨x, l⟩
    · rfl
    · obtain ⟨j, _, _, hj⟩ := keysP_mem (x := x) (by rw [e]; simp)
      have := pageI_bd j pages
      omega
theorem keysP_len {page pages n : Int} : (keysP page pages n).length ≤ n.toNat ∧ (keysP page pages n).length ≤ maxK := by
  unfold keysP
  rw [List.length_take]
  have := kUp_le page pages maxK
  omega
end Go.Proofs.Ytdijgpkcolpfoab

/- What package place answers (Page, Log, Sectors, Keys), and the document's own Place and Keys, at all arguments. -/
namespace Go.Proofs.Ytdijgpkcolpfoab
open Go.RowKit
set_option linter.unusedVariables false

set_option maxHeartbeats 400000 in
theorem number_far (n m : Int) (w : World) (h0 : 0 < m) (h1 : m ≤ 4611686018427387904) : Calls Try.prog 6 #[.int .i64 n, .int .i64 m] w fun e w' => e = .returned (.int .i64 (numberB n m)) ∧ w' = w := by
  obtain ⟨t1, t2, t3, t4⟩ := tmod_cases n m h0
  have hne : (m == 0) = false := by simp; omega
  have hm1 : m ≠ 0 := by omega
  go_enter Try.func6, Try.ntmps6
  go_wp2
  all_goals
    go_ret
  · exact ⟨ret_int rfl, rfl⟩
  · exact ⟨ret_int (t2 (by assumption)), rfl⟩

theorem rest_le {a b : Int} (h : 0 ≤ a) (hb : 1 ≤ b) : a % b ≤ a := by
  have h1 := Int.mul_ediv_add_emod a b
  have h2 : 0 ≤ b * (a / b) := Int.mul_nonneg (by omega) (Int.ediv_nonneg h (by omega))
  omega
set_option maxHeartbeats 1000000 in
theorem page_any (key pages : Int) (w : World) : Calls Try.prog 7 #[.int .i64 key, .int .i64 pages] w fun e w' => e = .returned (.int .i64 (pageI key pages)) ∧ w' = w := by
  have hA : 0 ≤ key % 4294967296 * 2654435761 % 4294967296 / 65536 ∧ key % 4294967296 * 2654435761 % 4294967296 / 65536 ≤ 65535 := by omega
  by_cases hp : 1 ≤ pages
  · have hB : 0 ≤ key % 4294967296 * 2654435761 % 4294967296 / 65536 % pages ∧ key % 4294967296 * 2654435761 % 4294967296 / 65536 % pages ≤ 65535 := by
      refine ⟨Int.emod_nonneg _ (by omega), ?_⟩
      have := rest_le hA.1 hp
      omega
    have hm : max pages 1 = pages := by omega
    go_enter Try.func7, Try.ntmps7
    go_wp2_with fail
    go_ret
    refine ⟨ret_int ?_, rfl⟩
    unfold pageI
    rw [hm]
    all_goals go_num
  · have hm : max pages 1 = 1 := by omega
    go_enter Try.func7, Try.ntmps7
    go_wp2_with fail
    go_ret
    refine ⟨ret_int ?_, rfl⟩
    unfold pageI
    rw [hm]
    all_goals go_num

set_option maxHeartbeats 400000 in
theorem log_any (pages : Int) (w : World) (h0 : 0 ≤ pages) (h1 : pages ≤ 1000000) : Calls Try.prog 8 #[.int .i64 pages] w fun e w' => e = .returned (.int .i64 (pages + 1)) ∧ w' = w := by
  go_enter Try.func8, Try.ntmps8
  go_wp2_with fail
  go_ret
  exact ⟨ret_int (by omega), rfl⟩
set_option maxHeartbeats 400000 in
theorem sectors_any (pages blocks : Int) (w : World) (h0 : 0 ≤ pages) (h1 : pages ≤ 1000000) (h2 : 0 ≤ blocks) (h3 : blocks ≤ 1000000) : Calls Try.prog 9 #[.int .i64 pages, .int .i64 blocks] w fun e w' => e = .returned (.int .i64 (pages + 1 + blocks)) ∧ w' = w := by
  go_enter Try.func9, Try.ntmps9
  go_wp2_with fail
  refine (log_any _ _ h0 h1).mono ?_
  rintro e w' ⟨rfl, rfl⟩
  go_wp2_with fail
  go_ret
  exact ⟨ret_int (by omega), rfl⟩
theorem first_page : pageI 0 5 = 1 := by decide
set_option maxHeartbeats 1000000 in
theorem pfirst9_any (w : World) : Calls Try.prog 5 #[] w fun e w' => e = .returned (.bool true) ∧ w' = w := by
  go_enter Try.func5, Try.ntmps5
  go_wp2_with (first | (go_at_call 7; refine (page_any _ _ _).mono ?_; rintro e w1 ⟨rfl, rfl⟩; rw [first_page]) | (go_at_call 8; refine (log_any _ _ (by omega) (by omega)).mono ?_; rintro e w1 ⟨rfl, rfl⟩) | (go_at_call 9; refine (sectors_any _ _ _ (by omega) (by omega) (by omega) (by omega)).mono ?_; rintro e w1 ⟨rfl, rfl⟩))
  go_ret
  exact ⟨rfl, rfl⟩
end Go.Proofs.Ytdijgpkcolpfoab

/- Of two hundred keys one behind the other at most a hundred are on one page, of eight pages and more. No Go text here. -/
namespace Go.Proofs.Ytdijgpkcolpfoab
open Go.RowKit
set_option linter.unusedVariables false

-- ---- how many of ten keys one behind the other are on one page ----
def ci (lo i : Nat) : Nat := (lo + i * 31153) / 65536
def gap (a : Nat) : Nat := (65536 - a % 65536) % 65536
def elN (h lo i : Nat) : Nat := (h + i * 40503 + ci lo i) % 65536
theorem step_lo {lo0 lo a : Nat} (h : lo0 ≤ lo) (hl : lo < 65536) (hg : ¬ (lo0 < gap a ∧ gap a ≤ lo)) : (lo + a) / 65536 = (lo0 + a) / 65536 := by
  unfold gap at hg
  omega
theorem step_h {h0 h a : Nat} (hh : h0 ≤ h) (hl : h < 65536) (hg : ¬ (h0 < gap a ∧ gap a ≤ h)) : (h + a) % 65536 = (h0 + a) % 65536 + (h - h0) := by
  unfold gap at hg
  omega
/-- The greatest of some numbers that is no more than v. -/
theorem last_below (v : Nat) : ∀ (l : List Nat), ∃ r ∈ (0 :: l), r ≤ v ∧ ∀ x ∈ l, ¬ (r < x ∧ x ≤ v)
  | [] => ⟨0, by simp, by omega, by simp⟩
  | a :: l => by
    obtain ⟨r, hr, h1, h2⟩ := last_below v l
    by_cases ha : r < a ∧ a ≤ v
    · refine ⟨a, by simp, ha.2, ?_⟩
      intro x hx
      rcases List.mem_cons.mp hx with rfl | hx
      · omega
      · have := h2 x hx; omega
    · refine ⟨r, ?_, h1, ?_⟩
      · simp at hr ⊢; rcases hr with h | h <;> simp [h]
      · intro x hx
        rcases List.mem_cons.mp hx with rfl | hx
        · exact ha
        · exact h2 x hx
def ten : List Nat := [0, 1, 2, 3, 4, 5, 6, 7, 8, 9]
def loL : List Nat := ten.map fun i => gap (i * 31153)
def hL (lo : Nat) : List Nat := ten.map fun i => gap (i * 40503 + ci lo i)
def tab : List (List Nat) := (0 :: loL).flatMap fun lo => (0 :: hL lo).map fun h => ten.map fun i => elN h lo i
theorem el_row (h lo : Nat) (hh : h < 65536) (hl : lo < 65536) : ∃ h0 lo0, h0 ≤ h ∧ (ten.map fun i => elN h0 lo0 i) ∈ tab ∧ ∀ i ∈ ten, elN h lo i = elN h0 lo0 i + (h - h0) := by
  obtain ⟨lo0, m1, l1, n1⟩ := last_below lo loL
  obtain ⟨h0, m2, l2, n2⟩ := last_below h (hL lo0)
  refine ⟨h0, lo0, l2, ?_, ?_⟩
  · unfold tab
    refine List.mem_flatMap.mpr ⟨lo0, m1, List.mem_map.mpr ⟨h0, m2, rfl⟩⟩
  · intro i hi
    have e1 : ci lo i = ci lo0 i := step_lo l1 hl (n1 _ (List.mem_map.mpr ⟨i, hi, rfl⟩))
    unfold elN
    rw [e1, Nat.add_assoc, Nat.add_assoc]
    exact step_h l2 hh (n2 _ (List.mem_map.mpr ⟨i, hi, rfl⟩))
/-- How many of a list are p, of so many. -/
def cntL (M p : Nat) : List Nat → Nat
  | [] => 0
  | v :: l => bif Nat.beq (v % M) p then cntL M p l + 1 else cntL M p l
def rowOk (M : Nat) (V : List Nat) : Bool := V.all fun r => Nat.ble (cntL M (r % M) V) 5
def allOk (T : List (List Nat)) : Nat → Bool
  | 0 => true
  | m + 1 => (T.all fun V => rowOk (m + 8) V) && allOk T m
def tabL : List (List Nat) := [[0, 40503, 15470, 55974, 30941, 5909, 46412, 21380, 61883, 36851],
  [0, 40503, 15470, 55974, 30941, 5909, 46412, 21380, 61883, 36851],
  [25033, 0, 40503, 15471, 55974, 30942, 5909, 46413, 21380, 61884],
  [50066, 25033, 0, 40504, 15471, 55975, 30942, 5910, 46413, 21381],
  [9562, 50065, 25032, 0, 40503, 15471, 55974, 30942, 5909, 46413],
  [34595, 9562, 50065, 25033, 0, 40504, 15471, 55975, 30942, 5910],
  [59627, 34594, 9561, 50065, 25032, 0, 40503, 15471, 55974, 30942],
  [19124, 59627, 34594, 9562, 50065, 25033, 0, 40504, 15471, 55975],
  [44156, 19123, 59626, 34594, 9561, 50065, 25032, 0, 40503, 15471],
  [3653, 44156, 19123, 59627, 34594, 9562, 50065, 25033, 0, 40504],
  [28685, 3652, 44155, 19123, 59626, 34594, 9561, 50065, 25032, 0],
  [0, 40503, 15470, 55974, 30941, 5909, 46412, 21380, 61883, 36851],
  [0, 40503, 15470, 55974, 30941, 5909, 46412, 21380, 61883, 36851],
  [25033, 0, 40503, 15471, 55974, 30942, 5909, 46413, 21380, 61884],
  [50066, 25033, 0, 40504, 15471, 55975, 30942, 5910, 46413, 21381],
  [9562, 50065, 25032, 0, 40503, 15471, 55974, 30942, 5909, 46413],
  [34595, 9562, 50065, 25033, 0, 40504, 15471, 55975, 30942, 5910],
  [59627, 34594, 9561, 50065, 25032, 0, 40503, 15471, 55974, 30942],
  [19124, 59627, 34594, 9562, 50065, 25033, 0, 40504, 15471, 55975],
  [44156, 19123, 59626, 34594, 9561, 50065, 25032, 0, 40503, 15471],
  [3653, 44156, 19123, 59627, 34594, 9562, 50065, 25033, 0, 40504],
  [28685, 3652, 44155, 19123, 59626, 34594, 9561, 50065, 25032, 0],
  [0, 40504, 15471, 55974, 30942, 5909, 46413, 21380, 61884, 36851],
  [0, 40504, 15471, 55974, 30942, 5909, 46413, 21380, 61884, 36851],
  [25032, 0, 40503, 15470, 55974, 30941, 5909, 46412, 21380, 61883],
  [50065, 25033, 0, 40503, 15471, 55974, 30942, 5909, 46413, 21380],
  [9562, 50066, 25033, 0, 40504, 15471, 55975, 30942, 5910, 46413],
  [34594, 9562, 50065, 25032, 0, 40503, 15471, 55974, 30942, 5909],
  [59627, 34595, 9562, 50065, 25033, 0, 40504, 15471, 55975, 30942],
  [19123, 59627, 34594, 9561, 50065, 25032, 0, 40503, 15471, 55974],
  [44156, 19124, 59627, 34594, 9562, 50065, 25033, 0, 40504, 15471],
  [3652, 44156, 19123, 59626, 34594, 9561, 50065, 25032, 0, 40503],
  [28685, 3653, 44156, 19123, 59627, 34594, 9562, 50065, 25033, 0],
  [0, 40503, 15471, 55974, 30941, 5909, 46412, 21380, 61883, 36851],
  [0, 40503, 15471, 55974, 30941, 5909, 46412, 21380, 61883, 36851],
  [25033, 0, 40504, 15471, 55974, 30942, 5909, 46413, 21380, 61884],
  [50065, 25032, 0, 40503, 15470, 55974, 30941, 5909, 46412, 21380],
  [9562, 50065, 25033, 0, 40503, 15471, 55974, 30942, 5909, 46413],
  [34595, 9562, 50066, 25033, 0, 40504, 15471, 55975, 30942, 5910],
  [59627, 34594, 9562, 50065, 25032, 0, 40503, 15471, 55974, 30942],
  [19124, 59627, 34595, 9562, 50065, 25033, 0, 40504, 15471, 55975],
  [44156, 19123, 59627, 34594, 9561, 50065, 25032, 0, 40503, 15471],
  [3653, 44156, 19124, 59627, 34594, 9562, 50065, 25033, 0, 40504],
  [28685, 3652, 44156, 19123, 59626, 34594, 9561, 50065, 25032, 0],
  [0, 40504, 15471, 55975, 30942, 5909, 46413, 21380, 61884, 36851],
  [0, 40504, 15471, 55975, 30942, 5909, 46413, 21380, 61884, 36851],
  [25032, 0, 40503, 15471, 55974, 30941, 5909, 46412, 21380, 61883],
  [50065, 25033, 0, 40504, 15471, 55974, 30942, 5909, 46413, 21380],
  [9561, 50065, 25032, 0, 40503, 15470, 55974, 30941, 5909, 46412],
  [34594, 9562, 50065, 25033, 0, 40503, 15471, 55974, 30942, 5909],
  [59627, 34595, 9562, 50066, 25033, 0, 40504, 15471, 55975, 30942],
  [19123, 59627, 34594, 9562, 50065, 25032, 0, 40503, 15471, 55974],
  [44156, 19124, 59627, 34595, 9562, 50065, 25033, 0, 40504, 15471],
  [3652, 44156, 19123, 59627, 34594, 9561, 50065, 25032, 0, 40503],
  [28685, 3653, 44156, 19124, 59627, 34594, 9562, 50065, 25033, 0],
  [0, 40503, 15471, 55974, 30942, 5909, 46412, 21380, 61883, 36851],
  [0, 40503, 15471, 55974, 30942, 5909, 46412, 21380, 61883, 36851],
  [25033, 0, 40504, 15471, 55975, 30942, 5909, 46413, 21380, 61884],
  [50065, 25032, 0, 40503, 15471, 55974, 30941, 5909, 46412, 21380],
  [9562, 50065, 25033, 0, 40504, 15471, 55974, 30942, 5909, 46413],
  [34594, 9561, 50065, 25032, 0, 40503, 15470, 55974, 30941, 5909],
  [59627, 34594, 9562, 50065, 25033, 0, 40503, 15471, 55974, 30942],
  [19124, 59627, 34595, 9562, 50066, 25033, 0, 40504, 15471, 55975],
  [44156, 19123, 59627, 34594, 9562, 50065, 25032, 0, 40503, 15471],
  [3653, 44156, 19124, 59627, 34595, 9562, 50065, 25033, 0, 40504],
  [28685, 3652, 44156, 19123, 59627, 34594, 9561, 50065, 25032, 0],
  [0, 40504, 15471, 55975, 30942, 5910, 46413, 21380, 61884, 36851],
  [0, 40504, 15471, 55975, 30942, 5910, 46413, 21380, 61884, 36851],
  [25032, 0, 40503, 15471, 55974, 30942, 5909, 46412, 21380, 61883],
  [50065, 25033, 0, 40504, 15471, 55975, 30942, 5909, 46413, 21380],
  [9561, 50065, 25032, 0, 40503, 15471, 55974, 30941, 5909, 46412],
  [34594, 9562, 50065, 25033, 0, 40504, 15471, 55974, 30942, 5909],
  [59626, 34594, 9561, 50065, 25032, 0, 40503, 15470, 55974, 30941],
  [19123, 59627, 34594, 9562, 50065, 25033, 0, 40503, 15471, 55974],
  [44156, 19124, 59627, 34595, 9562, 50066, 25033, 0, 40504, 15471],
  [3652, 44156, 19123, 59627, 34594, 9562, 50065, 25032, 0, 40503],
  [28685, 3653, 44156, 19124, 59627, 34595, 9562, 50065, 25033, 0],
  [0, 40503, 15471, 55974, 30942, 5909, 46413, 21380, 61883, 36851],
  [0, 40503, 15471, 55974, 30942, 5909, 46413, 21380, 61883, 36851],
  [25033, 0, 40504, 15471, 55975, 30942, 5910, 46413, 21380, 61884],
  [50065, 25032, 0, 40503, 15471, 55974, 30942, 5909, 46412, 21380],
  [9562, 50065, 25033, 0, 40504, 15471, 55975, 30942, 5909, 46413],
  [34594, 9561, 50065, 25032, 0, 40503, 15471, 55974, 30941, 5909],
  [59627, 34594, 9562, 50065, 25033, 0, 40504, 15471, 55974, 30942],
  [19123, 59626, 34594, 9561, 50065, 25032, 0, 40503, 15470, 55974],
  [44156, 19123, 59627, 34594, 9562, 50065, 25033, 0, 40503, 15471],
  [3653, 44156, 19124, 59627, 34595, 9562, 50066, 25033, 0, 40504],
  [28685, 3652, 44156, 19123, 59627, 34594, 9562, 50065, 25032, 0],
  [0, 40504, 15471, 55975, 30942, 5910, 46413, 21381, 61884, 36851],
  [0, 40504, 15471, 55975, 30942, 5910, 46413, 21381, 61884, 36851],
  [25032, 0, 40503, 15471, 55974, 30942, 5909, 46413, 21380, 61883],
  [50065, 25033, 0, 40504, 15471, 55975, 30942, 5910, 46413, 21380],
  [9561, 50065, 25032, 0, 40503, 15471, 55974, 30942, 5909, 46412],
  [34594, 9562, 50065, 25033, 0, 40504, 15471, 55975, 30942, 5909],
  [59626, 34594, 9561, 50065, 25032, 0, 40503, 15471, 55974, 30941],
  [19123, 59627, 34594, 9562, 50065, 25033, 0, 40504, 15471, 55974],
  [44155, 19123, 59626, 34594, 9561, 50065, 25032, 0, 40503, 15470],
  [3652, 44156, 19123, 59627, 34594, 9562, 50065, 25033, 0, 40503],
  [28685, 3653, 44156, 19124, 59627, 34595, 9562, 50066, 25033, 0],
  [0, 40503, 15471, 55974, 30942, 5909, 46413, 21380, 61884, 36851],
  [0, 40503, 15471, 55974, 30942, 5909, 46413, 21380, 61884, 36851],
  [25033, 0, 40504, 15471, 55975, 30942, 5910, 46413, 21381, 61884],
  [50065, 25032, 0, 40503, 15471, 55974, 30942, 5909, 46413, 21380],
  [9562, 50065, 25033, 0, 40504, 15471, 55975, 30942, 5910, 46413],
  [34594, 9561, 50065, 25032, 0, 40503, 15471, 55974, 30942, 5909],
  [59627, 34594, 9562, 50065, 25033, 0, 40504, 15471, 55975, 30942],
  [19123, 59626, 34594, 9561, 50065, 25032, 0, 40503, 15471, 55974],
  [44156, 19123, 59627, 34594, 9562, 50065, 25033, 0, 40504, 15471],
  [3652, 44155, 19123, 59626, 34594, 9561, 50065, 25032, 0, 40503],
  [28685, 3652, 44156, 19123, 59627, 34594, 9562, 50065, 25033, 0],
  [0, 40504, 15471, 55975, 30942, 5910, 46413, 21381, 61884, 36852],
  [0, 40504, 15471, 55975, 30942, 5910, 46413, 21381, 61884, 36852],
  [25032, 0, 40503, 15471, 55974, 30942, 5909, 46413, 21380, 61884],
  [50065, 25033, 0, 40504, 15471, 55975, 30942, 5910, 46413, 21381],
  [9561, 50065, 25032, 0, 40503, 15471, 55974, 30942, 5909, 46413],
  [34594, 9562, 50065, 25033, 0, 40504, 15471, 55975, 30942, 5910],
  [59626, 34594, 9561, 50065, 25032, 0, 40503, 15471, 55974, 30942],
  [19123, 59627, 34594, 9562, 50065, 25033, 0, 40504, 15471, 55975],
  [44155, 19123, 59626, 34594, 9561, 50065, 25032, 0, 40503, 15471],
  [3652, 44156, 19123, 59627, 34594, 9562, 50065, 25033, 0, 40504],
  [28684, 3652, 44155, 19123, 59626, 34594, 9561, 50065, 25032, 0]]
theorem tab_eq : tab = tabL := by decide +kernel
theorem tab_ok : allOk tabL 25 = true := by decide +kernel
theorem allOk_of {T : List (List Nat)} : ∀ {n : Nat}, allOk T n = true → ∀ m < n, ∀ V ∈ T, rowOk (m + 8) V = true
  | 0, _, m, hm, _, _ => absurd hm (by omega)
  | n + 1, h, m, hm, V, hV => by
    simp only [allOk, Bool.and_eq_true] at h
    rcases Nat.lt_succ_iff_lt_or_eq.mp hm with h1 | rfl
    · exact allOk_of h.2 m h1 V hV
    · exact List.all_eq_true.mp h.1 V hV
theorem beq_yes {a b : Nat} (h : a = b) : Nat.beq a b = true := by subst h; exact Nat.beq_refl a
theorem beq_no {a b : Nat} (h : ¬ a = b) : Nat.beq a b = false := by
  cases e : Nat.beq a b with
  | false => rfl
  | true => exact absurd (Nat.eq_of_beq_eq_true e) h
theorem cntL_zero {M p : Nat} : ∀ {l : List Nat}, (∀ v ∈ l, v % M ≠ p) → cntL M p l = 0
  | [], _ => rfl
  | v :: l, h => by
    have h1 : Nat.beq (v % M) p = false := beq_no (h v (by simp))
    rw [cntL, h1, cond_false, cntL_zero fun x hx => h x (by simp [hx])]
theorem cntL_le {M p : Nat} {V : List Nat} (h : rowOk M V = true) : cntL M p V ≤ 5 := by
  by_cases hp : ∃ v ∈ V, v % M = p
  · obtain ⟨v, hv, rfl⟩ := hp
    exact Nat.le_of_ble_eq_true (List.all_eq_true.mp h v hv)
  · rw [cntL_zero fun v hv e => hp ⟨v, hv, e⟩]
    omega
theorem mod_shift {M a d p : Nat} (hM : 0 < M) : (a + d) % M = p → a % M = (p + M * d - d) % M := by
  intro h
  have hd : d ≤ M * d := Nat.le_mul_of_pos_left d hM
  subst h
  have e := Nat.div_add_mod (a + d) M
  have : a + M * d = ((a + d) % M + M * d - d) + M * ((a + d) / M) := by omega
  have h2 : (a + M * d) % M = a % M := Nat.add_mul_mod_self_left a M d
  rw [← h2, this, Nat.add_mul_mod_self_left]
theorem cntL_mono {M p M' p' : Nat} {f g : Nat → Nat} : ∀ {l : List Nat}, (∀ i ∈ l, f i % M = p → g i % M' = p') → cntL M p (l.map f) ≤ cntL M' p' (l.map g)
  | [], _ => Nat.le_refl _
  | i :: l, h => by
    have ih := cntL_mono (l := l) fun x hx => h x (by simp [hx])
    simp only [List.map_cons, cntL]
    by_cases e : f i % M = p
    · have e2 := h i (by simp) e
      rw [beq_yes e, beq_yes e2]
      simp only [cond_true]
      omega
    · have : Nat.beq (f i % M) p = false := beq_no e
      rw [this, cond_false]
      cases Nat.beq (g i % M') p' <;> simp <;> omega
theorem high_of {E r : Nat} (hr : r < 65536) : (65536 * E + r) % 4294967296 / 65536 = E % 65536 := by omega
theorem mix_el (k i : Nat) : mixN (k + i) / 65536 = elN (mixN k / 65536) (mixN k % 65536) i := by
  unfold elN ci
  have e : mixN (k + i) = (mixN k + i * 2654435761) % 4294967296 := by
    unfold mixN
    rw [Nat.add_mul, Nat.mod_add_mod]
  obtain ⟨x, hx⟩ : ∃ x, x = mixN k := ⟨_, rfl⟩
  rw [e, ← hx]
  obtain ⟨c, r, hr, hc⟩ : ∃ c r, r < 65536 ∧ x % 65536 + i * 31153 = 65536 * c + r := ⟨(x % 65536 + i * 31153) / 65536, (x % 65536 + i * 31153) % 65536, Nat.mod_lt _ (by omega), (Nat.div_add_mod _ _).symm⟩
  have h1 : (x % 65536 + i * 31153) / 65536 = c := by omega
  have h2 : x + i * 2654435761 = 65536 * (x / 65536 + i * 40503 + c) + r := by omega
  rw [h1, h2, high_of hr]
theorem ten_keys (k M p : Nat) (h0 : 8 ≤ M) (h1 : M ≤ 32) : cntL M p (ten.map fun i => mixN (k + i) / 65536) ≤ 5 := by
  have hx : mixN k < 4294967296 := Nat.mod_lt _ (by omega)
  obtain ⟨a, b, hab, hm, he⟩ := el_row (mixN k / 65536) (mixN k % 65536) (by omega) (by omega)
  rw [tab_eq] at hm
  have hr : rowOk M (ten.map fun i => elN a b i) = true := by
    have := allOk_of tab_ok (M - 8) (by omega) _ hm
    rwa [show M - 8 + 8 = M by omega] at this
  refine Nat.le_trans (cntL_mono (M' := M) (p' := (p + M * (mixN k / 65536 - a) - (mixN k / 65536 - a)) % M) (g := fun i => elN a b i) ?_) (cntL_le hr)
  intro i hi h
  rw [mix_el k i, he i hi] at h
  exact mod_shift (by omega) h
/-- How many of n keys from k on are on page p of M (counted from 0). -/
def cntK (M p k : Nat) : Nat → Nat
  | 0 => 0
  | n + 1 => cntK M p k n + (if pgN (k + n) M = p then 1 else 0)
theorem cntK_add (M p k n : Nat) : ∀ m, cntK M p k (n + m) = cntK M p k n + cntK M p (k + n) m
  | 0 => rfl
  | m + 1 => by
    rw [← Nat.add_assoc, cntK, cntK_add M p k n m, cntK, Nat.add_assoc k, Nat.add_assoc]
theorem cond_one (a b : Nat) (n : Nat) : (bif Nat.beq a b then n + 1 else n) = n + (if a = b then 1 else 0) := by
  by_cases e : a = b
  · rw [beq_yes e, if_pos e]; rfl
  · rw [beq_no e, if_neg e]; rfl
theorem cntK_ten (M p k : Nat) : cntK M p k 10 = cntL M p (ten.map fun i => mixN (k + i) / 65536) := by
  simp only [cntK, ten, List.map_cons, List.map_nil, cntL, cond_one, pgN]
  ac_rfl
theorem cntK_tens (M p : Nat) (h0 : 8 ≤ M) (h1 : M ≤ 32) : ∀ t k, cntK M p k (10 * t) ≤ 5 * t
  | 0, k => by simp [cntK]
  | t + 1, k => by
    rw [Nat.mul_add, cntK_add]
    have h2 : cntK M p (k + 10 * t) (10 * 1) ≤ 5 := by
      have := ten_keys (k + 10 * t) M p h0 h1
      rw [Nat.mul_one, cntK_ten]; exact this
    have := cntK_tens M p h0 h1 t k
    omega
theorem apart (M p k : Nat) (h0 : 8 ≤ M) (h1 : M ≤ 32) : cntK M p k 200 ≤ 100 := cntK_tens M p h0 h1 20 k
end Go.Proofs.Ytdijgpkcolpfoab
