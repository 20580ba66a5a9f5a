/- Lemmas and contracts that the law stands on, joined: Base, PlMath, PlPage, PlKeys. -/
import Derived.Test.YtdijgpkcolpfoaaJoin4
import Derived.Deep.RegionHeld3
import Derived.BigQuiet
import Derived.Laws.AppendOwn
/- Small facts on memory that every later text wants, and what an error of package api is as a value. -/
namespace Go.Proofs.Ytdijgpkcolpfoaa
open Go.RowKit
set_option linter.unusedVariables false

theorem lt_of_block {w : World} {g : Nat} {x : Obj} (h : w.heap[g]? = some x) : g < w.heap.size := (Array.getElem?_eq_some_iff.1 h).1
theorem cell_row {w : World} {d : Nat} {c : Array Value} {e : TypeId} (h : w.heap[d]? = some (.cells c e (0, 0))) (o : Nat) : w.cell? ⟨d, o, none⟩ = c[o]? := by
  simp [World.cell?, h]
theorem below_drewN {B : Nat} {a w : World} (h : Below B a w) (n : Nat) : Below B a (w.drewN n) := h.trans ⟨rfl, rfl, rfl, Nat.le_refl _, fun _ _ => rfl⟩
theorem below_drew {B : Nat} {a w : World} (h : Below B a w) : Below B a w.drew := h.trans ⟨rfl, rfl, rfl, Nat.le_refl _, fun _ _ => rfl⟩
theorem of_drew {B : Nat} {w w1 : World} (h : Below B w.drew w1) : Below B w w1 := ⟨h.os, h.tape, h.output, h.size, h.block⟩
/-- The errors of package api in the document's order: the block of each one's variable. -/
def gno (i : Nat) : Nat := [999, 999, 999, 999, 999, 999, 999, 999, 999, 999, 999, 999, 999, 999, 999, 999, 999, 999].getD i 0
end Go.Proofs.Ytdijgpkcolpfoaa

/- What a key is mixed to (P9.1), its page, a page's keys, in plain numbers. No Go text here. -/
namespace Go.Proofs.Ytdijgpkcolpfoaa
open Go.RowKit
set_option linter.unusedVariables false

/-- The numbers that a key is mixed to (P9.1), in plain numbers. -/
def mixN (k : Nat) : Nat := k * 2654435761 % 4294967296
def pgN (k M : Nat) : Nat := mixN k / 65536 % M
/-- place.Page, of any key and any number of pages. -/
def pageI (key pages : Int) : Int := 1 + key % 4294967296 * 2654435761 % 4294967296 / 65536 % max pages 1
theorem pageI_bd (key pages : Int) : 1 ≤ pageI key pages ∧ pageI key pages ≤ max pages 1 := by
  unfold pageI
  have h0 : 0 < max pages 1 := by omega
  have h1 := Int.emod_nonneg (key % 4294967296 * 2654435761 % 4294967296 / 65536) (b := max pages 1) (by omega)
  have h2 := Int.emod_lt_of_pos (key % 4294967296 * 2654435761 % 4294967296 / 65536) h0
  omega
theorem pageI_none (key pages : Int) (h : pages ≤ 1) : pageI key pages = 1 := by
  have h1 := pageI_bd key pages
  omega
theorem pageI_turn (key pages : Int) : pageI (key + 4294967296) pages = pageI key pages ∧ pageI (key - 4294967296) pages = pageI key pages := by
  unfold pageI
  have h1 : (key + 4294967296) % 4294967296 = key % 4294967296 := by omega
  have h2 : (key - 4294967296) % 4294967296 = key % 4294967296 := by omega
  rw [h1, h2]
  exact ⟨rfl, rfl⟩
theorem pageI_nat (k M : Nat) (hM : 1 ≤ M) : pageI k M = ((1 + pgN k M : Nat) : Int) := by
  unfold pageI pgN mixN
  have h : max (M : Int) 1 = M := by omega
  have h2 : k * 2654435761 % 4294967296 = k % 4294967296 * 2654435761 % 4294967296 := by
    rw [Nat.mod_mul_mod]
  rw [h, h2]
  simp only [Int.natCast_add, Int.natCast_emod, Int.natCast_ediv, Int.natCast_mul]
  rfl

-- ---- the keys of a page, rising ----
/-- Those of the first k keys that are on that page. -/
def kUp (page pages : Int) : Nat → List Int
  | 0 => []
  | k + 1 => if pageI k pages = page then kUp page pages k ++ [(k : Int)] else kUp page pages k
theorem kUp_yes {page pages : Int} {k : Nat} (h : pageI k pages = page) : kUp page pages (k + 1) = kUp page pages k ++ [(k : Int)] := by rw [kUp, if_pos h]
theorem kUp_no {page pages : Int} {k : Nat} (h : ¬ pageI k pages = page) : kUp page pages (k + 1) = kUp page pages k := by rw [kUp, if_neg h]
theorem kUp_le (page pages : Int) (k : Nat) : (kUp page pages k).length ≤ k := by
  induction k with
  | zero => simp [kUp]
  | succ k ih => rw [kUp]; split <;> (try rw [List.length_append, List.length_singleton]) <;> omega
theorem kUp_pre (page pages : Int) (k : Nat) : ∀ m, kUp page pages k <+: kUp page pages (k + m)
  | 0 => List.prefix_refl _
  | m + 1 => by
    refine (kUp_pre page pages k m).trans ?_
    rw [← Nat.add_assoc, kUp]
    split
    · exact List.prefix_append _ _
    · exact List.prefix_refl _
/-- place.Keys: the first n of them, of all keys. -/
def maxK : Nat := 1048576
theorem maxK_eq : maxK = 1048576 := rfl
def keysP (page pages n : Int) : List Int := (kUp page pages maxK).take n.toNat
theorem keysP_of {page pages n : Int} {k : Nat} (hk : k ≤ maxK) (h : (kUp page pages k).length = n.toNat ∨ (k = maxK ∧ (kUp page pages k).length ≤ n.toNat)) : kUp page pages k = keysP page pages n := by
  unfold keysP
  rcases h with h | ⟨rfl, h⟩
  · obtain ⟨m, hm⟩ : ∃ m, maxK = k + m := ⟨maxK - k, by omega⟩
    rw [hm]
    exact (List.prefix_iff_eq_take.mp (kUp_pre page pages k m)).trans (by rw [h])
  · rw [List.take_of_length_le h]
theorem kUp_mem {page pages : Int} : ∀ {k : Nat} {x : Int}, x ∈ kUp page pages k → ∃ j : Nat, j < k ∧ x = j ∧ pageI j pages = page
  | 0, x, h => by simp [kUp] at h
  | k + 1, x, h => by
    rw [kUp] at h
    split at h
    · rename_i hp
      rcases List.mem_append.mp h with h | h
      · obtain ⟨j, h1, h2⟩ := kUp_mem h
        exact ⟨j, by omega, h2⟩
      · exact ⟨k, by omega, by simpa using h, hp⟩
    · obtain ⟨j, h1, h2⟩ := kUp_mem h
      exact ⟨j, by omega, h2⟩
theorem keysP_mem {page pages n x : Int} (h : x ∈ keysP page pages n) : ∃ j : Nat, j < maxK ∧ x = j ∧ pageI j pages = page := kUp_mem (List.mem_of_mem_take h)
theorem keysP_nil {page pages n : Int} (h : n ≤ 0 ∨ page < 1 ∨ max pages 1 < page) : keysP page pages n = [] := by
  rcases h with h | h
  · unfold keysP
    rw [show n.toNat = 0 by omega]
    rfl
  · rcases e : keysP page pages n with _ | ⟨x, l⟩
    · rfl
    · obtain ⟨j, _, _, hj⟩ := keysP_mem (x := x) (by rw [e]; simp)
      have := pageI_bd j pages
      omega
theorem keysP_len {page pages n : Int} : (keysP page pages n).length ≤ n.toNat ∧ (keysP page pages n).length ≤ maxK := by
  unfold keysP
  rw [List.length_take]
  have := kUp_le page pages maxK
  omega
end Go.Proofs.Ytdijgpkcolpfoaa

/- What package place answers (Page, Log, Sectors, Keys), and the document's own Place and Keys, at all arguments. -/
namespace Go.Proofs.Ytdijgpkcolpfoaa
open Go.RowKit
set_option linter.unusedVariables false

set_option maxHeartbeats 400000 in
theorem number_far (n m : Int) (w : World) (h0 : 0 < m) (h1 : m ≤ 4611686018427387904) : Calls Try.prog 7 #[.int .i64 n, .int .i64 m] w fun e w' => e = .returned (.int .i64 (numberB n m)) ∧ w' = w := by
  obtain ⟨t1, t2, t3, t4⟩ := tmod_cases n m h0
  have hne : (m == 0) = false := by simp; omega
  have hm1 : m ≠ 0 := by omega
  go_enter Try.func7, Try.ntmps7
  go_wp2
  all_goals
    go_ret
  · exact ⟨ret_int rfl, rfl⟩
  · exact ⟨ret_int (t2 (by assumption)), rfl⟩

theorem rest_le {a b : Int} (h : 0 ≤ a) (hb : 1 ≤ b) : a % b ≤ a := by
  have h1 := Int.mul_ediv_add_emod a b
  have h2 : 0 ≤ b * (a / b) := Int.mul_nonneg (by omega) (Int.ediv_nonneg h (by omega))
  omega
set_option maxHeartbeats 1000000 in
theorem page_any (key pages : Int) (w : World) : Calls Try.prog 8 #[.int .i64 key, .int .i64 pages] w fun e w' => e = .returned (.int .i64 (pageI key pages)) ∧ w' = w := by
  have hA : 0 ≤ key % 4294967296 * 2654435761 % 4294967296 / 65536 ∧ key % 4294967296 * 2654435761 % 4294967296 / 65536 ≤ 65535 := by omega
  by_cases hp : 1 ≤ pages
  · have hB : 0 ≤ key % 4294967296 * 2654435761 % 4294967296 / 65536 % pages ∧ key % 4294967296 * 2654435761 % 4294967296 / 65536 % pages ≤ 65535 := by
      refine ⟨Int.emod_nonneg _ (by omega), ?_⟩
      have := rest_le hA.1 hp
      omega
    have hm : max pages 1 = pages := by omega
    go_enter Try.func8, Try.ntmps8
    go_wp2_with fail
    go_ret
    refine ⟨ret_int ?_, rfl⟩
    unfold pageI
    rw [hm]
    all_goals go_num
  · have hm : max pages 1 = 1 := by omega
    go_enter Try.func8, Try.ntmps8
    go_wp2_with fail
    go_ret
    refine ⟨ret_int ?_, rfl⟩
    unfold pageI
    rw [hm]
    all_goals go_num

set_option maxHeartbeats 1000000 in
theorem rplace_any (key pages : Int) (w : World) : Calls Try.prog 10 #[.int .i64 key, .int .i64 pages] w fun e w' => e = .returned (.int .i64 (pageI key pages)) ∧ w' = w := by
  have hA : 0 ≤ key % 4294967296 * 2654435761 % 4294967296 / 65536 ∧ key % 4294967296 * 2654435761 % 4294967296 / 65536 ≤ 65535 := by omega
  by_cases hp : 1 ≤ pages
  · have hB : 0 ≤ key % 4294967296 * 2654435761 % 4294967296 / 65536 % pages ∧ key % 4294967296 * 2654435761 % 4294967296 / 65536 % pages ≤ 65535 := by
      refine ⟨Int.emod_nonneg _ (by omega), ?_⟩
      have := rest_le hA.1 hp
      omega
    have hm : max pages 1 = pages := by omega
    go_enter Try.func10, Try.ntmps10
    go_wp2_with fail
    go_ret
    refine ⟨ret_int ?_, rfl⟩
    unfold pageI
    rw [hm]
    all_goals go_num
  · have hm : max pages 1 = 1 := by omega
    go_enter Try.func10, Try.ntmps10
    go_wp2_with fail
    go_ret
    refine ⟨ret_int ?_, rfl⟩
    unfold pageI
    rw [hm]
    all_goals go_num

set_option maxHeartbeats 400000 in
theorem log_any (pages : Int) (w : World) (h0 : 0 ≤ pages) (h1 : pages ≤ 1000000) : Calls Try.prog 11 #[.int .i64 pages] w fun e w' => e = .returned (.int .i64 (pages + 1)) ∧ w' = w := by
  go_enter Try.func11, Try.ntmps11
  go_wp2_with fail
  go_ret
  exact ⟨ret_int (by omega), rfl⟩
set_option maxHeartbeats 400000 in
theorem sectors_any (pages blocks : Int) (w : World) (h0 : 0 ≤ pages) (h1 : pages ≤ 1000000) (h2 : 0 ≤ blocks) (h3 : blocks ≤ 1000000) : Calls Try.prog 12 #[.int .i64 pages, .int .i64 blocks] w fun e w' => e = .returned (.int .i64 (pages + 1 + blocks)) ∧ w' = w := by
  go_enter Try.func12, Try.ntmps12
  go_wp2_with fail
  refine (log_any _ _ h0 h1).mono ?_
  rintro e w' ⟨rfl, rfl⟩
  go_wp2_with fail
  go_ret
  exact ⟨ret_int (by omega), rfl⟩
theorem first_page : pageI 0 5 = 1 := by decide
set_option maxHeartbeats 1000000 in
theorem pfirst9_any (w : World) : Calls Try.prog 6 #[] w fun e w' => e = .returned (.bool true) ∧ w' = w := by
  go_enter Try.func6, Try.ntmps6
  go_wp2_with (first | (go_at_call 8; refine (page_any _ _ _).mono ?_; rintro e w1 ⟨rfl, rfl⟩; rw [first_page]) | (go_at_call 11; refine (log_any _ _ (by omega) (by omega)).mono ?_; rintro e w1 ⟨rfl, rfl⟩) | (go_at_call 12; refine (sectors_any _ _ _ (by omega) (by omega) (by omega) (by omega)).mono ?_; rintro e w1 ⟨rfl, rfl⟩))
  go_ret
  exact ⟨rfl, rfl⟩
end Go.Proofs.Ytdijgpkcolpfoaa

/- What package place's Keys and the document's own Keys answer, and phoenixref.SameInts. -/
namespace Go.Proofs.Ytdijgpkcolpfoaa
open Go.RowKit
set_option linter.unusedVariables false

theorem Try.info3 : (Try.prog.info? 3).map (fun i => (i.zero, i.size, i.bytes)) = some (some (.int .i64 0), 1, 8) := by kernel_rfl
/-- xs as cells. -/
def icells (xs : List Int) : List Value := xs.map (Value.int .i64)
theorem length_icells (xs : List Int) : (icells xs).length = xs.length := by simp [icells]
theorem icells_at {xs : List Int} {j : Nat} (h : j < xs.length) : (icells xs)[j]? = some (.int .i64 (xs.getD j 0)) := by simp [icells, h]
/-- The slice owns the numbers xs, in a block from B on. -/
def OwnI (w : World) (B : Nat) (ao : Option Addr) (m cap : Nat) (xs : List Int) : Prop := w.ownsRow B 3 1 (.slice ao m cap) m (icells xs) ∧ m = xs.length
/-- The slice that begins at 'ao' reads in w as the numbers xs. -/
def RowI (w : World) (ao : Option Addr) (xs : List Int) : Prop :=
  0 < xs.length → ∃ b off, ao = some ⟨b, off, none⟩ ∧ b < w.heap.size ∧ ∀ i, i < xs.length → w.cell? ⟨b, off + i, none⟩ = some (.int .i64 (xs.getD i 0))
theorem RowI.below {w w' : World} {B : Nat} {ao : Option Addr} {xs : List Int} (h : RowI w ao xs) (hb : Below B w w') (hB : w.heap.size ≤ B) : RowI w' ao xs := by
  intro hp
  obtain ⟨b, off, e, hlt, hc⟩ := h hp
  refine ⟨b, off, e, by have := hb.size; omega, fun i hi => ?_⟩
  rw [hb.cell (by show b < B; omega)]
  exact hc i hi
theorem OwnI.row {w : World} {B : Nat} {ao : Option Addr} {m cap : Nat} {xs : List Int} (h : OwnI w B ao m cap xs) : RowI w ao xs := by
  obtain ⟨h1, rfl⟩ := h
  intro hp
  have h1' := h1
  rcases h1.2 with ⟨e, h0⟩ | ⟨g, c, cur, hv, hg, hh, h4, h5, h6, h7⟩
  · omega
  · simp only [Value.slice.injEq] at hv
    obtain ⟨rfl, _, rfl⟩ := hv
    refine ⟨g, 0, rfl, ?_, fun i hi => ?_⟩
    · by_cases hlt : g < w.heap.size
      · exact hlt
      · rw [Array.getElem?_eq_none (by omega)] at hh; simp at hh
    · rw [Nat.zero_add, h1'.cellAt i (by omega)]
      exact icells_at hi
theorem cell_one_new (w : World) (x : Value) (e : TypeId) : ∀ j u, [x][j]? = some u → (w.alloc (.cells #[x] e)).cell? ((⟨w.heap.size, 0, none⟩ : Addr).add j) = some u := by
  intro j u hj
  rw [Addr.add_lit, cell_row (heap_alloc_new w (.cells #[x] e))]
  simpa using hj

set_option maxRecDepth 100000 in
set_option maxHeartbeats 1000000 in
theorem keys_any (page pages n : Int) (w : World) (hn : n ≤ 1000) (hn' : -1000 ≤ n) :
    Calls Try.prog 9 #[.int .i64 page, .int .i64 pages, .int .i64 n] w fun e w' => ∃ ao m c, e = .returned (.slice ao m c) ∧ OwnI w' w.heap.size ao m c (keysP page pages n) ∧ Below w.heap.size w w' := by
  obtain ⟨i0, hi, hz0, hz1, hz2⟩ := info_parts Try.info3
  obtain ⟨N, hN⟩ : ∃ N : Nat, N = 1048576 := ⟨_, rfl⟩
  go_enter Try.func9, Try.ntmps9
  go_wp2_with fail
  go_loopw [7, 8] (fun v i wr => ∃ k : Nat, k ≤ N ∧ i = .int .i64 k ∧ ∃ ao m c, v = .slice ao m c ∧ OwnI wr w.heap.size ao m c (kUp page pages k) ∧ m ≤ n.toNat ∧ Below w.heap.size w wr) (fun _ i _ => N - (intOf i).toNat)
  case atStart => exact ⟨0, by omega, rfl, none, 0, 0, rfl, ⟨World.ownsRow_nil _ _ _ _, rfl⟩, by omega, Below.refl _ _⟩
  case round =>
    obtain ⟨k, hk, rfl, ao, m, c, rfl, hown, hmn, hbel⟩ := hrel
    have HO := hide hown
    have HB := hide hbel
    have hm1 : m ≤ 1000 := by omega
    clear hown hbel
    by_cases hlt : (k : Int) < 1048576
    · by_cases hm : (m : Int) < n
      · by_cases hp : pageI k pages = page
        · have HS := hide (kUp_yes hp)
          go_wp2_with (first | (go_at_call 8; refine (page_any _ _ _).mono ?_; rintro e w2 ⟨rfl, rfl⟩; rw [hp]) | (at_builtin; refine wpList_append_own _ rfl (.tmp 24) (.tmp 26) 24 rfl w.heap.size 3 i0 (.int .i64 0) 1 8 Try.underlying24 hi hz0 hz1 hz2 rfl (by decide) (.slice ao m c) m (icells (kUp page pages k)) rfl (HO.out.1.alloc _) ⟨w2.heap.size, 0, none⟩ 1 1 [.int .i64 k] rfl rfl (cell_one_new _ _ _) (by simp [Value.oneCell']) (by unfold maxLen; omega) (by omega) (by have := HB.out.size; simp; omega) ?_; intro v' w3 hown3 hgr3 _; have HO3 := hide hown3; have HG3 := hide hgr3; clear hown3 hgr3))
          go_roundw
          case rel =>
            have hsz := HB.out.size
            obtain ⟨ao', c', rfl⟩ := own_shape HO3.out
            refine ⟨k + 1, by omega, by go_num, ao', m + 1, c', rfl, ⟨?_, ?_⟩, by omega, ?_⟩
            · rw [HS.out]
              have h3 := HO3.out
              simpa [icells] using h3
            · rw [HS.out, List.length_append, ← HO.out.2]; rfl
            · exact (HB.out.alloc hsz _).grown HG3.out (by simp; omega) (fun j e => (HO.out.1.lt j e).1)
          case measure => simp [intOf]; omega
        · have HS := hide (kUp_no hp)
          obtain ⟨y, hy⟩ : ∃ y, y = pageI k pages := ⟨_, rfl⟩
          rw [← hy] at hp
          have hpd : (y == page) = false := by simp [hp]
          have HY := hide hy
          clear hy
          go_wp2_with (go_at_call 8; refine (page_any _ _ _).mono ?_; rintro e w2 ⟨rfl, rfl⟩; rw [← HY.out])
          go_roundw
          case rel => exact ⟨k + 1, by omega, by go_num, ao, m, c, rfl, by rw [HS.out]; exact HO.out, hmn, HB.out⟩
          case measure => simp [intOf]; omega
      · go_wp2_with fail
        go_ret
        have e : kUp page pages k = keysP page pages n := keysP_of (by rw [maxK_eq]; omega) (.inl (by have := HO.out.2; omega))
        have h3 := HO.out
        rw [e] at h3
        exact ⟨ao, m, c, rfl, h3, HB.out⟩
    · go_wp2_with fail
      go_ret
      have e : kUp page pages k = keysP page pages n := keysP_of (by rw [maxK_eq]; omega) (.inr ⟨by rw [maxK_eq]; omega, by have := HO.out.2; omega⟩)
      have h3 := HO.out
      rw [e] at h3
      exact ⟨ao, m, c, rfl, h3, HB.out⟩
set_option maxRecDepth 100000 in
set_option maxHeartbeats 1000000 in
theorem rkeys_any (page pages n : Int) (w : World) (hn : n ≤ 1000) (hn' : -1000 ≤ n) :
    Calls Try.prog 14 #[.int .i64 page, .int .i64 pages, .int .i64 n] w fun e w' => ∃ ao m c, e = .returned (.slice ao m c) ∧ OwnI w' w.heap.size ao m c (keysP page pages n) ∧ Below w.heap.size w w' := by
  obtain ⟨i0, hi, hz0, hz1, hz2⟩ := info_parts Try.info3
  obtain ⟨N, hN⟩ : ∃ N : Nat, N = 1048576 := ⟨_, rfl⟩
  go_enter Try.func14, Try.ntmps14
  go_wp2_with fail
  go_loopw [7, 8] (fun v i wr => ∃ k : Nat, k ≤ N ∧ i = .int .i64 k ∧ ∃ ao m c, v = .slice ao m c ∧ OwnI wr w.heap.size ao m c (kUp page pages k) ∧ m ≤ n.toNat ∧ Below w.heap.size w wr) (fun _ i _ => N - (intOf i).toNat)
  case atStart => exact ⟨0, by omega, rfl, none, 0, 0, rfl, ⟨World.ownsRow_nil _ _ _ _, rfl⟩, by omega, Below.refl _ _⟩
  case round =>
    obtain ⟨k, hk, rfl, ao, m, c, rfl, hown, hmn, hbel⟩ := hrel
    have HO := hide hown
    have HB := hide hbel
    have hm1 : m ≤ 1000 := by omega
    clear hown hbel
    by_cases hlt : (k : Int) < 1048576
    · by_cases hm : (m : Int) < n
      · by_cases hp : pageI k pages = page
        · have HS := hide (kUp_yes hp)
          go_wp2_with (first | (go_at_call 10; refine (rplace_any _ _ _).mono ?_; rintro e w2 ⟨rfl, rfl⟩; rw [hp]) | (at_builtin; refine wpList_append_own _ rfl (.tmp 24) (.tmp 26) 24 rfl w.heap.size 3 i0 (.int .i64 0) 1 8 Try.underlying24 hi hz0 hz1 hz2 rfl (by decide) (.slice ao m c) m (icells (kUp page pages k)) rfl (HO.out.1.alloc _) ⟨w2.heap.size, 0, none⟩ 1 1 [.int .i64 k] rfl rfl (cell_one_new _ _ _) (by simp [Value.oneCell']) (by unfold maxLen; omega) (by omega) (by have := HB.out.size; simp; omega) ?_; intro v' w3 hown3 hgr3 _; have HO3 := hide hown3; have HG3 := hide hgr3; clear hown3 hgr3))
          go_roundw
          case rel =>
            have hsz := HB.out.size
            obtain ⟨ao', c', rfl⟩ := own_shape HO3.out
            refine ⟨k + 1, by omega, by go_num, ao', m + 1, c', rfl, ⟨?_, ?_⟩, by omega, ?_⟩
            · rw [HS.out]
              have h3 := HO3.out
              simpa [icells] using h3
            · rw [HS.out, List.length_append, ← HO.out.2]; rfl
            · exact (HB.out.alloc hsz _).grown HG3.out (by simp; omega) (fun j e => (HO.out.1.lt j e).1)
          case measure => simp [intOf]; omega
        · have HS := hide (kUp_no hp)
          obtain ⟨y, hy⟩ : ∃ y, y = pageI k pages := ⟨_, rfl⟩
          rw [← hy] at hp
          have hpd : (y == page) = false := by simp [hp]
          have HY := hide hy
          clear hy
          go_wp2_with (go_at_call 10; refine (rplace_any _ _ _).mono ?_; rintro e w2 ⟨rfl, rfl⟩; rw [← HY.out])
          go_roundw
          case rel => exact ⟨k + 1, by omega, by go_num, ao, m, c, rfl, by rw [HS.out]; exact HO.out, hmn, HB.out⟩
          case measure => simp [intOf]; omega
      · go_wp2_with fail
        go_ret
        have e : kUp page pages k = keysP page pages n := keysP_of (by rw [maxK_eq]; omega) (.inl (by have := HO.out.2; omega))
        have h3 := HO.out
        rw [e] at h3
        exact ⟨ao, m, c, rfl, h3, HB.out⟩
    · go_wp2_with fail
      go_ret
      have e : kUp page pages k = keysP page pages n := keysP_of (by rw [maxK_eq]; omega) (.inr ⟨by rw [maxK_eq]; omega, by have := HO.out.2; omega⟩)
      have h3 := HO.out
      rw [e] at h3
      exact ⟨ao, m, c, rfl, h3, HB.out⟩

set_option maxRecDepth 100000 in
set_option maxHeartbeats 1000000 in
theorem sameInts_same (ao bo : Option Addr) (m c m' c' : Nat) (xs : List Int) (w : World) (h : RowI w ao xs) (h' : RowI w bo xs) (hm : m = xs.length) (hm' : m' = xs.length) (hl : xs.length ≤ 2000000) :
    Calls Try.prog 13 #[.slice ao m c, .slice bo m' c'] w fun e w' => e = .returned (.bool true) ∧ ∃ q, w' = w.drewN q := by
  subst hm hm'
  go_enter Try.func13, Try.ntmps13
  go_wp2_with fail
  go_loopw [5] (fun i wr => ∃ k : Nat, k ≤ xs.length ∧ i = .int .i64 k ∧ ∃ q, wr = w.drewN q) (fun i _ => xs.length - (intOf i).toNat)
  case atStart => exact ⟨0, by omega, rfl, 0, rfl⟩
  case round =>
    obtain ⟨k, hk, rfl, q, rfl⟩ := hrel
    by_cases hlt : k < xs.length
    · obtain ⟨b, off, rfl, hb, hc⟩ := h (by omega)
      obtain ⟨b', off', rfl, hb', hc'⟩ := h' (by omega)
      have hcp := hc k hlt
      have hcp' := hc' k hlt
      obtain ⟨y, hy⟩ : ∃ y, y = xs.getD k 0 := ⟨_, rfl⟩
      rw [← hy] at hcp hcp'
      have hki : (k : Int) < (xs.length : Int) := by omega
      clear hc hc' hy h h'
      go_wp2_with fail
      go_quiet (fail)
      go_wp2_with fail
      go_roundw
      case rel => exact ⟨k + 1, by omega, by go_num, _, rfl⟩
      case measure => simp [intOf]; omega
    · go_wp2_with fail
      go_ret
      exact ⟨rfl, q, rfl⟩
theorem sameInts_keys {w z : World} {B B' : Nat} {ao bo : Option Addr} {m c m' c' : Nat} {page pages n : Int} (h : OwnI w B ao m c (keysP page pages n)) (hb : Below w.heap.size w z) (h' : OwnI z B' bo m' c' (keysP page pages n)) :
    Calls Try.prog 13 #[.slice ao m c, .slice bo m' c'] z fun e w' => e = .returned (.bool true) ∧ ∃ q, w' = z.drewN q :=
  sameInts_same _ _ _ _ _ _ _ _ (h.row.below hb (Nat.le_refl _)) h'.row h.2 h'.2 (by have := (@keysP_len page pages n).2; rw [maxK_eq] at this; omega)
end Go.Proofs.Ytdijgpkcolpfoaa
