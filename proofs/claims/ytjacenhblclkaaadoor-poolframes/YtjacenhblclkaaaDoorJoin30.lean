/- Lemmas and contracts that the law stands on, joined: WalMath3, WalMath4. -/
import Derived.Test.YtjacenhblclkaaaDoorJoin28
import Derived.Test.YtjacenhblclkaaaDoorJoin5
import Derived.Test.YtjacenhblclkaaaDoorJoin29
/- Plain lemmas on logs: what a Flush makes of a disk's versions, with power that may go; what a crash leaves. No Go text here. -/
namespace Go.Proofs.YtjacenhblclkaaaDoor
open Go.RowKit
set_option linter.unusedVariables false

/-- The versions of block k of a log that begins at sector 'first'. -/
def verL (vss : List (List (List Int))) (first k : Nat) : List (List Int) := vss.getD (first + k) []
/-- One version more of a sector. -/
def addS (vss : List (List (List Int))) (i : Nat) (b : List Int) : List (List (List Int)) := vss.set i (vss.getD i [] ++ [b])
theorem length_addS (vss : List (List (List Int))) (i : Nat) (b : List Int) : (addS vss i b).length = vss.length := by simp [addS]
theorem addS_at (vss : List (List (List Int))) (i j : Nat) (b : List Int) (h : i < vss.length) : (addS vss i b).getD j [] = if j = i then vss.getD i [] ++ [b] else vss.getD j [] := by
  unfold addS
  rw [List.getD_eq_getElem?_getD, List.getElem?_set]
  by_cases e : i = j
  · rw [if_pos e, if_pos (by omega), if_pos e.symm]; rfl
  · rw [if_neg e, if_neg (fun e' => e e'.symm), ← List.getD_eq_getElem?_getD]
theorem verL_addS (vss : List (List (List Int))) (first k j : Nat) (b : List Int) (h : first + k < vss.length) : verL (addS vss (first + k) b) first j = addV (verL vss first) k b j := by
  unfold verL addV
  rw [addS_at _ _ _ _ h]
  by_cases e : j = k
  · rw [if_pos (by omega), if_pos e]
  · rw [if_neg (by omega), if_neg e]
/-- n blocks from k on are written, as far as the fuse goes: the versions, the fuse, and whether there is still power. -/
def wrUp (first : Nat) (ep : Int) (rs : List R) : Nat → Nat → List (List (List Int)) → Int → List (List (List Int)) × Int × Bool
  | 0, _, vss, f => (vss, f, true)
  | n + 1, k, vss, f => if f = 0 then (addS vss (first + k) (blockB ep (chunk rs k)), 0, false) else wrUp first ep rs n (k + 1) (addS vss (first + k) (blockB ep (chunk rs k))) (burnt f)
/-- How many blocks have records. -/
def blocksOf (n : Nat) : Nat := (n + 5) / 6
/-- What Flush makes of the disk: the versions, the fuse, whether power is off, whether it went well. -/
def flushW (first : Nat) (ep : Int) (rs : List R) (D : Nat) (vss : List (List (List Int))) (off : Bool) (fuse : Int) : List (List (List Int)) × Int × Bool × Bool :=
  if D = rs.length then (vss, fuse, off, true) else if off then (vss, fuse, true, false) else
    if (wrUp first ep rs (blocksOf rs.length - D / 6) (D / 6) vss fuse).2.2 = true then
      if (wrUp first ep rs (blocksOf rs.length - D / 6) (D / 6) vss fuse).2.1 = 0 then ((wrUp first ep rs (blocksOf rs.length - D / 6) (D / 6) vss fuse).1, 0, true, false)
      else ((wrUp first ep rs (blocksOf rs.length - D / 6) (D / 6) vss fuse).1.map synced, burnt (wrUp first ep rs (blocksOf rs.length - D / 6) (D / 6) vss fuse).2.1, false, true)
    else ((wrUp first ep rs (blocksOf rs.length - D / 6) (D / 6) vss fuse).1, (wrUp first ep rs (blocksOf rs.length - D / 6) (D / 6) vss fuse).2.1, true, false)
theorem length_wrUp (first : Nat) (ep : Int) (rs : List R) : ∀ n k vss f, (wrUp first ep rs n k vss f).1.length = vss.length := by
  intro n
  induction n with
  | zero => intro k vss f; rfl
  | succ n ih =>
    intro k vss f
    rw [wrUp]
    split
    · exact length_addS _ _ _
    · rw [ih, length_addS]
theorem wrUp_other (first : Nat) (ep : Int) (rs : List R) : ∀ n k vss f i, first + k + n ≤ vss.length → i < first + k ∨ first + k + n ≤ i → (wrUp first ep rs n k vss f).1.getD i [] = vss.getD i [] := by
  intro n
  induction n with
  | zero => intro k vss f i _ _; rfl
  | succ n ih =>
    intro k vss f i hl hi
    rw [wrUp]
    split
    · show (addS vss _ _).getD i [] = _
      rw [addS_at _ _ _ _ (by omega), if_neg (by omega)]
    · rw [ih (k + 1) _ _ i (by rw [length_addS]; omega) (by omega), addS_at _ _ _ _ (by omega), if_neg (by omega)]
theorem wrUp_walk {N : Nat} {ep : Int} {rs : List R} {D : Nat} {e : Nat → Int} {first : Nat} : ∀ n k vss f, Walk N ep rs D (verL vss first) e → first + N ≤ vss.length → D < 6 * (k + 1) → 6 * (k + n) < rs.length + 6 → Walk N ep rs D (verL (wrUp first ep rs n k vss f).1 first) e := by
  intro n
  induction n with
  | zero => intro k vss f h _ _ _; exact h
  | succ n ih =>
    intro k vss f h hl h1 h2
    have hln := h.len
    have h3 := (h.write k h1 (by omega)).congr (V' := verL (addS vss (first + k) (blockB ep (chunk rs k))) first) fun j _ => verL_addS vss first k j _ (by omega)
    rw [wrUp]
    split
    · exact h3
    · exact ih (k + 1) _ _ h3 (by rw [length_addS]; omega) (by omega) (by omega)
theorem wrUp_last {ep : Int} {rs : List R} {first : Nat} : ∀ n k vss f, first + k + n ≤ vss.length → (wrUp first ep rs n k vss f).2.2 = true → ∀ j, k ≤ j → j < k + n → lastV (verL (wrUp first ep rs n k vss f).1 first j) = blockB ep (chunk rs j) := by
  intro n
  induction n with
  | zero => intro k vss f _ _ j h1 h2; omega
  | succ n ih =>
    intro k vss f hl hp j h1 h2
    rw [wrUp] at hp ⊢
    split at hp
    · cases hp
    · rename_i hf
      rw [if_neg hf]
      by_cases e : j = k
      · subst e
        have h3 : verL (wrUp first ep rs n (j + 1) (addS vss (first + j) (blockB ep (chunk rs j))) (burnt f)).1 first j = vss.getD (first + j) [] ++ [blockB ep (chunk rs j)] := by
          unfold verL
          rw [wrUp_other first ep rs n (j + 1) _ _ (first + j) (by rw [length_addS]; omega) (by omega), addS_at _ _ _ _ (by omega), if_pos rfl]
        rw [h3]
        unfold lastV
        rw [List.length_append, List.getD_eq_getElem?_getD, List.getElem?_append_right (by simp)]
        simp
      · exact ih (k + 1) _ _ (by rw [length_addS]; omega) hp j (by omega) (by omega)
/-- Every sector has a version. -/
def hasV (vss : List (List (List Int))) : Prop := ∀ i, i < vss.length → 1 ≤ (vss.getD i []).length
theorem hasV.add {vss : List (List (List Int))} (h : hasV vss) (i : Nat) (b : List Int) (hi : i < vss.length) : hasV (addS vss i b) := by
  intro j hj
  rw [length_addS] at hj
  rw [addS_at _ _ _ _ hi]
  split
  · simp
  · exact h j hj
theorem hasV.wrUp {first : Nat} {ep : Int} {rs : List R} : ∀ n k vss f, hasV vss → first + k + n ≤ vss.length → hasV (wrUp first ep rs n k vss f).1 := by
  intro n
  induction n with
  | zero => intro k vss f h _; exact h
  | succ n ih =>
    intro k vss f h hl
    rw [Proofs.YtjacenhblclkaaaDoor.wrUp]
    split
    · exact h.add _ _ (by omega)
    · exact ih (k + 1) _ _ (h.add _ _ (by omega)) (by rw [length_addS]; omega)
theorem lastV_mem {vs : List (List Int)} (h : 1 ≤ vs.length) : lastV vs ∈ vs := by
  unfold lastV
  rw [List.getD_eq_getElem?_getD, List.getElem?_eq_getElem (by omega)]
  exact List.getElem_mem _
theorem verL_synced (vss : List (List (List Int))) (first k : Nat) (h : first + k < vss.length) : verL (vss.map synced) first k = [lastV (verL vss first k)] := by
  unfold verL
  rw [List.getD_eq_getElem?_getD, List.getElem?_map, List.getElem?_eq_getElem h, List.getD_eq_getElem?_getD, List.getElem?_eq_getElem h]
  rfl
theorem blocks_bd (n : Nat) : 6 * blocksOf n < n + 6 ∧ n ≤ 6 * blocksOf n := by unfold blocksOf; omega
/-- What Flush leaves is a log as it should be: all is flushed where it went well; else no more than was. -/
theorem flush_walk {N : Nat} {ep : Int} {rs : List R} {D : Nat} {e : Nat → Int} {first : Nat} {vss : List (List (List Int))} (off : Bool) (fuse : Int) (h : Walk N ep rs D (verL vss first) e) (hl : first + N ≤ vss.length) (hv : hasV vss) :
    ∃ e', Walk N ep rs (if (flushW first ep rs D vss off fuse).2.2.2 then rs.length else D) (verL (flushW first ep rs D vss off fuse).1 first) e' := by
  have hd := h.dle
  have hln := h.len
  obtain ⟨hb1, hb2⟩ := blocks_bd rs.length
  unfold flushW
  by_cases h1 : D = rs.length
  · rw [if_pos h1]
    refine ⟨e, ?_⟩
    rw [if_pos rfl, ← h1]
    exact h
  · rw [if_neg h1]
    cases off with
    | true => exact ⟨e, h⟩
    | false =>
      simp only [Bool.false_eq_true, if_false]
      have hw := wrUp_walk (first := first) (blocksOf rs.length - D / 6) (D / 6) vss fuse h hl (by omega) (by omega)
      have hlen := length_wrUp first ep rs (blocksOf rs.length - D / 6) (D / 6) vss fuse
      have hhas := hasV.wrUp (first := first) (ep := ep) (rs := rs) (blocksOf rs.length - D / 6) (D / 6) vss fuse hv (by omega)
      have hlast := wrUp_last (ep := ep) (rs := rs) (first := first) (blocksOf rs.length - D / 6) (D / 6) vss fuse (by omega)
      generalize wrUp first ep rs (blocksOf rs.length - D / 6) (D / 6) vss fuse = g at hw hlen hhas hlast ⊢
      obtain ⟨v, f, on⟩ := g
      simp only at hw hlen hhas hlast ⊢
      cases on with
      | false => exact ⟨e, hw⟩
      | true =>
        simp only [if_true]
        by_cases hf : f = 0
        · rw [if_pos hf]
          exact ⟨e, hw⟩
        · rw [if_neg hf]
          refine ⟨_, hw.sync (V' := verL (v.map synced) first) (fun k hk1 hk2 => ?_) (fun k hk => ?_)⟩
          · rw [verL_synced _ _ _ (by omega), hlast rfl k (by omega) (by omega)]
          · exact ⟨lastV (verL v first k), lastV_mem (hhas _ (by omega)), verL_synced _ _ _ (by omega)⟩
theorem length_flushW (first : Nat) (ep : Int) (rs : List R) (D : Nat) (vss : List (List (List Int))) (off : Bool) (fuse : Int) : (flushW first ep rs D vss off fuse).1.length = vss.length := by
  unfold flushW
  split
  · rfl
  · split
    · rfl
    · split
      · split
        · exact length_wrUp ..
        · rw [List.length_map]; exact length_wrUp ..
      · exact length_wrUp ..
theorem hasV_flushW {N : Nat} {first : Nat} {ep : Int} {rs : List R} {D : Nat} {vss : List (List (List Int))} (off : Bool) (fuse : Int) (hl : first + N ≤ vss.length) (hr : rs.length ≤ 6 * N) (hd : D ≤ rs.length) (hv : hasV vss) : hasV (flushW first ep rs D vss off fuse).1 := by
  obtain ⟨hb1, hb2⟩ := blocks_bd rs.length
  have h1 := hasV.wrUp (first := first) (ep := ep) (rs := rs) (blocksOf rs.length - D / 6) (D / 6) vss fuse hv
  unfold flushW
  split
  · exact hv
  · rename_i hne
    split
    · exact hv
    · split
      · split
        · exact h1 (by omega)
        · intro i hi
          show 1 ≤ (List.getD (List.map synced _) i []).length
          rw [List.length_map] at hi
          rw [List.getD_eq_getElem?_getD, List.getElem?_map, List.getElem?_eq_getElem hi]
          exact Nat.le_refl _
      · exact h1 (by omega)
/-- What a crash leaves of a log: each block one of its versions. -/
theorem crash_pickL (zs : List Int) (vss : List (List (List Int))) (first : Nat) (hv : hasV vss) : ∃ c : Nat → List Int, ∀ k, first + k < vss.length → c k ∈ verL vss first k ∧ verL (crashed zs vss) first k = [c k] := by
  refine ⟨fun k => (verL (crashed zs vss) first k).getD 0 [], fun k hk => ?_⟩
  have h1 : 1 ≤ (verOf vss (first + k)).length := hv _ hk
  obtain ⟨v, hv1, hv2⟩ := crashedSec_mem (zs := zs) (vss := vss) (k := first + k) h1
  have h2 : verL (crashed zs vss) first k = [v] := (verOf_crashed hk).trans hv2
  show (verL (crashed zs vss) first k).getD 0 [] ∈ _ ∧ _ = [(verL (crashed zs vss) first k).getD 0 []]
  rw [h2]
  exact ⟨(show v ∈ verL vss first k from hv1), rfl⟩
theorem hasV_crashed (zs : List Int) (vss : List (List (List Int))) (hv : hasV vss) : hasV (crashed zs vss) := by
  intro i hi
  rw [length_crashed] at hi
  have h1 : 1 ≤ (verOf vss i).length := hv _ hi
  have h2 : (crashed zs vss).getD i [] = crashedSec zs vss i := verOf_crashed hi
  rw [h2, crashedSec_one h1]
  exact Nat.le_refl _
/-- Crashed, and opened as a later boot. -/
theorem crash_opened {N : Nat} {ep : Int} {rs : List R} {D : Nat} {e : Nat → Int} {first : Nat} {vss : List (List (List Int))} (zs : List Int) (h : Walk N ep rs D (verL vss first) e) (hl : first + N ≤ vss.length) (hv : hasV vss) (ep' : Int) (hep : ep < ep') (hep' : ep' ≤ 1073741824) :
    ∃ m e', D ≤ m ∧ m ≤ rs.length ∧ openUp (fun k => lastV (verL (crashed zs vss) first k)) ep' N 0 1 [] = (rs.take m, -1) ∧ Walk N ep' (rs.take m) m (verL (crashed zs vss) first) e' := by
  obtain ⟨c, hc⟩ := crash_pickL zs vss first hv
  have hlc : ∀ k, k < N → lastV (verL (crashed zs vss) first k) = c k := fun k hk => by rw [(hc k (by omega)).2]; rfl
  obtain ⟨m, m1, m2, m3, m4⟩ := h.opened (fun k => lastV (verL (crashed zs vss) first k)) (fun k hk => by rw [hlc k hk]; exact (hc k (by omega)).1) ep' hep hep'
  refine ⟨m, _, m1, m2, m3, m4.congr fun k hk => ?_⟩
  show verL (crashed zs vss) first k = [lastV (verL (crashed zs vss) first k)]
  rw [hlc k hk]
  exact (hc k (by omega)).2
end Go.Proofs.YtjacenhblclkaaaDoor

/- Plain lemmas on logs: what is read may be; how many versions a sector has. No Go text here. -/
namespace Go.Proofs.YtjacenhblclkaaaDoor
open Go.RowKit
set_option linter.unusedVariables false

theorem ans_block_ok {xs : List Int} (h : isAns xs = true) : okB (epochOf xs) (recsOf xs) = true := by
  unfold isAns at h
  simp only [Bool.and_eq_true] at h
  have hi := h.2.2
  unfold isBlock at hi
  simp only [Bool.and_eq_true] at hi
  exact hi.2.1
/-- What is read may be. -/
theorem ansR_good {xs : List Int} (hb : Bytes xs) : ∀ r ∈ ansR xs, goodB r = true ∧ r.fits := by
  intro r hr
  unfold ansR at hr
  split at hr
  · rename_i h
    refine ⟨((okB_iff _ _).1 (ans_block_ok h)).2 r hr, ?_⟩
    obtain ⟨i, _, rfl⟩ := List.mem_map.1 hr
    exact partsR_fits _ fun x hx => hb x (List.mem_of_mem_drop (List.mem_of_mem_take hx))
  · simp at hr
theorem ansR_le (xs : List Int) : (ansR xs).length ≤ 6 := by
  unfold ansR
  split
  · rw [length_recsOf]; exact manyOf_le xs
  · simp
theorem ansN_bd (xs : List Int) : 0 ≤ ansN xs ∧ ansN xs ≤ 1073741824 := by
  unfold ansN
  split
  · rename_i h
    have h1 := ((okB_iff _ _).1 (ans_block_ok h)).1
    omega
  · omega
theorem openUp_len (rd : Nat → List Int) (ep : Int) : ∀ n k least acc, (openUp rd ep n k least acc).1.length ≤ acc.length + 6 * n := by
  intro n
  induction n with
  | zero => intro k least acc; simp [openUp]
  | succ n ih =>
    intro k least acc
    have h6 := ansR_le (rd k)
    rw [openUp]
    split
    · simp
    split
    · show acc.length ≤ _; omega
    split
    · simp
    split
    · show acc.length ≤ _; omega
    split
    · rw [List.length_append]; omega
    · refine Nat.le_trans (ih _ _ _) ?_
      rw [List.length_append]
      omega
theorem openUp_good (rd : Nat → List Int) (ep : Int) (hb : ∀ k, Bytes (rd k)) : ∀ n k least acc, (∀ r ∈ acc, goodB r = true ∧ r.fits) → ∀ r ∈ (openUp rd ep n k least acc).1, goodB r = true ∧ r.fits := by
  intro n
  induction n with
  | zero => intro k least acc h; exact h
  | succ n ih =>
    intro k least acc h
    have hg := ansR_good (hb k)
    have hg2 : ∀ r ∈ acc ++ ansR (rd k), goodB r = true ∧ r.fits := by
      intro r hr
      rcases List.mem_append.1 hr with h1 | h1
      · exact h r h1
      · exact hg r h1
    rw [openUp]
    split
    · intro r hr; simp at hr
    split
    · exact h
    split
    · intro r hr; simp at hr
    split
    · exact h
    split
    · exact hg2
    · exact ih _ _ _ hg2
/-- No sector has more than B versions. -/
def verBd (vss : List (List (List Int))) (B : Nat) : Prop := ∀ i, (vss.getD i []).length ≤ B
theorem verBd.mono {vss : List (List (List Int))} {B C : Nat} (h : verBd vss B) (hB : B ≤ C) : verBd vss C := fun i => Nat.le_trans (h i) hB
theorem getD_out {vss : List (List (List Int))} {i : Nat} (h : vss.length ≤ i) : vss.getD i [] = [] := by
  rw [List.getD_eq_getElem?_getD, List.getElem?_eq_none h]; rfl
theorem addS_len (vss : List (List (List Int))) (i j : Nat) (b : List Int) : ((addS vss i b).getD j []).length ≤ (if j = i then (vss.getD i []).length + 1 else (vss.getD j []).length) := by
  by_cases h : i < vss.length
  · rw [addS_at _ _ _ _ h]
    split
    · simp
    · exact Nat.le_refl _
  · rw [show addS vss i b = vss by unfold addS; exact List.set_eq_of_length_le (by omega)]
    split
    · rename_i e; rw [e]; omega
    · exact Nat.le_refl _
theorem wrUp_bd (first : Nat) (ep : Int) (rs : List R) (B : Nat) : ∀ n k vss f, verBd vss (B + 1) → (∀ j, first + k ≤ j → (vss.getD j []).length ≤ B) → verBd (wrUp first ep rs n k vss f).1 (B + 1) := by
  intro n
  induction n with
  | zero => intro k vss f h _; exact h
  | succ n ih =>
    intro k vss f h h2
    have h3 : verBd (addS vss (first + k) (blockB ep (chunk rs k))) (B + 1) := by
      intro j
      refine Nat.le_trans (addS_len _ _ _ _) ?_
      split
      · have := h2 (first + k) (Nat.le_refl _); omega
      · exact h j
    rw [wrUp]
    split
    · exact h3
    · refine ih (k + 1) _ _ h3 fun j hj => ?_
      refine Nat.le_trans (addS_len _ _ _ _) ?_
      rw [if_neg (by omega)]
      exact h2 j (by omega)
/-- With power each sector has one version, without it two at most: so a log's own calls leave a disk. -/
def tight (vss : List (List (List Int))) (off : Bool) : Prop := (off = false → verBd vss 1) ∧ verBd vss 2
theorem tight.mk1 {vss : List (List (List Int))} (off : Bool) (h : verBd vss 1) : tight vss off := ⟨fun _ => h, h.mono (by omega)⟩
theorem verBd_synced (vss : List (List (List Int))) : verBd (vss.map synced) 1 := by
  intro i
  rw [List.getD_eq_getElem?_getD, List.getElem?_map]
  cases vss[i]? with
  | none => simp
  | some x => simp [synced]
theorem tight_flush {first : Nat} {ep : Int} {rs : List R} {D : Nat} {vss : List (List (List Int))} {off : Bool} {fuse : Int} (h : tight vss off) : tight (flushW first ep rs D vss off fuse).1 (flushW first ep rs D vss off fuse).2.2.1 := by
  unfold flushW
  by_cases h1 : D = rs.length
  · rw [if_pos h1]; exact h
  · rw [if_neg h1]
    cases off with
    | true => exact h
    | false =>
      simp only [Bool.false_eq_true, if_false]
      have hw := wrUp_bd first ep rs 1 (blocksOf rs.length - D / 6) (D / 6) vss fuse h.2 fun j _ => h.1 rfl j
      generalize wrUp first ep rs (blocksOf rs.length - D / 6) (D / 6) vss fuse = g at hw ⊢
      obtain ⟨v, f, on⟩ := g
      simp only at hw ⊢
      cases on with
      | false => exact ⟨fun e => (by simp at e), hw⟩
      | true =>
        simp only [if_true]
        by_cases hf : f = 0
        · rw [if_pos hf]; exact ⟨fun e => (by simp at e), hw⟩
        · rw [if_neg hf]; exact tight.mk1 _ (verBd_synced v)
theorem verBd_crashed (zs : List Int) (vss : List (List (List Int))) (hv : hasV vss) : verBd (crashed zs vss) 1 := by
  intro i
  by_cases h : i < vss.length
  · have h1 : 1 ≤ (verOf vss i).length := hv _ h
    have h2 : (crashed zs vss).getD i [] = crashedSec zs vss i := verOf_crashed h
    rw [h2, crashedSec_one h1]
    exact Nat.le_refl _
  · rw [getD_out (by rw [length_crashed]; omega)]
    simp
theorem tight_crashed (zs : List Int) (vss : List (List (List Int))) (hv : hasV vss) (off : Bool) : tight (crashed zs vss) off := tight.mk1 _ (verBd_crashed zs vss hv)
theorem tight_new (N : Nat) (x : List Int) (off : Bool) : tight (List.replicate N [x]) off := tight.mk1 _ fun i => by
  rw [List.getD_eq_getElem?_getD, List.getElem?_replicate]
  split <;> simp
theorem hasV_new (N : Nat) (x : List Int) : hasV (List.replicate N [x]) := by
  intro i hi
  rw [List.length_replicate] at hi
  rw [List.getD_eq_getElem?_getD, List.getElem?_replicate, if_pos hi]
  simp
/-- Without a fuse all goes well. -/
theorem wrUp_free (first : Nat) (ep : Int) (rs : List R) : ∀ n k vss, (wrUp first ep rs n k vss (-1)).2 = (-1, true) := by
  intro n
  induction n with
  | zero => intro k vss; rfl
  | succ n ih =>
    intro k vss
    rw [wrUp, if_neg (by decide), show burnt (-1) = -1 from rfl]
    exact ih _ _
theorem flush_free (first : Nat) (ep : Int) (rs : List R) (D : Nat) (vss : List (List (List Int))) : (flushW first ep rs D vss false (-1)).2 = (-1, false, true) := by
  unfold flushW
  split
  · rfl
  · rw [if_neg (by decide), if_pos (by rw [wrUp_free]), if_neg (by rw [wrUp_free]; decide)]
    show (burnt (wrUp first ep rs _ _ vss (-1)).2.1, false, true) = _
    rw [wrUp_free]
    rfl
end Go.Proofs.YtjacenhblclkaaaDoor
