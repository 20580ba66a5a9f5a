/- Lemmas and contracts that the law stands on, joined: PgSched. -/
import Derived.Test.YtdijgpkcolpfoaaDoorJoin28
import Derived.Test.YtdijgpkcolpfoaaDoorJoin23
import Derived.Test.YtdijgpkcolpfoaaDoorJoin5
import Derived.Test.YtdijgpkcolpfoaaDoorJoin7
/- Small steps of a statement that leaves its order open (for Sched), over pages; a byte of a page turned to 3. -/
namespace Go.Proofs.YtdijgpkcolpfoaaDoor
open Go.RowKit
set_option linter.unusedVariables false

theorem pg_nnil (t : Tmp) (w : World) : (do eqGuard .neq 35 (.tmp t) (.const .nilIface) .nilIface .nilIface; binOp .neq 35 .nilIface .nilIface : Sem Value).run Tryd.prog w = .ok (.bool false) w := by
  go_simp
theorem pt_nnil {S : World → Prop} {o : Oper} {a : Act} {t : Tmp} (hop : o.op = .binOp .neq 35 (.tmp t) (.const .nilIface) 35) (hx : a.eval (.tmp t) = .nilIface) : ∀ w, S w → (execOp a.eval o).run Tryd.prog w = .ok (.value (.bool false)) w := by
  intro w _
  have h := pg_nnil t w
  have hc : a.eval (.const .nilIface) = .nilIface := rfl
  simp only [execOp, hop, hx, hc, Sem.run_bind] at h ⊢
  rw [h]
  rfl
theorem pg_neb (x y : Operand) (b : Bool) (w : World) : (do eqGuard .neq 4 x y (.bool b) (.bool b); binOp .neq 4 (.bool b) (.bool b) : Sem Value).run Tryd.prog w = .ok (.bool false) w := by
  cases b <;> go_simp
theorem pt_neb {S : World → Prop} {o : Oper} {a : Act} {x y : Operand} (b : Bool) (hop : o.op = .binOp .neq 4 x y 4) (hx : a.eval x = .bool b) (hy : a.eval y = .bool b) : ∀ w, S w → (execOp a.eval o).run Tryd.prog w = .ok (.value (.bool false)) w := by
  intro w _
  have h := pg_neb x y b w
  simp only [execOp, hop, hx, hy, Sem.run_bind] at h ⊢
  rw [h]
  rfl
theorem pg_nei (x y : Operand) (n : Int) (w : World) : (do eqGuard .neq 3 x y (.int .i64 n) (.int .i64 n); binOp .neq 3 (.int .i64 n) (.int .i64 n) : Sem Value).run Tryd.prog w = .ok (.bool false) w := by
  go_simp
theorem pt_nei {S : World → Prop} {o : Oper} {a : Act} {x y : Operand} (n : Int) (hop : o.op = .binOp .neq 3 x y 3) (hx : a.eval x = .int .i64 n) (hy : a.eval y = .int .i64 n) : ∀ w, S w → (execOp a.eval o).run Tryd.prog w = .ok (.value (.bool false)) w := by
  intro w _
  have h := pg_nei x y n w
  simp only [execOp, hop, hx, hy, Sem.run_bind] at h ⊢
  rw [h]
  rfl
theorem pg_len (p : Option Addr) (n c : Nat) (w : World) : (builtin .len #[26] 3 #[false] #[.slice p n c]).run Tryd.prog w = .ok (.value (.int .i64 (n : Int))) w := by
  go_simp
theorem pt_len {S : World → Prop} {o : Oper} {a : Act} {t : Tmp} (p : Option Addr) (n c : Nat) (hop : o.op = .call { callee := .builtin .len, args := #[.tmp t], argTypes := #[26] }) (ht : o.type = 3) (hx : a.eval (.tmp t) = .slice p n c) : ∀ w, S w → (execOp a.eval o).run Tryd.prog w = .ok (.value (.int .i64 (n : Int))) w := by
  intro w _
  simp [execOp, hop, resolve, invoke, hx, ht, pg_len]
theorem pg_ld {B : Nat} {w : World} {l : Int} {a : Option Addr} {n c : Nat} (h : PBlk w B l a n c) : (Instr.loadAt 24 (.pointer (some ⟨B, 0, none⟩))).run Tryd.prog w = .ok (pageV l a n c) w := by
  have k0 := h.c0
  have k1 := h.c1
  unfold pageV
  go_simp
theorem pt_ld {S : World → Prop} {B : Nat} {l : Int} {ao : Option Addr} {n c : Nat} {o : Oper} {a : Act} {x : Operand} (hop : o.op = .load 24 x) (ha : a.eval x = .pointer (some ⟨B, 0, none⟩)) (hS : ∀ w, S w → PBlk w B l ao n c) : ∀ w, S w → (execOp a.eval o).run Tryd.prog w = .ok (.value (pageV l ao n c)) w := by
  intro w h
  simp [execOp, hop, ha, pg_ld (hS w h)]
theorem enters12 : Enters Tryd.prog 12 := enters Tryd.func12 (by kernel_rfl) (by kernel_rfl)
theorem enters18 : Enters Tryd.prog 18 := enters Tryd.func18 (by kernel_rfl) (by kernel_rfl)
theorem same_atB (ao : Option Addr) (n cap : Nat) (xs : List Int) (bo : Option Addr) (n' cap' : Nat) (ys : List Int) (w : World) (b : Bool) (h : Row w ao xs) (h' : Row w bo ys) (hn : xs.length = n) (hn' : ys.length = n') (hb : sameB xs ys = b) :
    Calls Tryd.prog 12 #[.slice ao n cap, .slice bo n' cap'] w fun e w' => e = .returned (.bool b) ∧ Below w.heap.size w w' := by
  subst hb
  subst hn
  subst hn'
  refine (same_any ao cap xs bo cap' ys w h h').mono ?_
  rintro e w' ⟨rfl, n, rfl⟩
  exact ⟨rfl, below_drewN (Below.refl _ _) n⟩
theorem samePage_at (l1 : Int) (ao : Option Addr) (n c : Nat) (xs : List (Int × Int)) (l2 : Int) (bo : Option Addr) (m d : Nat) (ys : List (Int × Int)) (w : World) (q : Bool) (h : EntRow w ao xs) (h' : EntRow w bo ys) (hn : xs.length = n) (hm : ys.length = m) (hq : samePgB l1 xs l2 ys = q) :
    Calls Tryd.prog 18 #[pageV l1 ao n c, pageV l2 bo m d] w fun e w' => e = .returned (.bool q) ∧ Below w.heap.size w w' := by
  subst hq; exact samePage_any l1 ao n c xs l2 bo m d ys w h h' hn hm
theorem samePg_both {l1 l2 : Int} {xs ys : List (Int × Int)} (h1 : okP l1 xs = true) (f1 : fitsE xs) (h2 : okP l2 ys = true) (f2 : fitsE ys) : sameB (pageB l1 xs) (pageB l2 ys) = samePgB l1 xs l2 ys := by
  unfold sameB samePgB
  by_cases h : l1 = l2 ∧ xs = ys
  · obtain ⟨rfl, rfl⟩ := h
    rw [decide_eq_true rfl, decide_eq_true ⟨rfl, rfl⟩]
  · rw [decide_eq_false h, decide_eq_false fun e => h (pageB_inj h1 f1 h2 f2 e)]
theorem byteAt_turn (xs : List Int) (k : Nat) (v p : Int) (h : p ≠ k) : byteAt (xs.set k v) p = byteAt xs p := by
  unfold byteAt
  rw [List.length_set]
  split
  · rename_i hp
    rw [List.getD_eq_getElem?_getD, List.getD_eq_getElem?_getD, List.getElem?_set_ne (by omega)]
  · rfl
theorem getB_turn (xs : List Int) (k : Nat) (v b : Int) (l : Nat) (h : (k : Int) < b ∨ b + l ≤ k) : getB (xs.set k v) b l = getB xs b l := by
  unfold getB
  exact num_congr l fun j h0 h1 => byteAt_turn xs k v _ (by omega)
theorem byteAt_entUp (xs : List Int) (es : List (Int × Int)) (m : Nat) (r : Int) (h : r < 16 ∨ 16 + (m : Int) * 12 ≤ r) : byteAt (entUp xs es m) r = byteAt xs r := by
  induction m with
  | zero => rfl
  | succ m ih => rw [entUp, byteAt_putB, if_neg (by omega), byteAt_putB, if_neg (by omega), ih (by omega)]
theorem byteAt_page0 (k : Nat) : byteAt page0 k = 0 := by
  rw [byteAt_nat, List.getD_eq_getElem?_getD]
  unfold page0
  rw [List.getElem?_replicate]
  split <;> rfl
theorem byteAt_page2 (lsn m : Int) (k : Nat) (h : 6 ≤ k) : byteAt (page2 lsn m) k = 0 := by
  have h1 : byteAt (page1 lsn) k = 0 := by
    unfold page1
    rw [byteAt_putB, if_neg (fun e => by omega), byteAt_page0]
  unfold page2
  rw [byteAt_putB, if_neg (fun e => by omega), h1]
theorem byteAt_page (lsn : Int) (es : List (Int × Int)) (k : Nat) (h : (6 ≤ k ∧ k < 16) ∨ 16 + es.length * 12 ≤ k) : byteAt (pageB lsn es) k = 0 := by
  unfold pageB
  rw [byteAt_entUp _ _ _ _ (by omega)]
  exact byteAt_page2 lsn _ k (by omega)
/-- A byte turned behind the keys, or in the empty part of the head, makes it no page's. -/
theorem page_turned {lsn : Int} {es : List (Int × Int)} (h : okP lsn es = true) (hf : fitsE es) (k : Nat) (hk : (6 ≤ k ∧ k < 16) ∨ (16 + es.length * 12 ≤ k ∧ k < 256)) : isPage ((pageB lsn es).set k 3) = false := by
  have hb := page_back h hf
  have hl : k < (pageB lsn es).length := by rw [length_pageB]; omega
  have h1 : lsnOf ((pageB lsn es).set k 3) = lsn := (show lsnOf ((pageB lsn es).set k 3) = lsnOf (pageB lsn es) from getB_turn _ _ _ _ _ (by omega)).trans hb.1
  have h2 : keysOf ((pageB lsn es).set k 3) = es.length := by
    have h0 : (entsOf (pageB lsn es)).length = keysOf (pageB lsn es) := length_entsUp _ _
    rw [hb.2.1] at h0
    rw [h0]
    unfold keysOf
    rw [getB_turn _ _ _ _ _ (by omega)]
  have h3 : entsOf ((pageB lsn es).set k 3) = es := by
    refine Eq.trans ?_ hb.2.1
    have h0 : (entsOf (pageB lsn es)).length = keysOf (pageB lsn es) := length_entsUp _ _
    rw [hb.2.1] at h0
    unfold entsOf
    rw [h2, ← h0]
    unfold entsUp
    refine List.map_congr_left fun i hi => ?_
    have hi := List.mem_range.1 hi
    unfold entAt
    rw [getB_turn _ _ _ _ _ (by omega), getB_turn _ _ _ _ _ (by omega)]
  cases hp : isPage ((pageB lsn es).set k 3) with
  | false => rfl
  | true =>
    exfalso
    unfold isPage at hp
    rw [h1, h3, Bool.and_eq_true, decide_eq_true_eq] at hp
    have e := byteAt_page lsn es k (by omega)
    rw [hp.2, byteAt_set _ _ _ hl] at e
    omega
end Go.Proofs.YtdijgpkcolpfoaaDoor
