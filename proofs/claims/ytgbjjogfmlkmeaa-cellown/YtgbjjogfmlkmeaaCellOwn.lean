/- The statement CellOwn holds: for every list of bytes, place and number the law returns true, and its arguments read afterwards as before. No condition. -/
import Derived.Test.YtgbjjogfmlkmeaaFrame
import Derived.Test.YtgbjjogfmlkmeaaRef
import Derived.BigRegion
import Derived.Test.YtgbjjogfmlkmeaaRows
import Derived.WalkKit
import Derived.ProofKit
import Derived.OpenShut
import Derived.ShutString
import Derived.ChangeOld
import Derived.Below
namespace Go.Proofs.Ytgbjjogfmlkmeaa.cellOwn
open Go.ChangeShapes Go.WideShapes Go.ChangeAt Go.RowKit
open Go.ChangeMaps (open_string shut_string)
set_option linter.unusedVariables false

theorem own : ownKnob Try.prog.godebug = none := by kernel_rfl
theorem laidOut : laidOutB Try.prog = true := by kernel_rfl

/-- A list that was handed out: where it begins, its length and room, and between which blocks it lies. -/
structure Ent where
  ao : Option Addr
  n : Nat
  cap : Nat
  lo : Nat
  hi : Nat
def Ent.val (e : Ent) : Value := .slice e.ao e.n e.cap
def Ent.ok (w : World) (e : Ent) : Prop := ∃ xs : List Int, xs.length = e.n ∧ Own w e.lo e.ao e.cap xs ∧ ∀ k, e.val.ownBlock = some k → k < e.hi
/-- The lists es stand in block g; those from k on can be written. -/
def AllOk (w : World) (g : Nat) (es : List Ent) (k : Nat) : Prop :=
  (∀ j (hj : j < es.length), w.cell? ⟨g, j, none⟩ = some es[j].val) ∧ (∀ j (hj : j < es.length), k ≤ j → es[j].ok w)
def Chain (g B : Nat) (es : List Ent) : Prop :=
  (∀ i j (hi : i < es.length) (hj : j < es.length), i < j → es[i].hi ≤ es[j].lo) ∧ (∀ j (hj : j < es.length), es[j].hi ≤ g ∧ B ≤ es[j].lo ∧ es[j].n ≤ 100 ∧ es[j].lo ≤ es[j].hi)

theorem Own.kept {w w' : World} {B : Nat} {ao : Option Addr} {cap : Nat} {xs : List Int} {row : Option Nat} (h : Own w B ao cap xs) (hg : w.grownBy w' row) (hne : (Value.slice ao xs.length cap).ownBlock = none ∨ (Value.slice ao xs.length cap).ownBlock ≠ row) : Own w' B ao cap xs :=
  ⟨h.1.kept hg hne, h.2⟩
theorem ent_lt {w : World} {e : Ent} (h : e.ok w) {k : Nat} (hk : e.val.ownBlock = some k) : e.lo ≤ k ∧ k < e.hi := by
  obtain ⟨xs, hx, ho, hh⟩ := h
  refine ⟨?_, hh k hk⟩
  unfold Ent.val at hk
  rw [← hx] at hk
  exact (ho.1.lt k hk).1
theorem ent_kept {w w' : World} {e : Ent} {row : Option Nat} (h : e.ok w) (hg : w.grownBy w' row) (hr : ∀ k, row = some k → k < e.lo ∨ e.hi ≤ k) : e.ok w' := by
  have h' := h
  obtain ⟨xs, hx, ho, hh⟩ := h
  refine ⟨xs, hx, Own.kept ho hg ?_, hh⟩
  cases hb : (Value.slice e.ao xs.length e.cap).ownBlock with
  | none => exact .inl rfl
  | some k =>
    refine .inr fun er => ?_
    have := ent_lt h' (k := k) (by unfold Ent.val; rw [← hx]; exact hb)
    have := hr k er.symm
    omega
/-- What turned list k alone leaves those behind it, and block g, as they were. -/
theorem AllOk.grown {w w' : World} {g B k : Nat} {es : List Ent} (h : AllOk w g es k) (hc : Chain g B es) (hk : k < es.length) (hg : w.grownBy w' (es[k].val.ownBlock)) : AllOk w' g es (k + 1) := by
  have hok := h.2 k hk (Nat.le_refl _)
  refine ⟨fun j hj => ?_, fun j hj hkj => ?_⟩
  · refine hg.cell (h.1 j hj) ?_
    intro e
    have := ent_lt hok e.symm
    have := (hc.2 k hk).1
    simp only at *
    omega
  · refine ent_kept (h.2 j hj (by omega)) hg fun b hb => ?_
    have := ent_lt hok hb
    have := hc.1 k j hk hj (by omega)
    omega
theorem AllOk.stored {w : World} {g B k : Nat} {es : List Ent} (h : AllOk w g es k) (hc : Chain g B es) (hk : k < es.length) (b j : Nat) (hb : es[k].ao = some ⟨b, 0, none⟩) (x : Int) (h0 : 0 ≤ x) (h1 : x ≤ 255) : AllOk (w.setCell ⟨b, j, none⟩ (.int .u8 x)) g es k := by
  obtain ⟨xs, hx, ho, hh⟩ := h.2 k hk (Nat.le_refl _)
  have hov : es[k].val.ownBlock = some b := by unfold Ent.val; rw [hb]; rfl
  rw [hb] at ho
  have hg : w.grownBy (w.setCell ⟨b, j, none⟩ (.int .u8 x)) (some b) := (ho.1.stored j (.int .u8 x)).2
  have h2 := h.grown hc hk (by rw [hov]; exact hg)
  refine ⟨h2.1, fun i hi hki => ?_⟩
  by_cases e : i = k
  · subst e
    refine ⟨xs.set j x, by simpa using hx, ?_, hh⟩
    rw [hb]
    exact ho.stored j x h0 h1
  · exact h2.2 i hi (by omega)
theorem below_grown {w0 w w' : World} {g B k : Nat} {es : List Ent} (hb : Below B w0 w) (hB : B ≤ w.heap.size) (h : AllOk w g es k) (hc : Chain g B es) (hk : k < es.length) (hg : w.grownBy w' (es[k].val.ownBlock)) : Below B w0 w' := by
  refine hb.grown hg hB fun j e => ?_
  have := ent_lt (h.2 k hk (Nat.le_refl _)) e
  have := (hc.2 k hk).2.1
  omega

theorem AllOk.below {w w' : World} {g k C : Nat} {es : List Ent} (h : AllOk w g es k) (hb : Below C w w') (hC : w.heap.size ≤ C) : AllOk w' g es k := by
  refine ⟨fun j hj => ?_, fun j hj hkj => ?_⟩
  · have hc := h.1 j hj
    have hlt := World.block_lt_of_cell? w _ hc
    rw [hb.cell (by simp only at hlt ⊢; omega)]
    exact hc
  · obtain ⟨xs, hx, ho, hh⟩ := h.2 j hj hkj
    exact ⟨xs, hx, ho.below hb hC, hh⟩
theorem row_123 (w : World) : Row (w.alloc (.cells #[.int .u8 1, .int .u8 2, .int .u8 3] 5)) (some ⟨w.heap.size, 0, none⟩) [1, 2, 3] := by
  refine ⟨by simp, fun x hx => by simp at hx; omega, fun _ => ⟨w.heap.size, 0, rfl, by simp, fun i hi => ?_⟩⟩
  match i, hi with
  | 0, _ => simp
  | 1, _ => simp
  | 2, _ => simp
theorem rows_of_one {w : World} {a : Part} (ha : a.isIn w) : Rows2 (w.alloc (.cells #[a.val] 22)) (some ⟨w.heap.size, 0, none⟩) [a] := by
  refine ⟨by simp, fun p hp => ?_, fun _ => ⟨w.heap.size, 0, rfl, by simp, fun i hi => ?_⟩⟩
  · simp at hp
    subst hp
    exact ⟨ha.1.below ((Below.refl w.heap.size w).alloc (Nat.le_refl _) _) (Nat.le_refl _), ha.2⟩
  · match i, hi with
    | 0, _ => simp
theorem joinB_one (a : Part) : joinB [a] = a.xs := by simp [joinB]
theorem ok_of {w : World} {e : Ent} {xs : List Int} (hx : xs.length = e.n) (ho : Own w e.lo e.ao e.cap xs) (hh : w.heap.size ≤ e.hi) : e.ok w := by
  refine ⟨xs, hx, ho, fun k hk => ?_⟩
  unfold Ent.val at hk
  rw [← hx] at hk
  have := (ho.1.lt k hk).2
  omega
theorem ok_below {w w' : World} {e : Ent} {C : Nat} (h : e.ok w) (hb : Below C w w') (hC : w.heap.size ≤ C) : e.ok w' := by
  obtain ⟨xs, hx, ho, hh⟩ := h
  exact ⟨xs, hx, ho.below hb hC, hh⟩
theorem start {w2 w3 w3' w4 w5 w6 : World} {L : Nat} {jo : Option Addr} {jc : Nat} {P xs F1 F2 : List Int} (hL : L ≤ 40)
    (o0 : Own w3 w2.heap.size (some ⟨w2.heap.size, 0, none⟩) L P) (h0 : P.length = L) (b3 : Below w2.heap.size w2 w3)
    (b3' : Below w3.heap.size w3 w3')
    (o1 : Own w4 w3'.heap.size jo jc xs) (h1 : xs.length = L) (b4 : Below w3'.heap.size w3' w4)
    (o2 : Own w5 w4.heap.size (some ⟨w4.heap.size, 0, none⟩) L F1) (h2 : F1.length = L) (b5 : Below w4.heap.size w4 w5)
    (o3 : Own w6 w5.heap.size (some ⟨w5.heap.size, 0, none⟩) 50 F2) (h3 : F2.length = 50) (b6 : Below w5.heap.size w5 w6) :
    ∃ es : List Ent, es.length = 4 ∧ AllOk (w6.alloc (.cells #[.slice (some ⟨w2.heap.size, 0, none⟩) L L, .slice jo L jc, .slice (some ⟨w4.heap.size, 0, none⟩) L L, .slice (some ⟨w5.heap.size, 0, none⟩) 50 50] 22)) w6.heap.size es 0 ∧
      Chain w6.heap.size w2.heap.size es ∧ Below w2.heap.size w2 (w6.alloc (.cells #[.slice (some ⟨w2.heap.size, 0, none⟩) L L, .slice jo L jc, .slice (some ⟨w4.heap.size, 0, none⟩) L L, .slice (some ⟨w5.heap.size, 0, none⟩) 50 50] 22)) := by
  have s3 := b3.size
  have s3' := b3'.size
  have s4 := b4.size
  have s5 := b5.size
  have s6 := b6.size
  have k0 : Ent.ok w3 ⟨some ⟨w2.heap.size, 0, none⟩, L, L, w2.heap.size, w3.heap.size⟩ := ok_of h0 o0 (Nat.le_refl _)
  have k1 : Ent.ok w4 ⟨jo, L, jc, w3'.heap.size, w4.heap.size⟩ := ok_of h1 o1 (Nat.le_refl _)
  have k2 : Ent.ok w5 ⟨some ⟨w4.heap.size, 0, none⟩, L, L, w4.heap.size, w5.heap.size⟩ := ok_of h2 o2 (Nat.le_refl _)
  have k3 : Ent.ok w6 ⟨some ⟨w5.heap.size, 0, none⟩, 50, 50, w5.heap.size, w6.heap.size⟩ := ok_of h3 o3 (Nat.le_refl _)
  have b7 : Below w6.heap.size w6 (w6.alloc (.cells #[.slice (some ⟨w2.heap.size, 0, none⟩) L L, .slice jo L jc, .slice (some ⟨w4.heap.size, 0, none⟩) L L, .slice (some ⟨w5.heap.size, 0, none⟩) 50 50] 22)) := (Below.refl _ _).alloc (Nat.le_refl _) _
  have k3 := ok_below k3 b7 (Nat.le_refl _)
  have k2 := ok_below (ok_below k2 b6 (Nat.le_refl _)) b7 (Nat.le_refl _)
  have k1 := ok_below (ok_below (ok_below k1 b5 (Nat.le_refl _)) b6 (Nat.le_refl _)) b7 (Nat.le_refl _)
  have k0 := ok_below (ok_below (ok_below (ok_below (ok_below k0 b3' (Nat.le_refl _)) b4 (Nat.le_refl _)) b5 (Nat.le_refl _)) b6 (Nat.le_refl _)) b7 (Nat.le_refl _)
  refine ⟨[⟨some ⟨w2.heap.size, 0, none⟩, L, L, w2.heap.size, w3.heap.size⟩, ⟨jo, L, jc, w3'.heap.size, w4.heap.size⟩, ⟨some ⟨w4.heap.size, 0, none⟩, L, L, w4.heap.size, w5.heap.size⟩, ⟨some ⟨w5.heap.size, 0, none⟩, 50, 50, w5.heap.size, w6.heap.size⟩], rfl, ⟨fun j hj => ?_, fun j hj _ => ?_⟩, ⟨fun i j hi hj hij => ?_, fun j hj => ?_⟩, ?_⟩
  · match j, hj with
    | 0, _ => simp [Ent.val]
    | 1, _ => simp [Ent.val]
    | 2, _ => simp [Ent.val]
    | 3, _ => simp [Ent.val]
  · match j, hj with
    | 0, _ => exact k0
    | 1, _ => exact k1
    | 2, _ => exact k2
    | 3, _ => exact k3
  · have hij' : (i = 0 ∧ j = 1) ∨ (i = 0 ∧ j = 2) ∨ (i = 0 ∧ j = 3) ∨ (i = 1 ∧ j = 2) ∨ (i = 1 ∧ j = 3) ∨ (i = 2 ∧ j = 3) := by
      simp only [List.length_cons, List.length_nil] at hi hj
      omega
    rcases hij' with ⟨rfl, rfl⟩ | ⟨rfl, rfl⟩ | ⟨rfl, rfl⟩ | ⟨rfl, rfl⟩ | ⟨rfl, rfl⟩ | ⟨rfl, rfl⟩
    all_goals (simp only [List.getElem_cons_zero, List.getElem_cons_succ]; omega)
  · match j, hj with
    | 0, _ => simp; omega
    | 1, _ => simp; omega
    | 2, _ => simp; omega
    | 3, _ => simp; omega
  · exact over (over (over (over (over b3 b3' s3) b4 (by omega)) b5 (by omega)) b6 (by omega)) b7 (by omega)

set_option maxHeartbeats 4000000 in
theorem walk (a0 : Option Addr) (len0 cap0 : Nat) (z0 : List Int) (a1 : Int) (a2 : Int) (w : World) (w0 : IsRow .u8 w a0 len0 cap0 z0) (w1 : (Lit.int .i64 a1).wf = true) (w2 : (Lit.int .u64 a2).wf = true) :
    Calls Try.prog 8 #[.slice a0 len0 cap0, .int .i64 a1, .int .u64 a2] w fun e w' => e = .returned (.bool true) ∧ Below w.heap.size w w' := by
  by_cases hl : len0 ≤ 40
  · obtain ⟨xs, rfl, hrow, hnil⟩ := w0.part (by omega)
    have HR := hide hrow
    have HN := hide hnil
    obtain ⟨p1, p2⟩ := wf_i64 w1
    obtain ⟨p3, p4⟩ := wf_u64 w2
    have hd1 : decide ((40 : Int) < (xs.length : Int)) = false := by simp; omega
    clear hrow w0 w1 w2 hnil
    go_enter Try.func8, Try.ntmps8
    go_wp2_with fail
    refine (first_any _).mono ?_
    rintro e w1 ⟨rfl, hb⟩
    have HS := hide ((St.refl HR.out).step hb)
    clear hb
    go_wp2_with fail
    refine (bytes_any _ _ xs _ HS.out.1).mono ?_
    rintro e w2 ⟨rfl, hown, hbel⟩
    have HW2 := hide hown.row
    have HS2 := hide (HS.out.step hbel)
    clear hown hbel
    go_wp2_with fail
    refine (put_any _ _ xs _ _ _ _ HS2.out.1 (by omega) (by omega) (by omega) (by omega)).mono ?_
    rintro e w3 ⟨rfl, hown, hbel⟩
    have HO3 := hide hown
    have HB3 := hide hbel
    clear hown hbel
    go_wp2_with fail
    have HS3 := hide (HS2.out.step HB3.out)
    have HA3 : Hid (Below w3.heap.size w3 (w3.alloc (.cells #[.slice a0 xs.length cap0] 22))) := (Below.refl _ _).alloc (Nat.le_refl _) _
    have HS3' := hide (HS3.out.step HA3.out)
    have HRS : Hid (Rows2 (w3.alloc (.cells #[.slice a0 xs.length cap0] 22)) (some ⟨w3.heap.size, 0, none⟩) [⟨a0, cap0, xs⟩]) := rows_of_one (a := ⟨a0, cap0, xs⟩) ⟨HS3.out.1, HN.out⟩
    refine (join_any _ _ _ _ HRS.out (by rw [joinB_one]; exact (by omega : xs.length ≤ 4294967296))).mono ?_
    rintro e w4 ⟨jo, jc, rfl, hown, hbel⟩
    rw [joinB_one] at hown ⊢
    have HO4 : Hid (Own w4 (w3.alloc (.cells #[.slice a0 xs.length cap0] 22)).heap.size jo jc xs) := hown
    have HB4 := hide hbel
    have HS4 := hide (HS3'.out.step hbel)
    clear hown hbel
    go_wp2_with fail
    refine (fill_any _ _ xs _ _ HS4.out.1 (by omega)).mono ?_
    rintro e w5 ⟨rfl, hown, hbel⟩
    have hfl : (fillB xs xs.length).length = xs.length := by rw [length_fillB]; simp
    rw [hfl] at hown ⊢
    have HF1 := hide hfl
    have HO5 := hide hown
    have HB5 := hide hbel
    have HS5 := hide (HS4.out.step hbel)
    clear hown hbel hfl
    go_wp2_with fail
    refine (fill_any _ _ xs _ _ HS5.out.1 (by omega)).mono ?_
    rintro e w6 ⟨rfl, hown, hbel⟩
    have hfl : (fillB xs 50).length = 50 := by rw [length_fillB]; omega
    rw [hfl] at hown ⊢
    have HF2 := hide hfl
    have HO6 := hide hown
    have HB6 := hide hbel
    clear hown hbel hfl
    obtain ⟨es, hes, hall, hch, hbl⟩ := start hl HO3.out (length_putB _ _ _ _) HB3.out HA3.out HO4.out rfl HB4.out HO5.out HF1.out HB5.out HO6.out HF2.out HB6.out
    have HE := hide hes
    have HA := hide hall
    have HC := hide hch
    have HB := hide hbl
    clear hes hall hch hbl HO3 HB3 HA3 HO4 HB4 HO5 HB5 HO6 HB6 HF1 HF2 HS3 HS3' HRS HS4 HS5
    go_wp2_with fail
    go_loopw [10] (fun i wr => ∃ k : Nat, k ≤ 4 ∧ i = .int .i64 k ∧ AllOk wr w6.heap.size es k ∧ Below w2.heap.size w2 wr) (fun i _ => 4 - (intOf i).toNat)
    case atStart => exact ⟨0, by omega, rfl, HA.out, HB.out⟩
    case round =>
      clear HA HB
      obtain ⟨k, hk, rfl, hall, hbl⟩ := hrel
      by_cases hlt : k < 4
      · have hkl : k < es.length := by rw [HE.out]; exact hlt
        have hcell := hall.1 k hkl
        have hn := (HC.out.2 k hkl).2.2.1
        obtain ⟨e, he⟩ : ∃ e, e = es[k] := ⟨_, rfl⟩
        rw [← he] at hcell hn
        obtain ⟨ao, n, cap, lo, hi⟩ := e
        simp only [Ent.val] at hcell hn
        have HEK := hide he
        have HA := hide hall
        have HB := hide hbl
        clear hall hbl he
        go_wp2_with fail
        go_loopw [11] (fun c wr => ∃ m : Nat, m ≤ n ∧ c = .int .i64 m ∧ AllOk wr w6.heap.size es k ∧ Below w2.heap.size w2 wr) (fun c _ => n - (intOf c).toNat)
        case atStart => exact ⟨0, by omega, rfl, HA.out, HB.out⟩
        case round =>
          clear HA HB hcell
          obtain ⟨m, hm, rfl, hall, hbl⟩ := hrel
          have hcell := hall.1 k hkl
          rw [← HEK.out] at hcell
          simp only [Ent.val] at hcell
          have HA := hide hall
          have HB := hide hbl
          by_cases hmn : m < n
          · obtain ⟨zs, hz, ho, hh⟩ := hall.2 k hkl (Nat.le_refl _)
            rw [← HEK.out] at hz ho
            simp only at hz ho
            obtain ⟨b, hbo⟩ : ∃ b, ao = some ⟨b, 0, none⟩ := by
              rcases ho.1.2 with ⟨e1, e2⟩ | ⟨g', c', cur, hv, _⟩
              · omega
              · simp only [Value.slice.injEq] at hv
                exact ⟨g', hv.1⟩
            subst hbo
            have hcb := ho.cell m (by omega)
            have hfr := ho.frozen m
            have hby := ho.2.1.getD m
            obtain ⟨y, hy⟩ : ∃ y, y = zs.getD m 0 := ⟨_, rfl⟩
            rw [← hy] at hcb hby
            clear hy ho hz hh hall hbl
            have hmi : (m : Int) < (n : Int) := by omega
            have hki : (k : Int) < 4 := by omega
            go_wp2_with fail
            go_region
            go_wp2_with fail
            go_roundw
            case rel =>
              have hx := bits_within .xor .u8 y 85
              refine ⟨m + 1, by omega, by go_num, HA.out.stored HC.out hkl b m (by rw [← HEK.out]) _ hx.1 hx.2, (HB.out.setCell ?_ _).drew⟩
              have hlt2 := ent_lt (HA.out.2 k hkl (Nat.le_refl _)) (k := b) (by rw [← HEK.out]; rfl)
              have := (HC.out.2 k hkl).2.1
              show w2.heap.size ≤ b
              omega
            case measure => simp [intOf]; omega
          · obtain ⟨zs, hz, ho, hh⟩ := hall.2 k hkl (Nat.le_refl _)
            rw [← HEK.out] at hz ho
            simp only at hz ho
            have HZ := hide hz
            have hal : Below wr.heap.size wr (wr.alloc (.cells #[.int .u8 1, .int .u8 2, .int .u8 3] 5)) := (Below.refl _ _).alloc (Nat.le_refl _) _
            have HO := hide (ho.below hal (Nat.le_refl _))
            have HA2 := hide (hall.below hal (Nat.le_refl _))
            have HB2 := hide (over hbl hal hbl.size)
            have hlo := (HC.out.2 k hkl).2.1
            have hhi := (HC.out.2 k hkl).1
            have hcl := World.block_lt_of_cell? wr _ hcell
            have hll := (HC.out.2 k hkl).2.2.2
            rw [← HEK.out] at hlo hhi hll
            simp only at hlo hhi hcl hll
            obtain ⟨Z, hZ⟩ : ∃ Z, Z = zs ++ [1, 2, 3] := ⟨_, rfl⟩
            have HZZ := hide hZ
            clear hall hbl ho hz hh hZ hal HA HB
            go_wp2_with (refine wpList_append_bytes (by first | rfl | simp [Region.wanted]) (.tmp 67) (.tmp 68) rfl lo ao cap zs (by rw [HZ.out]; rfl) HO.out (some ⟨wr.heap.size, 0, none⟩) 3 [1, 2, 3] rfl (row_123 wr) (by simp) (by rw [HZ.out]; simp; omega) (by simp; omega) Z HZZ.out ?_; intro ao9 c9 w9 hO9 hb9 hg9; have HG9 := hide hg9; clear hO9 hb9 hg9)
            go_roundw
            case rel =>
              have hg9 := HG9.out
              have hv : es[k].val.ownBlock = (Value.slice ao zs.length cap).ownBlock := by rw [← HEK.out, HZ.out]; rfl
              rw [← hv] at hg9
              exact ⟨k + 1, by omega, by go_num, HA2.out.grown HC.out hkl hg9, below_grown HB2.out HB2.out.size HA2.out HC.out hkl hg9⟩
            case measure => simp [intOf]; omega
      · have HSr := hide (HS2.out.step hbl)
        have HWr := hide (HW2.out.below hbl (Nat.le_refl _))
        clear hall hbl
        go_wp2_with fail
        refine (same_any _ _ xs _ _ xs _ HSr.out.1 HWr.out).mono ?_
        rintro e w8 ⟨rfl, nq, rfl⟩
        rw [sameB_true rfl]
        have HSd := hide (HSr.out.drewN nq)
        have HWd := hide (HWr.out.drewN nq)
        go_wp2_with fail
        have HA8 : Hid (Below (wr.drewN nq).heap.size (wr.drewN nq) ((wr.drewN nq).alloc (.cells #[.slice a0 xs.length cap0] 22))) := (Below.refl _ _).alloc (Nat.le_refl _) _
        have HRS : Hid (Rows2 ((wr.drewN nq).alloc (.cells #[.slice a0 xs.length cap0] 22)) (some ⟨wr.heap.size, 0, none⟩) [⟨a0, cap0, xs⟩]) := rows_of_one (a := ⟨a0, cap0, xs⟩) ⟨HSd.out.1, HN.out⟩
        refine (join_any _ _ _ _ HRS.out (by rw [joinB_one]; exact (by omega : xs.length ≤ 4294967296))).mono ?_
        rintro e w9 ⟨jo, jc, rfl, hown, hbel⟩
        rw [joinB_one] at hown ⊢
        have HO9 := hide hown.row
        have HS9 := hide ((HSd.out.step HA8.out).step hbel)
        have HW9 := hide ((HWd.out.below HA8.out (Nat.le_refl _)).below hbel (Nat.le_refl _))
        clear hown hbel
        simp only []
        go_wp2_with fail
        refine (same_any _ _ xs _ _ xs _ HO9.out HW9.out).mono ?_
        rintro e w10 ⟨rfl, nq2, rfl⟩
        rw [sameB_true rfl]
        go_wp2_with fail
        go_ret
        exact ⟨rfl, below_drewN HS9.out.2 _⟩
  · have hd1 : decide ((40 : Int) < (len0 : Int)) = true := by simp; omega
    clear w0 w1 w2
    go_enter Try.func8, Try.ntmps8
    go_wp2_with fail
    refine (first_any _).mono ?_
    rintro e w1 ⟨rfl, hb⟩
    have HB := hide hb
    clear hb
    go_wp2_with fail
    go_ret
    exact ⟨rfl, HB.out⟩

set_option maxRecDepth 100000 in
theorem lifted (os : Os) (started : os.Started) (H : Type) (enc : TypeId × Value → H) :
    ReturnsInHanded {} Try.checked os 8 .any (Rows.cellOwnSpec.pre6 enc Try.prog Try.f8 Rows.cellOwnRow.domain false) (Rows.cellOwnSpec.post enc Try.prog Try.f8 false true false false) := by
  refine returnsInHanded_of_change (C := Try.checked) own started (by kernel_rfl) Try.func8
    (ChangeSpec.witness6 (enc := enc) (C := Try.checked) false ⟨#[], #[.slice none 0 0, .int .i64 0, .int .u64 0], []⟩ 8 (by kernel_rfl) (by kernel_rfl) (by kernel_rfl) (by kernel_rfl)) ?_
  intro W base args ds gs before hval0 hW hcnd _
  have hval : ∀ (j : Nat) t v, Try.f8.params[j]? = some t → args[j]? = some v → Value.okWide Try.prog W .any base t v := hval0
  have hW' := hW
  obtain ⟨p, q, hA0, hV, rfl, hfz, hnd⟩ := hW
  have hA : DataW.TrodAll enc Try.prog W 0 (fun _ => true) true Try.f8.params.toList args.toList ds p := hA0
  rw [Try.params8] at hA hval
  obtain ⟨v0, vs0, d0, ds0, p0, q0, hargs, rfl, rfl, h0, r0⟩ := trodAll_cons hA
  obtain ⟨v1, vs1, d1, ds1, p1, q1, rfl, rfl, rfl, h1, r1⟩ := trodAll_cons r0
  obtain ⟨v2, vs2, d2, ds2, p2, q2, rfl, rfl, rfl, h2, r2⟩ := trodAll_cons r1
  obtain ⟨rfl, rfl, rfl⟩ := trodAll_nil r2
  obtain rfl : args = #[v0, v1, v2] := by cases args; simp_all
  obtain ⟨rfl, rfl⟩ := trodVars_none hV
  obtain ⟨a0, len0, cap0, rfl⟩ := okWide_slice Try.underlying22 (hval 0 22 v0 rfl rfl)
  have k0 := h0
  have lt0 : ∀ x ∈ p0, x.block < W.heap.size := by obtain ⟨m, hm⟩ := k0; exact DataW.trod_lt m _ _ _ hm
  obtain ⟨z0, w0⟩ : ∃ zs, IsRow .u8 W a0 len0 cap0 zs := by
    obtain ⟨fuel, hf⟩ := h0
    rcases open_ints Try.underlying22 Try.underlying5 (by kernel_rfl) hf with ⟨hcs, _⟩ | ⟨x, l, c, zs, hcs, _, hl, hm, hz, _, hcell, hwz⟩
    · simp [Value.cells] at hcs
      obtain ⟨rfl, rfl, rfl⟩ := hcs
      exact ⟨[], .inl ⟨rfl, rfl, rfl, rfl⟩⟩
    · simp [Value.cells] at hcs
      obtain ⟨rfl, rfl, rfl⟩ := hcs
      exact ⟨zs, .inr ⟨_, rfl, hl, hm, by simpa using hz, hcell, hwz⟩⟩
  obtain ⟨a1, rfl, rfl, rfl, w1⟩ := open_int Try.underlying3 (hval 1 3 v1 rfl rfl) h1
  obtain ⟨a2, rfl, rfl, rfl, w2⟩ := open_int Try.underlying23 (hval 2 23 v2 rfl rfl) h2
  clear hA0 hval0
  refine (walk a0 len0 cap0 z0 a1 a2 W w0 w1 w2).mono fun e W' ⟨he, bel⟩ => ?_
  subst he
  exact ⟨_, rfl, _, _, _, [], _, [], hW', trodAll_mk1 (shut_bool Try.underlying4 _), (trodAll_cons_mk (Below.trod laidOut (by kernel_rfl) (of_decide_eq_true (by kernel_rfl)) k0 bel lt0) (trodAll_cons_mk (shut_int Try.underlying3 w1) (trodAll_cons_mk (shut_int Try.underlying23 w2) trodAll_mk0))), rfl, bel.frame _, fun h => by cases h⟩

theorem over : Rows.cellOwnRow.holds Try.pinned (OpenSpec.ofChange Rows.cellOwnSpec) :=
  OpenClaim.holds_of_wide 8 Try.f8 rfl rfl rfl rfl rfl rfl rfl ⟨rfl, rfl, rfl, rfl, rfl⟩ rfl rfl rfl rfl rfl (by kernel_rfl) Try.func8 (by kernel_rfl)
    (of_decide_eq_true (by kernel_rfl)) (by unfold Func.isWrapper; first | (rw [if_pos (by decide +kernel)]; kernel_rfl) | (rw [if_neg (by decide +kernel)]; exact ⟨rfl, rfl⟩))
    (fun os started H enc _ => lifted os started H enc)

/-- The given statement. -/
theorem proved : Rows.CellOwnSaid := over
#print axioms proved
end Go.Proofs.Ytgbjjogfmlkmeaa.cellOwn
namespace Go.Proofs.Ytgbjjogfmlkmeaa
theorem cellOwn_holds : Rows.CellOwnSaid := cellOwn.proved
end Go.Proofs.Ytgbjjogfmlkmeaa
