
/- What the document's own SameRecs answers of any two lists of records: whether they are the same. -/
import Derived.Test.YticaldoggdfjiaaDoorBlockMem
import Derived.Test.YticaldoggdfjiaaDoorRecSame2
import Derived.Deep.Cut
namespace Go.Proofs.YticaldoggdfjiaaDoor
open Go.RowKit
set_option linter.unusedVariables false

theorem sameR_iff (a b : R) : sameR a b = true ↔ a = b := by
  constructor
  · intro h; exact eq_of_parts (by simpa [sameR] using h)
  · rintro rfl; simp [sameR]
/-- Two lists of records are the same. -/
def sameRs (rs ss : List R) : Bool := decide (rs.length = ss.length) && (List.range rs.length).all fun i => match rs[i]?, ss[i]? with | some a, some b => sameR a b | _, _ => false
theorem sameRs_iff (rs ss : List R) : sameRs rs ss = true ↔ rs = ss := by
  unfold sameRs
  rw [Bool.and_eq_true, decide_eq_true_eq, List.all_eq_true]
  constructor
  · rintro ⟨hl, h⟩
    refine List.ext_getElem hl fun i h1 h2 => ?_
    have := h i (List.mem_range.2 h1)
    rw [List.getElem?_eq_getElem h1, List.getElem?_eq_getElem h2] at this
    exact (sameR_iff _ _).1 this
  · rintro rfl
    refine ⟨rfl, fun i hi => ?_⟩
    rw [List.getElem?_eq_getElem (List.mem_range.1 hi)]
    exact (sameR_iff _ _).2 rfl
theorem sameRs_len {rs ss : List R} (h : rs.length ≠ ss.length) : sameRs rs ss = false := by
  cases hs : sameRs rs ss with
  | false => rfl
  | true => rw [(sameRs_iff rs ss).1 hs] at h; exact absurd rfl h
theorem sameRs_no {rs ss : List R} {k : Nat} {a b : R} (ha : rs[k]? = some a) (hb : ss[k]? = some b) (h : sameR a b = false) : sameRs rs ss = false := by
  cases hs : sameRs rs ss with
  | false => rfl
  | true =>
    rw [(sameRs_iff rs ss).1 hs, hb] at ha
    simp at ha
    rw [(sameR_iff a b).2 ha.symm] at h
    cases h
theorem sameRs_up {rs ss : List R} {k : Nat} {a b : R} (ha : rs[k]? = some a) (hb : ss[k]? = some b) (h : sameR a b = true) (hk : rs.take k = ss.take k) : rs.take (k + 1) = ss.take (k + 1) := by
  rw [List.take_add_one, List.take_add_one, ha, hb, hk, (sameR_iff a b).1 h]
set_option maxRecDepth 100000 in
set_option maxHeartbeats 4000000 in
theorem sameRecs_any (ao : Option Addr) (n cap : Nat) (rs : List R) (bo : Option Addr) (m cap' : Nat) (ss : List R) (w : World) (h : RecRow w ao rs) (h' : RecRow w bo ss) (hn : rs.length = n) (hm : ss.length = m) :
    Calls Tryd.prog 27 #[.slice ao n cap, .slice bo m cap'] w fun e w' => e = .returned (.bool (sameRs rs ss)) ∧ Below w.heap.size w w' := by
  have hs := h.1
  rw [hn] at hs
  by_cases hl : n = m
  · subst hl
    have hne : ((n : Int) != (n : Int)) = false := by simp
    have HR := hide h
    have HR' := hide h'
    have HN := hide hn
    have HM := hide hm
    clear h h' hn hm
    go_enter Tryd.func27, Tryd.ntmps27
    go_wp2_with fail
    go_loopw [5] (fun i wr => ∃ k : Nat, k ≤ n ∧ i = .int .i64 k ∧ Below w.heap.size w wr ∧ rs.take k = ss.take k) (fun i _ => n - (intOf i).toNat)
    case atStart => exact ⟨0, by omega, rfl, Below.refl _ _, rfl⟩
    case round =>
      obtain ⟨k, hk, rfl, hb, htk⟩ := hrel
      have HB := hide hb
      have HT := hide htk
      clear hb htk
      by_cases hlt : k < n
      · have hki : (k : Int) < (n : Int) := by omega
        have hN := HN.out
        have hM := HM.out
        obtain ⟨b, off, rfl, hc⟩ := HR.out.2 (by omega)
        obtain ⟨b', off', rfl, hc'⟩ := HR'.out.2 (by omega)
        obtain ⟨r, hr⟩ : ∃ r, rs[k]? = some r := ⟨rs[k]'(by omega), List.getElem?_eq_getElem _⟩
        obtain ⟨s, hs'⟩ : ∃ s, ss[k]? = some s := ⟨ss[k]'(by omega), List.getElem?_eq_getElem _⟩
        have h1 := (hc k r hr).of_block (HB.out.block b (hc k r hr).lt) HB.out.size
        have h2 := (hc' k s hs').of_block (HB.out.block b' (hc' k s hs').lt) HB.out.size
        have H1 := hide hr
        have H2 := hide hs'
        clear hc hc' hr hs' hN hM
        have HC := hide h1
        have HD := hide h2
        obtain ⟨k0, k1, k2, k3, k4, k5, k6, k7, k8, k9, kl⟩ := h1
        obtain ⟨l0, l1, l2, l3, l4, l5, l6, l7, l8, l9, ll⟩ := h2
        clear kl ll
        go_wp2_with fail
        go_region_held3 (fun w' => w'.cell? ⟨b, off + k * 10, none⟩ = some (.int .i64 r.kind) ∧ w'.cell? ⟨b, off + k * 10 + 1, none⟩ = some (.int .i64 r.txn) ∧ w'.cell? ⟨b, off + k * 10 + 2, none⟩ = some (.int .i64 r.page) ∧ w'.cell? ⟨b, off + k * 10 + 3, none⟩ = some (.int .i64 r.prev) ∧ w'.cell? ⟨b, off + k * 10 + 4, none⟩ = some (.int .i64 r.next) ∧ w'.cell? ⟨b, off + k * 10 + 5, none⟩ = some (.int .i64 r.key) ∧ w'.cell? ⟨b, off + k * 10 + 6, none⟩ = some (.bool r.had) ∧ w'.cell? ⟨b, off + k * 10 + 7, none⟩ = some (.bool r.has) ∧ w'.cell? ⟨b, off + k * 10 + 8, none⟩ = some (.int .i64 r.old) ∧ w'.cell? ⟨b, off + k * 10 + 9, none⟩ = some (.int .i64 r.new) ∧ w'.cell? ⟨b', off' + k * 10, none⟩ = some (.int .i64 s.kind) ∧ w'.cell? ⟨b', off' + k * 10 + 1, none⟩ = some (.int .i64 s.txn) ∧ w'.cell? ⟨b', off' + k * 10 + 2, none⟩ = some (.int .i64 s.page) ∧ w'.cell? ⟨b', off' + k * 10 + 3, none⟩ = some (.int .i64 s.prev) ∧ w'.cell? ⟨b', off' + k * 10 + 4, none⟩ = some (.int .i64 s.next) ∧ w'.cell? ⟨b', off' + k * 10 + 5, none⟩ = some (.int .i64 s.key) ∧ w'.cell? ⟨b', off' + k * 10 + 6, none⟩ = some (.bool s.had) ∧ w'.cell? ⟨b', off' + k * 10 + 7, none⟩ = some (.bool s.has) ∧ w'.cell? ⟨b', off' + k * 10 + 8, none⟩ = some (.int .i64 s.old) ∧ w'.cell? ⟨b', off' + k * 10 + 9, none⟩ = some (.int .i64 s.new)) (first | go_keep | (refine ⟨?_, ?_, ?_, ?_, ?_, ?_, ?_, ?_, ?_, ?_, ?_, ?_, ?_, ?_, ?_, ?_, ?_, ?_, ?_, ?_⟩ <;> assumption))
          (first | (go_at_call 21; refine (sameRec_any r s _).mono ?_; rintro e w2 ⟨rfl, hb2⟩; have hb2 := of_drew hb2; have C2 := HC.out.of_block (hb2.block b HC.out.lt) hb2.size; have D2 := HD.out.of_block (hb2.block b' HD.out.lt) hb2.size; obtain ⟨p0, p1, p2, p3, p4, p5, p6, p7, p8, p9, pl⟩ := C2; obtain ⟨q0, q1, q2, q3, q4, q5, q6, q7, q8, q9, ql⟩ := D2; have HB2 := hide hb2; clear hb2 pl ql))
        cases hsm : sameR r s with
        | true =>
          go_wp2_with fail
          go_roundw
          case rel => exact ⟨k + 1, by omega, by go_num, over HB.out HB2.out HB.out.size, sameRs_up H1.out H2.out hsm HT.out⟩
          case measure => simp [intOf]; omega
        | false =>
          go_wp2_with fail
          go_ret
          exact ⟨ret_bool (sameRs_no H1.out H2.out hsm).symm, over HB.out HB2.out HB.out.size⟩
      · have hki : decide ((k : Int) < (n : Int)) = false := by simp; omega
        go_wp2_with fail
        go_ret
        have hkn : k = n := by omega
        have hT := HT.out
        rw [hkn] at hT
        have e : rs = ss := by
          rw [← List.take_length (l := rs), ← List.take_length (l := ss), HN.out, HM.out, hT]
        exact ⟨ret_bool ((sameRs_iff rs ss).2 e).symm, HB.out⟩
  · have hne : ((n : Int) != (m : Int)) = true := by simp; omega
    have HF : Hid (sameRs rs ss = false) := sameRs_len (by rw [hn, hm]; exact hl)
    clear h h' hn hm hl
    go_enter Tryd.func27, Tryd.ntmps27
    go_wp2_with fail
    go_ret
    exact ⟨ret_bool HF.out.symm, Below.refl _ _⟩
end Go.Proofs.YticaldoggdfjiaaDoor
