/- Lemmas and contracts that the law stands on, joined: PgMake. -/
import Derived.Test.YtdijgpkcolpfoaaDoorJoin25
import Derived.Test.YtdijgpkcolpfoaaDoorJoin26
/- What phoenixmake.Page makes out of a list of numbers: a page that may be; only the list's own counter is written besides. -/
namespace Go.Proofs.YtdijgpkcolpfoaaDoor
open Go.RowKit
set_option linter.unusedVariables false

/-- What the pages are like that are made out of numbers. -/
structure MadeP (lsn : Int) (es : List (Int × Int)) (most : Int) : Prop where
  l0 : 1 ≤ lsn
  l1 : lsn ≤ 50
  up : Up es
  keys : ∀ e ∈ es, (0 ≤ e.1 ∧ e.1 < 60) ∧ -500 ≤ e.2 ∧ e.2 ≤ 499
  most : (es.length : Int) ≤ most
  many : es.length ≤ 20
theorem MadeP.ok {lsn : Int} {es : List (Int × Int)} {most : Int} (h : MadeP lsn es most) : okP lsn es = true :=
  (okP_iff lsn es).2 ⟨by have := h.l0; omega, by have := h.l1; omega, h.many, up_rise h.up fun e he => by have := (h.keys e he).1; omega, .inr (by have := h.l0; omega)⟩
theorem MadeP.fits {lsn : Int} {es : List (Int × Int)} {most : Int} (h : MadeP lsn es most) : fitsE es := fun e he => by have := (h.keys e he).2; omega
theorem SeqAt.drew {w : World} {s : Nat} {lo : Option Addr} {len cap : Nat} {zs : List Int} {n : Nat} (h : SeqAt w s lo len cap zs n) : SeqAt w.drew s lo len cap zs n := ⟨h.lies, h.row, h.small⟩
theorem But.drew_l {s : Nat} {w w' : World} (h : But s w.drew w') : But s w w' := ⟨h.os, h.tape, h.output, h.size, h.block⟩
theorem PBlk.but {w w' : World} {s P : Nat} {lsn : Int} {ao : Option Addr} {n c : Nat} (h : PBlk w P lsn ao n c) (hb : But s w w') (hne : P ≠ s) : PBlk w' P lsn ao n c := (hb.block P h.lt hne).trans h
theorem OwnE.but {w w' : World} {B s : Nat} {ao : Option Addr} {cap : Nat} {es : List (Int × Int)} (h : OwnE w B ao cap es) (hb : But s w w') (hs : s < B) : OwnE w' B ao cap es := h.of_blocks fun g hg hgl => hb.block g hgl (by omega)
theorem But.put {s P : Nat} {a b : World} (h : But s a b) (hP : a.heap.size ≤ P) (i : Nat) (v : Value) : But s a (b.setCell ⟨P, i, none⟩ v) := by
  refine ⟨h.os, h.tape, h.output, ?_, fun k hk hs => ?_⟩
  · have := h.size
    simp only [World.setCell, Array.size_modify]
    exact this
  · rw [Below.heap_setCell _ _ _ _ (by show k ≠ P; omega)]
    exact h.block k hk hs
theorem SeqAt.set {w : World} {s : Nat} {lo : Option Addr} {len cap : Nat} {zs : List Int} {n : Nat} (h : SeqAt w s lo len cap zs n) {P : Nat} (hP : s < P) (i : Nat) (v : Value) : SeqAt (w.setCell ⟨P, i, none⟩ v) s lo len cap zs n := by
  refine ⟨?_, fun j hj => ?_, h.small⟩
  · rw [Below.heap_setCell _ _ _ _ (by show s ≠ P; omega)]; exact h.lies
  · obtain ⟨b, off, e, hb, hc⟩ := h.row j hj
    refine ⟨b, off, e, hb, ?_⟩
    rw [World.cell?_setCell_other _ _ _ _ (by intro e'; injection e' with e1 _; omega)]
    exact hc
theorem mem_keys_ins {es : List (Int × Int)} {k v : Int} (h : ∀ e ∈ es, (0 ≤ e.1 ∧ e.1 < 60) ∧ -500 ≤ e.2 ∧ e.2 ≤ 499) (hk : 0 ≤ k ∧ k < 60) (hv : -500 ≤ v ∧ v ≤ 499) : ∀ e ∈ insE k v es, (0 ≤ e.1 ∧ e.1 < 60) ∧ -500 ≤ e.2 ∧ e.2 ≤ 499 := by
  intro e he
  rcases mem_ins he with rfl | h1
  · exact ⟨hk, hv⟩
  · exact h e h1
/-- What stands while a page is being made: the page so far, the result's block, the list of numbers. -/
structure MkAt (w0 w : World) (P5 P4 : Nat) (l : Int) (ao : Option Addr) (n c : Nat) (es : List (Int × Int)) (s : Nat) (lo : Option Addr) (len cap : Nat) (zs : List Int) (k : Nat) : Prop where
  page : PBlk w P5 l ao n c
  own : OwnE w w0.heap.size ao c es
  res : PBlk w P4 0 none 0 0
  seq : SeqAt w s lo len cap zs k
  but : But s w0 w
theorem MkAt.below {w0 w w' : World} {P5 P4 : Nat} {l : Int} {ao : Option Addr} {n c : Nat} {es : List (Int × Int)} {s : Nat} {lo : Option Addr} {len cap : Nat} {zs : List Int} {k : Nat} (h : MkAt w0 w P5 P4 l ao n c es s lo len cap zs k) (hb : Below w.heap.size w w') : MkAt w0 w' P5 P4 l ao n c es s lo len cap zs k :=
  ⟨h.page.step hb, h.own.step hb, h.res.step hb, h.seq.under hb (lt_of_block h.seq.lies), h.but.trans (But.of_below hb)⟩
theorem MkAt.drew {w0 w : World} {P5 P4 : Nat} {l : Int} {ao : Option Addr} {n c : Nat} {es : List (Int × Int)} {s : Nat} {lo : Option Addr} {len cap : Nat} {zs : List Int} {k : Nat} (h : MkAt w0 w P5 P4 l ao n c es s lo len cap zs k) : MkAt w0 w.drew P5 P4 l ao n c es s lo len cap zs k := h.below (below_drew (Below.refl _ _))
theorem MkAt.next {w0 w w' : World} {P5 P4 : Nat} {l : Int} {ao : Option Addr} {n c : Nat} {es : List (Int × Int)} {s : Nat} {lo : Option Addr} {len cap : Nat} {zs : List Int} {k k' : Nat} (h : MkAt w0 w P5 P4 l ao n c es s lo len cap zs k) (hb : But s w w') (hs : SeqAt w' s lo len cap zs k') (h5 : P5 ≠ s) (h4 : P4 ≠ s) (h0 : s < w0.heap.size) : MkAt w0 w' P5 P4 l ao n c es s lo len cap zs k' :=
  ⟨h.page.but hb h5, h.own.but hb h0, h.res.but hb h4, hs, h.but.trans hb⟩
theorem MkAt.put {w0 w : World} {P5 P4 : Nat} {l : Int} {ao : Option Addr} {n c : Nat} {es : List (Int × Int)} {s : Nat} {lo : Option Addr} {len cap : Nat} {zs : List Int} {k : Nat} (h : MkAt w0 w P5 P4 l ao n c es s lo len cap zs k) {P6 : Nat} {l2 : Int} {a2 : Option Addr} {m2 d2 : Nat} (hz : PBlk w P6 l2 a2 m2 d2) (h5 : P6 ≠ P5) (h4 : P6 ≠ P4) (hs : s < P6) (h0 : w0.heap.size ≤ P6) (v0 v1 : Value) : MkAt w0 ((w.setCell ⟨P6, 0, none⟩ v0).setCell ⟨P6, 1, none⟩ v1) P5 P4 l ao n c es s lo len cap zs k :=
  ⟨(h.page.far h5 0 v0).far h5 1 v1, (h.own.setPage hz 0 v0).setPage (set_block hz 0 v0) 1 v1, (h.res.far h4 0 v0).far h4 1 v1, (h.seq.set hs 0 v0).set hs 1 v1, (h.but.put h0 0 v0).put h0 1 v1⟩
theorem dup3 {A E F : Type} {Q : Prop} {I G : A → E → F → Prop} (k : (∀ a e f, I a e f → G a e f) → Q) (h : ∀ a e f, I a e f → G a e f) : Q := k h
/-- A goal that is proved once, for all that six letters may be. -/
theorem dup6 {A B C D E F : Type} {Q : Prop} {I G : A → B → C → D → E → F → Prop} (k : (∀ a b c d e f, I a b c d e f → G a b c d e f) → Q) (h : ∀ a b c d e f, I a b c d e f → G a b c d e f) : Q := k h
set_option maxRecDepth 100000 in
set_option maxHeartbeats 8000000 in
theorem mpage_any (most : Int) (hm0 : 0 ≤ most) (hm1 : most ≤ 60) (n0 : Nat) (hn0 : n0 ≤ 100) (s : Nat) (lo : Option Addr) (len cap : Nat) (zs : List Int) (w : World) (h : SeqAt w s lo len cap zs n0) :
    Calls Tryd.prog 6 #[.pointer (some ⟨s, 0, none⟩), .int .i64 most] w fun e w' => ∃ lsn es ao n c, e = .returned (pageV lsn ao n c) ∧ es.length = n ∧ MadeP lsn es most ∧ OwnE w' w.heap.size ao c es ∧ (∃ n1, n1 ≤ n0 + 200 ∧ SeqAt w' s lo len cap zs n1) ∧ But s w w' := by
  have hsl : s < w.heap.size := lt_of_block h.lies
  have HSL := hide hsl
  have hbx := below_box w (pageBlock 0 none 0 0)
  have HS := hide (h.under hbx hsl)
  have HZ := hide (pblk_new w 0 none 0 0)
  have HB := hide (But.of_below (s := s) hbx)
  unfold pageBlock at HS HZ HB
  obtain ⟨P4, hP4⟩ : ∃ P4, P4 = w.heap.size := ⟨_, rfl⟩
  have HP4 := hide hP4
  have HL4 : Hid (w.heap.size ≤ P4 ∧ s < P4) := ⟨by omega, by omega⟩
  rw [← hP4] at HZ
  clear h hbx hsl hP4
  go_enter Tryd.func6, Tryd.ntmps6
  go_upto_region 1 with fail
  rw [← HP4.out]
  clear HP4
  go_wp2_with fail
  refine (next_but s lo len cap zs n0 _ _ HS.out (by omega) (by omega) (by omega)).mono ?_
  rintro e w1 ⟨j1, rfl, hj1, hS, hB⟩
  replace HS := hide hS
  replace HZ := hide (HZ.out.but hB (by have := HL4.out.2; omega))
  replace HB := hide (HB.out.trans hB)
  clear hS hB
  have hj50 : j1 < 50 := by omega
  clear hj1
  have hbx := below_box w1 (pageBlock (1 + (j1 : Int)) none 0 0)
  have HP := hide (pblk_new w1 (1 + (j1 : Int)) none 0 0)
  have HS1 := hide (HS.out.under hbx (lt_of_block HS.out.lies))
  have HZ1 := hide (HZ.out.step hbx)
  have HB1 := hide (HB.out.trans (But.of_below hbx))
  unfold pageBlock at HP HS1 HZ1 HB1
  obtain ⟨P5, hP5⟩ : ∃ P5, P5 = w1.heap.size := ⟨_, rfl⟩
  have HL5 : Hid (w.heap.size ≤ P5 ∧ s < P5 ∧ P5 ≠ P4) := ⟨by have := HB.out.size; omega, by have := HL4.out.2; have := HZ.out.lt; omega, by have := HZ.out.lt; omega⟩
  have HP5 := hide hP5
  rw [← hP5] at HP
  clear hP5 hbx HS HZ HB
  go_upto_region 2 with fail
  obtain ⟨Y, hY⟩ : ∃ Y, Y = w1.alloc (.cells #[.int .i64 (1 + (j1 : Int)), .slice none 0 0] 24) := ⟨_, rfl⟩
  rw [← HP5.out, ← hY]
  rw [← hY] at HP HS1 HZ1 HB1
  clear hY HP5
  have hmw : IntKind.i64.wrap (most + 1) = most + 1 := by rw [IntKind.wrap_i64]; omega
  go_wp2_with fail
  refine (next_but s lo len cap zs (n0 + 1) _ _ HS1.out (by omega) (by omega) (by omega)).mono ?_
  rintro e w2 ⟨j0, rfl, hj0, hS, hB⟩
  replace HS1 := hide hS
  replace HZ1 := hide (HZ1.out.but hB (by have := HL4.out.2; omega))
  replace HP := hide (HP.out.but hB (by have := HL5.out.2.1; omega))
  replace HB1 := hide (HB1.out.trans hB)
  clear hS hB
  have hj1 : j0 ≤ 60 := by omega
  have hj2 : (j0 : Int) ≤ most := by omega
  clear hj0 hmw
  go_wp2_with fail
  go_loopw [6] (fun i wr => ∃ (j done n1 : Nat) (es : List (Int × Int)) (ao : Option Addr) (n c : Nat), i = .int .i64 j ∧ done + j = j0 ∧ n1 ≤ n0 + 2 + 2 * done ∧ es.length = n ∧ n ≤ done ∧ n ≤ 20 ∧ Up es ∧ (∀ e ∈ es, (0 ≤ e.1 ∧ e.1 < 60) ∧ -500 ≤ e.2 ∧ e.2 ≤ 499) ∧ PBlk wr P5 (1 + (j1 : Int)) ao n c ∧ OwnE wr w.heap.size ao c es ∧ PBlk wr P4 0 none 0 0 ∧ SeqAt wr s lo len cap zs n1 ∧ But s w wr) (fun i _ => (intOf i).toNat)
  case atStart => exact ⟨j0, 0, n0 + 2, [], none, 0, 0, rfl, by omega, by omega, rfl, by omega, by omega, List.Pairwise.nil, fun e he => by simp at he, HP.out, ownE_nil _ _, HZ1.out, HS1.out, HB1.out⟩
  case round =>
    clear HP HZ1 HS1 HB1
    obtain ⟨j, done, n1, es, ao, n, c, rfl, hjd, hn1, hn, hnd, hn20, hup, hks, hp, hown, hz, hs, hb⟩ := hrel
    have HN := hide hn
    have HU := hide hup
    have HK := hide hks
    have HP := hide hp
    have HO := hide hown
    have HZ := hide hz
    have HS := hide hs
    have HB := hide hb
    clear hn hup hks hp hown hz hs hb
    by_cases hj : 0 < j
    · obtain ⟨i, rfl⟩ : ∃ i, j = i + 1 := ⟨j - 1, by omega⟩
      have hji : (0 : Int) < ((i + 1 : Nat) : Int) := by omega
      go_wp2_with fail
      refine (next_but s lo len cap zs n1 _ _ HS.out (by omega) (by omega) (by omega)).mono ?_
      rintro e x1 ⟨k0, rfl, hk0, hS, hB⟩
      have HK0 : Hid ((0 : Int) ≤ (k0 : Int) ∧ (k0 : Int) < 60) := ⟨by omega, hk0⟩
      replace HS := hide hS
      replace HO := hide (HO.out.but hB HSL.out)
      replace HP := hide (HP.out.but hB (by have := HL5.out.2.1; omega))
      replace HZ := hide (HZ.out.but hB (by have := HL4.out.2; omega))
      replace HB := hide (HB.out.trans hB)
      clear hS hB hk0
      have c0 := HP.out.c0
      have c1 := HP.out.c1
      by_cases hroom : hasE es k0 = true ∨ n < 20
      · have HROOM := hide hroom
        clear hroom
        go_wp2_with fail
        have HJ := hide (MkAt.mk HP.out HO.out HZ.out HS.out HB.out)
        have H5 : Hid (P5 ≠ s ∧ P4 ≠ s) := ⟨by have := HL5.out.2.1; omega, by have := HL4.out.2; omega⟩
        have HX1 : Hid (x1.heap.size ≠ s) := by show _ ≠ s; have := HL4.out.2; have := HZ.out.lt; omega
        have hnx1 : ¬ x1.heap.size = P5 := by have := HP.out.lt; omega
        have hnx2 : ¬ P5 = x1.heap.size := by have := HP.out.lt; omega
        apply dup6 (A := Nat) (B := Option Addr) (C := Nat) (D := Nat) (E := World) (F := Nat) (I := fun v0 a3 m3 c3 Y P6 => (v0 : Int) < 1000 ∧ PBlk Y P6 (1 + (j1 : Int)) a3 m3 c3 ∧ P6 ≠ P5 ∧ (insE (k0 : Int) ((v0 : Int) - 500) es).length = m3 ∧ MkAt w Y P5 P4 (1 + (j1 : Int)) ao n c es s lo len cap zs (n1 + 2) ∧ OwnE Y w.heap.size a3 c3 (insE (k0 : Int) ((v0 : Int) - 500) es))
        case k =>
          intro TAIL
          have HT := hide TAIL
          clear TAIL
          go_region_held3 (fun w' => w'.cell? ⟨P5, 0, none⟩ = some (.int .i64 (1 + (j1 : Int))) ∧ w'.cell? ⟨P5, 1, none⟩ = some (.slice ao n c)) (first | go_keep | (refine ⟨?_, ?_⟩ <;> first | assumption | (simp [World.cell?_setCell, *])))
            (first | (go_at_call 26; refine (next_but s lo len cap zs (n1 + 1) 1000 _ (HJ.out.drew.below (by first | exact Below.refl _ _ | exact below_box _ _)).seq (by omega) (by omega) (by omega)).mono ?_; rintro e x2 ⟨v0, rfl, hv0, hS, hB⟩; have HV0 := hide hv0; have hvw : IntKind.i64.wrap ((v0 : Int) - 500) = (v0 : Int) - 500 := (by rw [IntKind.wrap_i64]; omega); have HJ2 := hide ((HJ.out.drew.below (by first | exact Below.refl _ _ | exact below_box _ _)).next hB hS H5.out.1 H5.out.2 HSL.out); have HBN := hide hB; have hny1 : ¬ x2.heap.size = P5 := (by have := HJ2.out.page.lt; omega); have hny2 : ¬ P5 = x2.heap.size := (by have := HJ2.out.page.lt; omega); have C0 := HJ2.out.page.c0; have C1 := HJ2.out.page.c1; clear hS hB hv0) | (go_at_call 22; refine (rput_some (1 + (j1 : Int)) ao n c es (k0 : Int) ((v0 : Int) - 500) _ (HJ2.out.below (by first | exact Below.refl _ _ | exact below_box _ _)).own.row HU.out HN.out (by omega) HROOM.out).mono ?_; rintro e x3 ⟨a3, m3, c3, rfl, hm3, hown3, hb3⟩; unfold pageV; have HM3 := hide hm3; have HO3 := hide (hown3.mono (HJ2.out.below (by first | exact Below.refl _ _ | exact below_box _ _)).but.size); clear hm3 hown3; have HJ3 := hide ((HJ2.out.below (by first | exact Below.refl _ _ | exact below_box _ _)).below hb3); have D0 := HJ3.out.page.c0; have D1 := HJ3.out.page.c1; (first | (have Z6 : PBlk x3 x2.heap.size 0 none 0 0 := (pblk_new x2 0 none 0 0).step hb3; have HZ6 := hide Z6; have ZC0 := Z6.c0; have ZC1 := Z6.c1; have ZF0 := Z6.fz 0; have ZF1 := Z6.fz 1; clear Z6) | (have Z6 : PBlk x3 x1.heap.size 0 none 0 0 := ((pblk_new x1.drew 0 none 0 0).but HBN.out HX1.out).step hb3; have HZ6 := hide Z6; have ZC0 := Z6.c0; have ZC1 := Z6.c1; have ZF0 := Z6.fz 0; have ZF1 := Z6.fz 1; clear Z6) | skip); clear hb3))
          all_goals
            first
              | (have hbx := below_box x3 (pageBlock (1 + (j1 : Int)) a3 m3 c3)
                 have hq := pblk_new x3 (1 + (j1 : Int)) a3 m3 c3
                 have hj := HJ3.out.below hbx
                 have ho := HO3.out.step hbx
                 have hne : x3.heap.size ≠ P5 := by have := HJ3.out.page.lt; omega
                 unfold pageBlock at hq hj ho
                 obtain ⟨P6, hP6⟩ : ∃ P6, P6 = x3.heap.size := ⟨_, rfl⟩
                 obtain ⟨Y, hY⟩ : ∃ Y, Y = x3.alloc (.cells #[.int .i64 (1 + (j1 : Int)), .slice a3 m3 c3] 24) := ⟨_, rfl⟩
                 rw [← hY] at hq hj ho ⊢
                 rw [← hP6] at hq hne ⊢
                 exact HT.out v0 a3 m3 c3 Y P6 ⟨HV0.out, hq, hne, HM3.out, hj, ho⟩)
              | (have hq := HZ6.out.put (1 + (j1 : Int)) a3 m3 c3
                 have hj := HJ3.out.put HZ6.out hny1 (by have := HJ2.out.res.lt; omega) (lt_of_block HJ2.out.seq.lies) HJ2.out.but.size (.int .i64 (1 + (j1 : Int))) (.slice a3 m3 c3)
                 have ho := (HO3.out.setPage HZ6.out 0 (.int .i64 (1 + (j1 : Int)))).setPage (set_block HZ6.out 0 _) 1 (.slice a3 m3 c3)
                 obtain ⟨P6, hP6⟩ : ∃ P6, P6 = x2.heap.size := ⟨_, rfl⟩
                 rw [← hP6] at hq hj ho hny1 ⊢
                 obtain ⟨Y, hY⟩ : ∃ Y, Y = (x3.setCell ⟨P6, 0, none⟩ (.int .i64 (1 + (j1 : Int)))).setCell ⟨P6, 1, none⟩ (.slice a3 m3 c3) := ⟨_, rfl⟩
                 rw [← hY] at hq hj ho ⊢
                 have hne := hny1
                 exact HT.out v0 a3 m3 c3 Y P6 ⟨HV0.out, hq, hne, HM3.out, hj, ho⟩)
              | (have hq := HZ6.out.put (1 + (j1 : Int)) a3 m3 c3
                 have hj := HJ3.out.put HZ6.out hnx1 (by have := HZ.out.lt; omega) (lt_of_block HS.out.lies) HB.out.size (.int .i64 (1 + (j1 : Int))) (.slice a3 m3 c3)
                 have ho := (HO3.out.setPage HZ6.out 0 (.int .i64 (1 + (j1 : Int)))).setPage (set_block HZ6.out 0 _) 1 (.slice a3 m3 c3)
                 obtain ⟨P6, hP6⟩ : ∃ P6, P6 = x1.heap.size := ⟨_, rfl⟩
                 rw [← hP6] at hq hj ho hnx1 ⊢
                 obtain ⟨Y, hY⟩ : ∃ Y, Y = (x3.setCell ⟨P6, 0, none⟩ (.int .i64 (1 + (j1 : Int)))).setCell ⟨P6, 1, none⟩ (.slice a3 m3 c3) := ⟨_, rfl⟩
                 rw [← hY] at hq hj ho ⊢
                 have hne := hnx1
                 exact HT.out v0 a3 m3 c3 Y P6 ⟨HV0.out, hq, hne, HM3.out, hj, ho⟩)
        case h =>
          clear HJ
          rintro v0 a3 m3 c3 Y P6 ⟨hv0, hq, hnq, hm3, hj, ho⟩
          have HQ := hide hq
          have HJ3 := hide hj
          have HO4 := hide ho
          have HM3 := hide hm3
          have HNE := hide hnq
          clear hq hj ho hm3 hnq c0 c1 hnx1 hnx2
          have q0 := HQ.out.c0
          have q1 := HQ.out.c1
          have p0 := HJ3.out.page.c0
          have p1 := HJ3.out.page.c1
          have f0 := HJ3.out.page.fz 0
          have f1 := HJ3.out.page.fz 1
          have hne : ¬ P6 = P5 := HNE.out
          have hne2 : ¬ P5 = P6 := fun e => HNE.out e.symm
          have HKX := hide (mem_keys_ins HK.out HK0.out (show -500 ≤ (v0 : Int) - 500 ∧ (v0 : Int) - 500 ≤ 499 by omega))
          have hm1 : m3 ≤ done + 1 ∧ m3 ≤ 20 := by
            have h1 := len_ins es HU.out (k0 : Int) ((v0 : Int) - 500)
            rw [HM3.out, HN.out] at h1
            rcases HROOM.out with h2 | h2
            · rw [if_pos h2] at h1; omega
            · split at h1 <;> omega
          go_wp2_with fail
          go_roundw
          case rel => exact ⟨i, done + 1, n1 + 2, insE (k0 : Int) ((v0 : Int) - 500) es, a3, m3, c3, by go_num, by omega, by omega, HM3.out, hm1.1, hm1.2, HU.out.ins _ _, HKX.out, HJ3.out.page.put _ _ _ _, (HO4.out.setPage HJ3.out.page 0 _).setPage (set_block HJ3.out.page 0 _) 1 _, (HJ3.out.res.far HL5.out.2.2 0 _).far HL5.out.2.2 1 _, (HJ3.out.seq.set HL5.out.2.1 0 _).set HL5.out.2.1 1 _, (HJ3.out.but.put HL5.out.1 0 _).put HL5.out.1 1 _⟩
          case measure => simp [intOf]
      · have hno : hasE es k0 = false ∧ 20 ≤ n := by
          refine ⟨?_, by omega⟩
          cases hq : hasE es k0 with
          | true => exact absurd (.inl hq) hroom
          | false => rfl
        have HNO := hide hno
        clear hroom hno
        go_wp2_with fail
        have HJ := hide (MkAt.mk HP.out HO.out HZ.out HS.out HB.out)
        have H5 : Hid (P5 ≠ s ∧ P4 ≠ s) := ⟨by have := HL5.out.2.1; omega, by have := HL4.out.2; omega⟩
        have HX1 : Hid (x1.heap.size ≠ s) := by show _ ≠ s; have := HL4.out.2; have := HZ.out.lt; omega
        have hnx1 : ¬ x1.heap.size = P5 := by have := HP.out.lt; omega
        have hnx2 : ¬ P5 = x1.heap.size := by have := HP.out.lt; omega
        apply dup3 (A := Nat) (E := World) (F := Nat) (I := fun v0 Y P6 => (v0 : Int) < 1000 ∧ MkAt w Y P5 P4 (1 + (j1 : Int)) ao n c es s lo len cap zs (n1 + 2))
        case k =>
          intro TAIL
          have HT := hide TAIL
          clear TAIL
          go_region_held3 (fun w' => w'.cell? ⟨P5, 0, none⟩ = some (.int .i64 (1 + (j1 : Int))) ∧ w'.cell? ⟨P5, 1, none⟩ = some (.slice ao n c)) (first | go_keep | (refine ⟨?_, ?_⟩ <;> first | assumption | (simp [World.cell?_setCell, *])))
            (first | (go_at_call 26; refine (next_but s lo len cap zs (n1 + 1) 1000 _ (HJ.out.drew.below (by first | exact Below.refl _ _ | exact below_box _ _)).seq (by omega) (by omega) (by omega)).mono ?_; rintro e x2 ⟨v0, rfl, hv0, hS, hB⟩; have HV0 := hide hv0; have hvw : IntKind.i64.wrap ((v0 : Int) - 500) = (v0 : Int) - 500 := (by rw [IntKind.wrap_i64]; omega); have HJ2 := hide ((HJ.out.drew.below (by first | exact Below.refl _ _ | exact below_box _ _)).next hB hS H5.out.1 H5.out.2 HSL.out); have HBN := hide hB; have hny1 : ¬ x2.heap.size = P5 := (by have := HJ2.out.page.lt; omega); have hny2 : ¬ P5 = x2.heap.size := (by have := HJ2.out.page.lt; omega); have C0 := HJ2.out.page.c0; have C1 := HJ2.out.page.c1; clear hS hB hv0) | (go_at_call 22; refine (rput_full (1 + (j1 : Int)) ao n c es (k0 : Int) ((v0 : Int) - 500) _ (HJ2.out.below (by first | exact Below.refl _ _ | exact below_box _ _)).own.row HN.out HNO.out.1 HNO.out.2).mono ?_; rintro e x3 ⟨rfl, hb3⟩; unfold pageV; have HJ3 := hide ((HJ2.out.below (by first | exact Below.refl _ _ | exact below_box _ _)).below hb3); have D0 := HJ3.out.page.c0; have D1 := HJ3.out.page.c1; (first | (have Z6 : PBlk x3 x2.heap.size 0 none 0 0 := (pblk_new x2 0 none 0 0).step hb3; have HZ6 := hide Z6; have ZC0 := Z6.c0; have ZC1 := Z6.c1; have ZF0 := Z6.fz 0; have ZF1 := Z6.fz 1; clear Z6) | (have Z6 : PBlk x3 x1.heap.size 0 none 0 0 := ((pblk_new x1.drew 0 none 0 0).but HBN.out HX1.out).step hb3; have HZ6 := hide Z6; have ZC0 := Z6.c0; have ZC1 := Z6.c1; have ZF0 := Z6.fz 0; have ZF1 := Z6.fz 1; clear Z6) | skip); clear hb3))
          all_goals
            first
              | (have hbx := below_box x3 (pageBlock 0 none 0 0)
                 have hq := pblk_new x3 0 none 0 0
                 have hj := HJ3.out.below hbx
                 have hne : x3.heap.size ≠ P5 := by have := HJ3.out.page.lt; omega
                 unfold pageBlock at hq hj
                 obtain ⟨P6, hP6⟩ : ∃ P6, P6 = x3.heap.size := ⟨_, rfl⟩
                 obtain ⟨Y, hY⟩ : ∃ Y, Y = x3.alloc (.cells #[.int .i64 0, .slice none 0 0] 24) := ⟨_, rfl⟩
                 rw [← hY] at hq hj ⊢
                 rw [← hP6] at hq hne ⊢
                 exact HT.out v0 Y P6 ⟨HV0.out, hj⟩)
              | (have hq := HZ6.out.put 0 none 0 0
                 have hj := HJ3.out.put HZ6.out hny1 (by have := HJ2.out.res.lt; omega) (lt_of_block HJ2.out.seq.lies) HJ2.out.but.size (.int .i64 0) (.slice none 0 0)
                 obtain ⟨P6, hP6⟩ : ∃ P6, P6 = x2.heap.size := ⟨_, rfl⟩
                 rw [← hP6] at hq hj hny1 ⊢
                 obtain ⟨Y, hY⟩ : ∃ Y, Y = (x3.setCell ⟨P6, 0, none⟩ (.int .i64 0)).setCell ⟨P6, 1, none⟩ (.slice none 0 0) := ⟨_, rfl⟩
                 rw [← hY] at hq hj ⊢
                 have hne := hny1
                 exact HT.out v0 Y P6 ⟨HV0.out, hj⟩)
              | (have hq := HZ6.out.put 0 none 0 0
                 have hj := HJ3.out.put HZ6.out hnx1 (by have := HZ.out.lt; omega) (lt_of_block HS.out.lies) HB.out.size (.int .i64 0) (.slice none 0 0)
                 obtain ⟨P6, hP6⟩ : ∃ P6, P6 = x1.heap.size := ⟨_, rfl⟩
                 rw [← hP6] at hq hj hnx1 ⊢
                 obtain ⟨Y, hY⟩ : ∃ Y, Y = (x3.setCell ⟨P6, 0, none⟩ (.int .i64 0)).setCell ⟨P6, 1, none⟩ (.slice none 0 0) := ⟨_, rfl⟩
                 rw [← hY] at hq hj ⊢
                 have hne := hnx1
                 exact HT.out v0 Y P6 ⟨HV0.out, hj⟩)
        case h =>
          clear HJ
          rintro v0 Y P6 ⟨hv0, hj⟩
          have HJ3 := hide hj
          clear hj c0 c1 hnx1 hnx2
          go_wp2_with fail
          go_roundw
          case rel => exact ⟨i, done + 1, n1 + 2, es, ao, n, c, by go_num, by omega, by omega, HN.out, by omega, by omega, HU.out, HK.out, HJ3.out.page, HJ3.out.own, HJ3.out.res, HJ3.out.seq, HJ3.out.but⟩
          case measure => simp [intOf]
    · have hji : decide ((0 : Int) < (j : Int)) = false := by simp; omega
      have c0 := HP.out.c0
      have c1 := HP.out.c1
      have z0 := HZ.out.c0
      have z1 := HZ.out.c1
      have g0 := HZ.out.fz 0
      have g1 := HZ.out.fz 1
      have HMP : Hid (MadeP (1 + (j1 : Int)) es most) := ⟨by omega, by omega, HU.out, HK.out, by rw [HN.out]; omega, by rw [HN.out]; omega⟩
      go_wp2_with fail
      exact bodyPost_ret (v := .agg #[.int .i64 (1 + (j1 : Int)), .slice ao n c]) (by simp [results, Tryd.results6, go_sem, z0, z1]) rfl ⟨_, es, ao, n, c, rfl, HN.out, HMP.out, (HO.out.setPage HZ.out 0 _).setPage (set_block HZ.out 0 _) 1 _, ⟨n1, by omega, (HS.out.set HL4.out.2 0 _).set HL4.out.2 1 _⟩, (HB.out.put HL4.out.1 0 _).put HL4.out.1 1 _⟩
/-- .. out of a list that came in. -/
theorem mpage_new {w x : World} {lo : Option Addr} {len cap : Nat} {zs : List Int} (h : IsRow .i64 w lo len cap zs) (hl : len ≤ 500) (hb : Below w.heap.size w x) (most : Int) (hm0 : 0 ≤ most) (hm1 : most ≤ 60) :
    Calls Tryd.prog 6 #[.pointer (some ⟨x.heap.size, 0, none⟩), .int .i64 most] (x.alloc (.cells #[.slice lo len cap, .int .i64 0] 31)) fun e w' => ∃ lsn es ao n c, e = .returned (pageV lsn ao n c) ∧ es.length = n ∧ MadeP lsn es most ∧ OwnE w' x.heap.size ao c es ∧ Below x.heap.size x w' := by
  have hs := seq_new5 h hl hb
  unfold seqCells at hs
  have hsz : (x.alloc (.cells #[.slice lo len cap, .int .i64 0] 31)).heap.size = x.heap.size + 1 := by simp
  refine (mpage_any most hm0 hm1 0 (by omega) x.heap.size lo len cap zs _ hs).mono ?_
  rintro e w' ⟨lsn, es, ao, n, c, rfl, hn, hm, ho, _, hbut⟩
  exact ⟨lsn, es, ao, n, c, rfl, hn, hm, ho.mono (by omega), (below_box x _).trans (hbut.below (by omega))⟩
end Go.Proofs.YtdijgpkcolpfoaaDoor
