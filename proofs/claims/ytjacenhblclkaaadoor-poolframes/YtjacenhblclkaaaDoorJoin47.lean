/- Lemmas and contracts that the law stands on, joined: PoWrite. -/
import Derived.Test.YtjacenhblclkaaaDoorJoin46
import Derived.Test.YtjacenhblclkaaaDoorJoin44
/- What a pool writes: pool.write, Flush; plain functions of a pool's state. -/
namespace Go.Proofs.YtjacenhblclkaaaDoor
open Go.RowKit
set_option linter.unusedVariables false

/-- What disk.Write makes of versions, power, the fuse; its code. -/
def wrV (vss : List (List (List Int))) (off : Bool) (s : Nat) (b : List Int) : List (List (List Int)) := if off then vss else addS vss s b
def wrO (off : Bool) (fuse : Int) : Bool := off || decide (fuse = 0)
def wrF (off : Bool) (fuse : Int) : Int := if off then fuse else if fuse = 0 then 0 else burnt fuse
def wrC (off : Bool) (fuse : Int) : Int := if off then 101 else if fuse = 0 then 101 else 0
def PSt.wr (S : PSt) (s : Nat) (b : List Int) : PSt := ⟨wrV S.vss S.off s b, wrO S.off S.fuse, wrF S.off S.fuse, S.ep, S.rs, S.D, S.es, S.ps⟩
section
variable {w w' : World} {K : Nat → Prop} {a : Nat → Addr} {P l d F N : Nat} {base most : Int} {mb : Option Nat} {fo : Option Addr} {fc : Nat} {fs : List Fr} {T : Nat} {S : PSt}
/-- A sector of a log's disk is written by hand. -/
theorem lwrite_any {vss : List (List (List Int))} {off : Bool} {fuse ep : Int} {rs : List R} {D : Nat} (h : Log w K a l d vss off fuse F N base ep rs D) (s : Nat) (hs : s < vss.length) (bo : Option Addr) (bc : Nat) (b : List Int) (hr : Row w bo b) (hl : b.length = 256) (hv : (vss.getD s []).length ≤ 1000) :
    Calls Tryd.prog 25 #[.pointer (some ⟨d, 0, none⟩), .int .i64 s, .slice bo 256 bc] w fun e w' => ∃ fv, e = .returned fv ∧ ErrCode a fv (wrC off fuse) ∧ Log w' K a l d (wrV vss off s b) (wrO off fuse) (wrF off fuse) F N base ep rs D ∧ Kept K w w' := by
  obtain ⟨ao, c, h⟩ := h
  refine (dwrite_uni d s bo bc b h.disk hs hr hl (by omega)).mono ?_
  rintro e w' ⟨fv, rfl, hk, h1, h2, h3⟩
  have hk' := hk.mono (L := K) fun k hk => .inl hk
  cases off with
  | true =>
    obtain ⟨rfl, hd⟩ := h3 rfl
    exact ⟨_, rfl, .inr ⟨0, by omega, rfl, rfl⟩, ⟨ao, c, h.turn hd hk rfl⟩, hk'⟩
  | false =>
    by_cases hf : fuse = 0
    · obtain ⟨rfl, hd⟩ := h2 rfl hf
      subst hf
      exact ⟨_, rfl, .inr ⟨0, by omega, rfl, rfl⟩, ⟨ao, c, h.turn hd hk (length_addS _ _ _)⟩, hk'⟩
    · obtain ⟨rfl, hd⟩ := h1 rfl hf
      have e1 : wrC false fuse = 0 := by unfold wrC; rw [if_neg (by simp), if_neg hf]
      have e2 : wrO false fuse = false := by unfold wrO; simp [hf]
      have e3 : wrF false fuse = burnt fuse := by unfold wrF; rw [if_neg (by simp), if_neg hf]
      rw [e1, e2, e3]
      exact ⟨_, rfl, .inl ⟨rfl, rfl⟩, ⟨ao, c, h.turn hd hk (length_addS _ _ _)⟩, hk'⟩
set_option maxRecDepth 100000 in
set_option maxHeartbeats 2000000 in
theorem pwrite_any (h : PoolOf w K a P l d F N base most mb fo fc fs T S) (s : Nat) (hs : s < S.vss.length) (lsn : Int) (mo : Option Addr) (k c : Nat) (es : List (Int × Int)) (hr : EntRow w mo es) (hk : es.length = k) (hok : okP lsn es = true) (hv : (S.vss.getD s []).length ≤ 1000) :
    Calls Tryd.prog 57 #[.pointer (some ⟨P, 0, none⟩), .int .i64 s, pageV lsn mo k c] w fun e w' => ∃ fv, e = .returned fv ∧ ErrCode a fv (wrC S.off S.fuse) ∧ PoolOf w' K a P l d F N base most mb fo fc fs T (S.wr s (pageB lsn es)) ∧ Kept (withPool K P mb (.slice fo fs.length fc) fs) w w' := by
  have hb1 := below_box w (pageBlock lsn mo k c)
  have HH := hide (h.below hb1)
  have HB := hide (h.log.kept hb1)
  have HR := hide (hr.step hb1)
  have HP := hide (pblk_new w lsn mo k c)
  have HK := hide hk
  have HOK := hide hok
  have HS := hide hs
  have HV := hide hv
  unfold pageBlock at HH HR HP HB
  unfold pageV
  clear h hb1 hr hk hok hs hv
  go_enter Tryd.func57, Tryd.ntmps57
  go_upto_region 1 with fail
  obtain ⟨X, hX⟩ : ∃ X, X = w.alloc (.cells #[.int .i64 lsn, .slice mo k c] 34) := ⟨_, rfl⟩
  rw [← hX] at HH HR HP HB ⊢
  obtain ⟨B, hB⟩ : ∃ B, B = w.heap.size := ⟨_, rfl⟩
  rw [← hB] at HP ⊢
  clear hX hB
  have k0 := HP.out.c0
  have k1 := HP.out.c1
  go_wp2_with fail
  clear k0 k1
  refine (pb_ok lsn mo k c es X (a 1) HH.out.pg.range HR.out HK.out HOK.out).mono ?_
  rintro e w2 ⟨g, rfl, hg, hown, hb⟩
  have HO := hide hown.row
  have HB2 := hide (HB.out.trans (HH.out.log.kept hb))
  have HH2 := hide (HH.out.below hb)
  clear hown hb hg HH HR HB
  have c1 := HH2.out.c1
  go_wp2_with fail
  clear c1
  refine (lwrite_any HH2.out.log s HS.out (some ⟨g, 0, none⟩) 256 (pageB lsn es) HO.out (length_pageB _ _) HV.out).mono ?_
  rintro e w3 ⟨fv, rfl, hc, hlog, hkept⟩
  have HC := hide hc
  have HH3 := hide (HH2.out.turn hlog hkept)
  have HK3 := hide (HB2.out.trans hkept)
  clear hc hlog hkept
  go_wp2_with fail
  go_ret
  exact ⟨_, rfl, HC.out, HH3.out, HK3.out⟩
end
end Go.Proofs.YtjacenhblclkaaaDoor
