/-
  A drawn proof: where it is drawn from, and what the program says of it.
  (-DROP-: what the seat lacks is left out.)
-/
import Derived.Test.YthnahalboomkoaaGreatJoined25
import Derived.Test.YthnahalboomkoaaGreatPrfRdB
import Derived.Test.YthnahalboomkoaaGreatJoined27
import Derived.Test.YthnahalboomkoaaGreatPrfMk
import Derived.Test.YthnahalboomkoaaGreatPrfDraw
import Derived.Test.YthnahalboomkoaaGreatJoined29
import Derived.Test.YthnahalboomkoaaGreatJoined28
import Derived.Test.YthnahalboomkoaaGreatJoined30

namespace Go.Proofs.YthnahalboomkoaaGreat
open Go.RowKit

theorem putProves {ops : Array Oper} (v : Nat → Value) (a : Act) (h : ops.size = 18) (h11 : dsOf ops 11 = some 45) (h12 : dsOf ops 12 = some 33) (h13 : dsOf ops 13 = some 46) (h14 : dsOf ops 14 = some 47) (h15 : dsOf ops 15 = some 9) (h16 : dsOf ops 16 = none) (h17 : dsOf ops 17 = some 10) : putSt ops v a (fun i => [11, 12, 13, 14, 15, 16, 17].contains i) ops.size = (((((((a.put (some 45) (v 11)).put (some 33) (v 12)).put (some 46) (v 13)).put (some 47) (v 14)).put (some 9) (v 15)).put (none) (v 16)).put (some 10) (v 17)) := by
  rw [h]
  show (((((((a.put (dsOf ops 11) (v 11)).put (dsOf ops 12) (v 12)).put (dsOf ops 13) (v 13)).put (dsOf ops 14) (v 14)).put (dsOf ops 15) (v 15)).put (dsOf ops 16) (v 16)).put (dsOf ops 17) (v 17)) = _
  rw [h11, h12, h13, h14, h15, h16, h17]

def kputProves : Nat → Nat := (fun i => match i with | 11 => 4 | 12 => 4 | 13 => 5 | 14 => 6 | 17 => 6 | _ => 0)
/-- What the operations of a call answer, by their part in it. -/
def pvVr (PA : Value) (q : Bool) (r : Nat) (x : Value) : Prop := match r with
  | 4 => x = .tuple #[PA, .bool q]
  | 5 => x = PA
  | 6 => x = .bool q
  | _ => True
theorem first_noneP {L : Array Bool} {k : Nat → Nat} (h : ((List.range L.size).all fun i => !(L.getD i false) || decide (k i = 0)) = true) (i : Nat) (hi : L.getD i false = true) : k i = 0 := by
  rcases Nat.lt_or_ge i L.size with h1 | h1
  · have h2 := List.all_eq_true.1 h i (List.mem_range.2 h1)
    rw [hi] at h2
    simpa using h2
  · simp [Array.getElem?_eq_none h1] at hi
theorem ArgAt.widenP {w : World} {a : Option Addr} {len c d : Nat} (h : ArgAt w a len c) (hd : c ≤ d) : ArgAt w a len d := fun j hj => by
  obtain ⟨b, off, z, h1, h2, h3⟩ := h j hj
  exact ⟨b, off, z, h1, by omega, h3⟩
theorem owns_capP {w : World} {B e sz n c : Nat} {a : Option Addr} {xs : List Value} (h : w.ownsRow B e sz (.slice a n c) n xs) : n ≤ c := by
  rcases h.2 with ⟨h0, h1⟩ | ⟨g, c', cur, hv, hg, hh, h1, h2, h3, h4⟩
  · omega
  · injection hv with e1 e2 e3; omega
theorem infoPrv : (Tryz.prog.info? 44).map (·.size) = some 9 := by kernel_rfl
/-- What is drawn, and where it is read. -/
structure PSt (w : World) (sb tb gm : Nat) (wn p : Nat) (va : Option Addr) (n vc : Nat) (ls : List (List Int)) (ta al be ga de : Int) (g : Nat) (xs : Nat → Nat) (b0 o0 : Nat) (m : List Int) (ia : Option Addr) (ic : Nat) (ua : Option Addr) (uc : Nat) (xa : Option Addr) (xc : Nat) (la : Option Addr) (ln lc : Nat) (za : Option Addr) (zn zc : Nat) (X : World) : Prop where
  bel : Below w.heap.size w X
  sys : Blk X sb 26 #[.int .i64 (wn : Int), .int .i64 (p : Int), .slice va n vc]
  tox : Blk X tb 31 #[.int .i64 ta, .int .i64 al, .int .i64 be, .int .i64 ga, .int .i64 de]
  mkr : Blk X gm 40 #[.int .i64 (gx al).1, .int .i64 (gx al).2.1, .bool (gx al).2.2, .int .i64 (gx be).1, .int .i64 (gx be).2.1, .bool (gx be).2.2, .int .i64 (gx ga).1, .int .i64 (gx ga).2.1, .bool (gx ga).2.2, .int .i64 (gx de).1, .int .i64 (gx de).2.1, .bool (gx de).2.2, .slice ia (p + 1) ic, .slice ua wn uc, .slice xa wn xc, .slice la ln lc, .slice za zn zc]
  rows : NAt 3 X X.heap.size (.slice va n vc) n ls
  lt : g < X.heap.size
  pl : ∀ j, j < 12 → X.cell? ⟨g, j, none⟩ = some (.int .i64 (xs j : Int))
  wit : IntsAt X (some ⟨b0, o0, none⟩) wn X.heap.size (fun j => m.getD j 0)
  pI : PtsAt X ia (p + 1) X.heap.size (fun j => (gxL (zls (kBy ls n ta al be (scInv ga)) (p + 1))).getD j pZ)
  pU : PtsAt X ua wn X.heap.size (fun j => (gxL (zls (kW ls n ta 0) wn)).getD j pZ)
  pV : PtsAt X xa wn X.heap.size (fun j => (gxL (zls (kW ls n ta 1) wn)).getD j pZ)
  pL : PtsAt X la ln X.heap.size (fun j => (gxL (zls (fun j => kBy ls n ta al be (scInv de) (p + 1 + j)) ln)).getD j pZ)
  pZe : PtsAt X za zn X.heap.size (fun j => (gxL (zls (kZ n ta (scInv de)) zn)).getD j pZ)
theorem PSt.on {w : World} {sb tb gm : Nat} {wn p : Nat} {va : Option Addr} {n vc : Nat} {ls : List (List Int)} {ta al be ga de : Int} {g : Nat} {xs : Nat → Nat} {b0 o0 : Nat} {m : List Int} {ia : Option Addr} {ic : Nat} {ua : Option Addr} {uc : Nat} {xa : Option Addr} {xc : Nat} {la : Option Addr} {ln lc : Nat} {za : Option Addr} {zn zc : Nat} {X Y : World} (h : PSt w sb tb gm wn p va n vc ls ta al be ga de g xs b0 o0 m ia ic ua uc xa xc la ln lc za zn zc X) (hb : Below X.heap.size X Y) : PSt w sb tb gm wn p va n vc ls ta al be ga de g xs b0 o0 m ia ic ua uc xa xc la ln lc za zn zc Y :=
  ⟨h.bel.trans (hb.mono h.bel.size), h.sys.on hb h.sys.lt, h.tox.on hb h.tox.lt, h.mkr.on hb h.mkr.lt, (h.rows.on hb).wide hb.size, Nat.lt_of_lt_of_le h.lt hb.size, fun j hj => (hb.cell (p := ⟨g, j, none⟩) h.lt).trans (h.pl j hj), (h.wit.on hb).wide hb.size, (h.pI.on hb).wide hb.size, (h.pU.on hb).wide hb.size, (h.pV.on hb).wide hb.size, (h.pL.on hb).wide hb.size, (h.pZe.on hb).wide hb.size⟩
/-- What is told of a witness. -/
def tld (m : List Int) (p : Nat) : List Int := zls (fun j => m.getD (j + 1) 0) p
theorem tld_len (m : List Int) (p : Nat) : (tld m p).length = p := zls_length _ _
theorem tld_at (m : List Int) {p j : Nat} (h : j < p) : (tld m p).getD j 0 = m.getD (j + 1) 0 := zls_at _ h
theorem tld_wide {m : List Int} {wi : Int} (p : Nat) (h : wide m wi = true) : wide (tld m p) ((tld m p).length : Int) = true := by
  unfold wide
  rw [decide_eq_true rfl, Bool.true_and]
  refine List.all_eq_true.2 fun y hy => ?_
  unfold tld zls at hy
  obtain ⟨i, _, rfl⟩ := List.mem_map.1 hy
  exact decide_eq_true (wide_at h _)
theorem tld_ints {w : World} {b o n c : Nat} {m : List Int} (h : IntsAt w (some ⟨b, o, none⟩) n c (fun j => m.getD j 0)) {p : Nat} (hp : p + 1 ≤ n) : IntsAt w (some ⟨b, o + 1, none⟩) p c (fun j => (tld m p).getD j 0) := fun j hj => by
  obtain ⟨b', o', e, hb, h1⟩ := h (1 + j) (by omega)
  injection e with e
  injection e with e1 e2
  subst e1 e2
  refine ⟨b, o + 1, rfl, hb, ?_⟩
  show w.cell? ⟨b, o + 1 + j, none⟩ = some (.int .i64 ((tld m p).getD j 0))
  rw [tld_at m hj, Nat.add_assoc, Nat.add_comm j 1]
  exact h1
theorem sysSo_of {wi pu : Int} {n : Nat} {ls : List (List Int)} {m : List Int} (h : Right1 wi pu n ls m) : sysSo wi pu n ls m = true := by
  unfold sysSo
  rw [h.1.1, h.1.2.1, h.1.2.2, decide_eq_true h.2]
  rfl
theorem prfIn_gx (a b c : Int) : prfIn (gx a) (gx b) (gx c) = true := by unfold prfIn; rw [gx_in, gx_in, gx_in]; rfl

/-- What the program says of a drawn proof. -/
structure Told (w : World) (S : World → Prop) (wn p : Nat) (va : Option Addr) (n vc : Nat) (ls : List (List Int)) (ta al be ga de : Int) (b0 o0 cm : Nat) (m : List Int) (ia : Option Addr) (ic : Nat) (ua : Option Addr) (uc : Nat) (xa : Option Addr) (xc : Nat) (la : Option Addr) (ln lc : Nat) (za : Option Addr) (zn zc : Nat) (r z : Int) (P Q C : Pt) : Prop where
  prove : ∀ V, S V → Calls Tryz.prog 12 #[.agg #[.int .i64 (wn : Int), .int .i64 (p : Int), .slice va n vc], .agg #[.int .i64 (gx al).1, .int .i64 (gx al).2.1, .bool (gx al).2.2, .int .i64 (gx be).1, .int .i64 (gx be).2.1, .bool (gx be).2.2, .int .i64 (gx ga).1, .int .i64 (gx ga).2.1, .bool (gx ga).2.2, .int .i64 (gx de).1, .int .i64 (gx de).2.1, .bool (gx de).2.2, .slice ia (p + 1) ic, .slice ua wn uc, .slice xa wn xc, .slice la ln lc, .slice za zn zc], .slice (some ⟨b0, o0, none⟩) wn cm, .int .i64 r, .int .i64 z] V fun e w' => e = .returned (.tuple #[.agg (prfC P Q C), .bool true]) ∧ Below V.heap.size V w'
  right : ∀ (am : Option Addr) (c : Nat) (t : List Int) (P' Q' C' : Pt) (V : World), S V → t.length = p → IntsAt V am p V.heap.size (fun j => t.getD j 0) → Calls Tryz.prog 14 #[.agg #[.int .i64 (gx al).1, .int .i64 (gx al).2.1, .bool (gx al).2.2, .int .i64 (gx be).1, .int .i64 (gx be).2.1, .bool (gx be).2.2, .int .i64 (gx ga).1, .int .i64 (gx ga).2.1, .bool (gx ga).2.2, .int .i64 (gx de).1, .int .i64 (gx de).2.1, .bool (gx de).2.2, .slice ia (p + 1) ic], .slice am p c, .agg (prfC P' Q' C')] V fun e w' => e = .returned (.bool (prfOkI (gx al) (gx be) (gx ga) (gx de) (fun j => (gxL (zls (kBy ls n ta al be (scInv ga)) (p + 1))).getD j pZ) (p + 1) t P' Q' C')) ∧ Below V.heap.size V w'
  sum : ∀ (am : Option Addr) (c : Nat) (t : List Int) (V : World), S V → t.length = p → IntsAt V am p V.heap.size (fun j => t.getD j 0) → Calls Tryz.prog 17 #[.agg #[.int .i64 (gx al).1, .int .i64 (gx al).2.1, .bool (gx al).2.2, .int .i64 (gx be).1, .int .i64 (gx be).2.1, .bool (gx be).2.2, .int .i64 (gx ga).1, .int .i64 (gx ga).2.1, .bool (gx ga).2.2, .int .i64 (gx de).1, .int .i64 (gx de).2.1, .bool (gx de).2.2, .slice ia (p + 1) ic], .slice am p c] V fun e w' => e = .returned (pv (inSumI (fun j => (gxL (zls (kBy ls n ta al be (scInv ga)) (p + 1))).getD j pZ) (p + 1) t)) ∧ Below V.heap.size V w'
  toxic : ∀ V, S V → Calls Tryz.prog 13 #[.agg #[.int .i64 (wn : Int), .int .i64 (p : Int), .slice va n vc], .agg #[.int .i64 ta, .int .i64 al, .int .i64 be, .int .i64 ga, .int .i64 de]] V fun e w' => e = .returned (.bool true) ∧ Below V.heap.size V w'
  good : prfOkI (gx al) (gx be) (gx ga) (gx de) (fun j => (gxL (zls (kBy ls n ta al be (scInv ga)) (p + 1))).getD j pZ) (p + 1) (tld m p) P Q C = (!P.2.2 && !Q.2.2)
  grp : prfIn P Q C = true

set_option maxHeartbeats 6400000 in
theorem told_of {w : World} {sb tb gm : Nat} {wn p : Nat} {va : Option Addr} {n vc : Nat} {ls : List (List Int)} {ta al be ga de : Int} {g : Nat} {xs : Nat → Nat} {b0 o0 : Nat} {m : List Int} {ia : Option Addr} {ic : Nat} {ua : Option Addr} {uc : Nat} {xa : Option Addr} {xc : Nat} {la : Option Addr} {ln lc : Nat} {za : Option Addr} {zn zc : Nat} {cm : Nat} (hR : Right1 (wn : Int) (p : Int) n ls m) (hl : ls.length = n * 3) (hz : ∀ j, (ls.getD j []).length ≤ 9223372036854775807) (hT : Tox n ta al be ga de) (hwn : wn = p + 1 + ln) (hzn : zn + 1 = n) (hic : p + 1 ≤ ic) (hml : m.length = wn) (hcm : wn ≤ cm) (r z : Int) (hr : 0 ≤ r ∧ r ≤ 1008) (hzz : 0 ≤ z ∧ z ≤ 1008) :
    ∃ a b c : Int, Told w (PSt w sb tb gm wn p va n vc ls ta al be ga de g xs b0 o0 m ia ic ua uc xa xc la ln lc za zn zc) wn p va n vc ls ta al be ga de b0 o0 cm m ia ic ua uc xa xc la ln lc za zn zc r z (gx a) (gx b) (gx c) := by
  have hS := sides_of hR.1.1
  have e1 : ((wn : Int)).toNat = wn := Int.toNat_natCast _
  have e2 : ((p : Int)).toNat = p := Int.toNat_natCast _
  rw [e1, e2] at hS
  have h20 : wn ≤ 20 := hS.one.2
  have hn16 : n ≤ 16 := hS.rows.2
  have hwf : (Lit.int .i64 (wn : Int)).wf = true := wf_small (by omega) (by omega)
  have hq := quot_of hR.1 hl
  have hqs := quot_short hR.1 hl
  refine ⟨pA ls n wn ta al de r m, pBn ls n wn ta be de z m, pC (wn : Int) (p : Int) ls n wn p ta al be de r z m, ⟨fun V hV => ?_, fun am c t P' Q' C' V hV ht hI => ?_, fun am c t V hV ht hI => ?_, fun V hV => ?_, ?_, prfIn_gx _ _ _⟩⟩
  · have h := iProve_yes wn p ln hwn h20 hwf va n vc hn16 ls hz (gx al) (gx be) (gx ga) (gx de) ia (p + 1) ic ua uc xa xc la lc za zn zc hzn _ _ _ _ (some ⟨b0, o0, none⟩) cm m hml hcm r z hr hzz (sysSo_of hR) hq.1 (by omega) V hV.rows hV.wit hV.pU hV.pV hV.pL hV.pZe
    rw [pvA_gx, pvA_gx, pvC_gx _ _ _ _ _ _ _ _ (by omega)] at h
    have ez : wn - p - 1 = ln := by omega
    unfold pC
    rw [ez]
    exact h
  · have h := iProofOk_any (gx al) (gx be) (gx ga) (gx de) ia (p + 1) ic (by omega) hic (fun j => (gxL (zls (kBy ls n ta al be (scInv ga)) (p + 1))).getD j pZ) am c t (by omega) P' Q' C' V hV.pI (by rw [ht]; exact hI)
    rw [ht] at h
    exact h
  · have h := iInput_any (gx al) (gx be) (gx ga) (gx de) ia (p + 1) ic (by omega) hic (fun j => (gxL (zls (kBy ls n ta al be (scInv ga)) (p + 1))).getD j pZ) am c t (by omega) V hV.pI (by rw [ht]; exact hI)
    rw [ht] at h
    exact h
  · have h := iToxic_any (wn : Int) (p : Int) hwf va n vc (by omega) ls hz ta al be ga de V hV.rows
    rw [tox_iff.2 ⟨hR.1.1, hT⟩] at h
    exact h
  · exact proves_ok hR.1 hl hS hT r z hR.2 (tld_len m p) (fun j hj => tld_at m hj) (tld_wide p hR.1.2.1)

end Go.Proofs.YthnahalboomkoaaGreat
