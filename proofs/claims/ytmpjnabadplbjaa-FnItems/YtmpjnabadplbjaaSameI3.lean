/-
  The walk of the program's SameItem.
  (-DROP-: what the seat lacks is left out.)
-/
import Derived.Test.YtmpjnabadplbjaaJoined50
import Derived.Test.YtmpjnabadplbjaaItemR3
import Derived.Test.YtmpjnabadplbjaaJoined35
import Derived.Deep.LoopGhost
import Derived.BigRegion
namespace Go.Proofs.Ytmpjnabadplbjaa
open Go.RowKit

theorem infoPr : (Try.prog.info? 77).map (fun i => (i.zero, i.size, i.bytes)) = some (some (.agg #[.pointer none, .pointer none]), 2, 16) := by kernel_rfl
theorem infoPs : (Try.prog.info? 77).map (·.size) = some 2 := by kernel_rfl
theorem two_cellP (p q : Addr) : ∀ u ∈ [Value.pointer (some p), Value.pointer (some q)], u.oneCell' = true := by
  intro u hu
  simp at hu
  rcases hu with rfl | rfl <;> rfl
theorem cell_two_any (w : World) (x y : Value) (t : TypeId) : ∀ j u, [x, y][j]? = some u → (w.alloc (.cells #[x, y] t)).cell? ((⟨w.heap.size, 0, none⟩ : Addr).add j) = some u := by
  intro j u hj
  rw [Addr.add_lit, Nat.zero_add, cell_of_row _ w.heap.size j #[x, y] t (0, 0) (heap_alloc_new w _)]
  simpa using hj
theorem snoc_or {α : Type} (l : List α) : l = [] ∨ ∃ r o, l = r ++ [o] := by
  rcases List.eq_nil_or_concat l with h | ⟨r, o, h⟩
  · exact .inl h
  · exact .inr ⟨r, o, by rw [h]; simp⟩
theorem len_le_sum {α : Type} (op : List (α × Nat)) (h : ∀ o, o ∈ op → 1 ≤ o.2) : op.length ≤ (op.map (·.2)).sum := by
  induction op with
  | nil => exact Nat.zero_le _
  | cons o op ih =>
    have h1 := h o List.mem_cons_self
    have h2 := ih fun q hq => h q (List.mem_cons_of_mem _ hq)
    rw [List.length_cons, List.map_cons, List.sum_cons]
    omega
theorem sum_range_le (s : Nat → Nat) {j n : Nat} (h : j ≤ n) : ((List.range j).map s).sum ≤ ((List.range n).map s).sum := by
  have h1 := sum_part s (List.range n) j
  rw [List.take_range, Nat.min_eq_left h] at h1
  exact h1
theorem Good.pos {w : World} {c : Nat} {R : Bool} {k : Addr × Addr} {N : Nat} (h : Good w c R k N) : 1 ≤ N := by
  obtain ⟨d, e, x, y, _, _, _, rfl⟩ := h
  exact cnt_pos _ _

/-- What stands while the kids of one pair are looked at. -/
structure SkInv (c : Nat) (w1 : World) (R : Bool) (gM : Nat) (k0 k : Addr × Addr) (P : Nat) (a a2 : Option Addr) (s : Nat → Nat) (S0 i : Nat) (op es : List ((Addr × Addr) × Nat)) (v : Value) (wr : World) : Prop where
  inv : SmInv c w1 R gM k0 op es v [k] wr
  box : Blk wr P 77 #[.pointer (some k.1), .pointer (some k.2)]
  ne : P ≠ gM
  off : v.ownBlock ≠ some P
  low : c ≤ P
  kids : ∀ j, j < i → (kidA a j, kidA a2 j) ∈ k0 :: es.map (·.1)
  sum : (op.map (·.2)).sum ≤ S0 + ((List.range i).map s).sum

set_option maxHeartbeats 6400000 in
set_option maxRecDepth 100000 in
theorem iSame_of (l l2 : Bool) (t t2 : ByteArray) (a a2 : Option Addr) (n n2 cp cp2 : Nat) (w : World) (R : Bool) (N : Nat) (hN : N ≤ 2000000)
    (hG : ∀ W, Below w.heap.size w W → Blk W w.heap.size 26 #[.bool l, .string t, .slice a n cp] → Blk W (w.heap.size + 1) 26 #[.bool l2, .string t2, .slice a2 n2 cp2] → Good W W.heap.size R (⟨w.heap.size, 0, none⟩, ⟨w.heap.size + 1, 0, none⟩) N ∧ ∀ M, (⟨w.heap.size, 0, none⟩, ⟨w.heap.size + 1, 0, none⟩) ∈ M → (∀ k, k ∈ M → Done W M k) → R = true) :
    Calls Try.prog 24 #[.agg #[.bool l, .string t, .slice a n cp], .agg #[.bool l2, .string t2, .slice a2 n2 cp2]] w fun e w' => e = .returned (.bool R) ∧ Below w.heap.size w w' := by
  obtain ⟨i0, hi, hz0, hz1, hz2⟩ := info_parts infoPr
  obtain ⟨W, hW, hb, hx, hy⟩ := boxes1r w 26 26 #[.bool l, .string t, .slice a n cp] #[.bool l2, .string t2, .slice a2 n2 cp2]
  obtain ⟨hg, hroot⟩ := hG W hb hx hy
  have hpl := hg.plain
  obtain ⟨k0, hk0⟩ : ∃ k0 : Addr × Addr, (⟨w.heap.size, 0, none⟩, ⟨w.heap.size + 1, 0, none⟩) = k0 := ⟨_, rfl⟩
  have hA : (⟨w.heap.size, 0, none⟩ : Addr) = k0.1 := by rw [← hk0]
  have hB : (⟨w.heap.size + 1, 0, none⟩ : Addr) = k0.2 := by rw [← hk0]
  rw [hk0] at hg hroot hpl
  have HB : Hid (Below w.heap.size w W ∧ w.heap.size ≤ W.heap.size) := ⟨hb, hb.size⟩
  have HR : Hid (∀ M, k0 ∈ M → (∀ k, k ∈ M → Done W M k) → R = true) := hroot
  have H0 : Hid (SmInv W.heap.size W R (W.heap.size + 1) k0 [(k0, N)] [] (.slice (some ⟨W.heap.size, 0, none⟩) 1 1) [] ((W.alloc (.cells #[.pointer (some k0.1), .pointer (some k0.2)] 77)).alloc (.map #[] 0))) := by
    refine ⟨((Below.refl _ _).alloc (Nat.le_refl _) _).alloc (by simp) _, ?_, ⟨0, ?_⟩, by omega, ?_, fun o ho => ?_, fun e he => (by cases he), fun k hk => .inl ?_⟩
    · have h := World.ownsRow_lit (base := W.heap.size) (e := 77) (size := 2) W #[.pointer (some k0.1), .pointer (some k0.2)] 1 (Nat.le_refl _) (by unfold maxLen; omega) (by simp)
      exact h.alloc _
    · have h := heap_alloc_new (W.alloc (.cells #[.pointer (some k0.1), .pointer (some k0.2)] 77)) (.map #[] 0)
      simpa using h
    · intro e; have e2 : W.heap.size = W.heap.size + 1 := Option.some.inj e; omega
    · rw [List.mem_singleton] at ho
      subst ho
      exact hg
    · rcases List.mem_cons.1 hk with rfl | hk
      · simp
      · cases hk
  clear hG hb hx hy hg hroot hpl
  have hmm : ∀ W : World, (Instr.makeMap 79 none).run Try.prog W = .ok (.map (some W.heap.size)) (W.alloc (.map #[] 0)) := fun W => rfl
  go_enter Try.func24, Try.ntmps24
  go_wp2
  clear hW hA hB hk0 hmm
  obtain ⟨c, hc⟩ : ∃ c, W.heap.size = c := ⟨_, rfl⟩
  have HC : Hid (W.heap.size = c) := hc
  rw [hc] at H0
  simp only [hc]
  go_loopg [5] N (fun gk v wr => ∃ (op es : List ((Addr × Addr) × Nat)), Hid (SmInv c W R (c + 1) k0 op es v [] wr ∧ (op.map (·.2)).sum = gk ∧ gk ≤ 2000000))
  case atStart => exact ⟨_, _, H0.out, by simp, hN⟩
  case round =>
    obtain ⟨op, es, HI⟩ := hrel
    clear H0 hN
    rcases snoc_or op with rfl | ⟨rest, o, rfl⟩
    · obtain ⟨ra, rc, hv⟩ := row_slice HI.out.1.row
      subst hv
      have HE : Hid (R = true ∧ Below W.heap.size W wr) := by
        refine ⟨HR.out (k0 :: es.map (·.1)) List.mem_cons_self fun k hk => ?_, by rw [HC.out]; exact HI.out.1.bel⟩
        rcases HI.out.1.done k hk with h1 | h1 | h1
        · cases h1
        · exact h1
        · cases h1
      clear HI
      go_wp2
      go_ret
      exact ⟨by rw [HE.out.1]; rfl, below_then HB.out.1 HE.out.2⟩
    · rcases HI.out.1.row.2 with ⟨_, h0⟩ | ⟨g, cap, cur, rfl, hgc, hgw, hncap, hcapm, _⟩
      · rw [List.length_append, List.length_singleton] at h0; omega
      · have hlen : (rest ++ [o]).length = rest.length + 1 := by rw [List.length_append, List.length_singleton]
        have hrow := HI.out.1.row
        rw [hlen] at hrow ⊢
        have hinv := HI.out.1
        rw [hlen] at hinv
        have hr1 : (rest ++ [o]).length ≤ ((rest ++ [o]).map (·.2)).sum := len_le_sum _ fun q hq => (HI.out.1.good q hq).pos
        have hr2 := HI.out.2
        obtain ⟨k, s0⟩ := o
        have hgd := HI.out.1.good (k, s0) (List.mem_append_right _ (by simp))
        obtain ⟨ll, tt, ka, kn, kc, ll2, tt2, ka2, kn2, kc2, hc1, hc2, hRR, hkids, hkn, hkn2, hka, hka2⟩ := hgd.look
        have hkp := hgd.plain
        obtain ⟨r, hr⟩ : ∃ r, rest.length = r := ⟨_, rfl⟩
        have hrb : r ≤ 2000000 := by omega
        have hsum : ((rest.map (·.2)).sum + s0 = gk ∧ gk ≤ 2000000) := by
          have h := HI.out.2
          rw [List.map_append, List.sum_append] at h
          simpa using h
        have hxs : (opV (rest ++ [(k, s0)])).length = (r + 1) * 2 := by rw [opV_size, hlen, hr]
        have hxa : ∀ i, (opV (rest ++ [(k, s0)]))[r * 2 + i]? = [Value.pointer (some k.1), .pointer (some k.2)][i]? := fun i => by
          rw [opV_append, List.getElem?_append_right (by rw [opV_size, hr]; omega), opV_size, hr, Nat.add_sub_cancel_left]
          rfl
        have p0 : wr.cell? ⟨g, r * 2, none⟩ = some (.pointer (some k.1)) := by
          have h := hrow.cellAt (r * 2) (by omega)
          rw [h]
          exact hxa 0
        have p1 : wr.cell? ⟨g, r * 2 + 1, none⟩ = some (.pointer (some k.2)) := by
          have h := hrow.cellAt (r * 2 + 1) (by omega)
          rw [h]
          exact hxa 1
        have hpop := hinv.pop
        have HP : Hid (SmInv c W R (c + 1) k0 rest es (.slice (some ⟨g, 0, none⟩) rest.length cap) [k] wr ∧ (rest.map (·.2)).sum + s0 = gk ∧ gk ≤ 2000000) := ⟨hpop, hsum⟩
        rw [hr] at HP ⊢
        have hglt : g < wr.heap.size := (hrow.lt g rfl).2
        have hlen2 := hlen
        clear hrow hinv hr1 hr2 hgd hxs hxa hpop hsum HI hlen hgw hgc
        have hcap : (r : Int) ≤ (cap : Int) := by rw [hlen2] at hncap; omega
        have hcap2 : ¬ (cap : Int) < (r : Int) := by omega
        clear hncap hcapm
        obtain ⟨V, hV, hbV, hxV⟩ := box1 wr 77 #[.pointer (some k.1), .pointer (some k.2)]
        have q0 := hxV.cell 0
        have q1 := hxV.cell 1
        have hcw : c ≤ wr.heap.size := by have h1 := HP.out.1.low; have h2 := HP.out.1.set.lt; omega
        have hBV : Below c W V := HP.out.1.bel.trans (hbV.mono hcw)
        have HAl : Hid (Calls Try.prog 48 #[.agg #[.pointer (some k.1), .pointer (some k.2)]] V fun e w' => e = .returned (.bool (decide (ll = ll2) && (decide (tt = tt2) && decide (kn = kn2)))) ∧ Below V.heap.size V w') := iAlike_any k.1 k.2 ll ll2 tt tt2 ka ka2 kn kn2 kc kc2 V (hc1.on hBV hkp.2.1) (hc2.on hBV hkp.2.2)
        have HV : Hid (SmInv c W R (c + 1) k0 rest es (.slice (some ⟨g, 0, none⟩) r cap) [k] V ∧ Blk V wr.heap.size 77 #[.pointer (some k.1), .pointer (some k.2)] ∧ (rest.map (·.2)).sum + s0 = gk ∧ gk ≤ 2000000 ∧ c ≤ wr.heap.size ∧ c + 1 < wr.heap.size ∧ g < wr.heap.size) := ⟨HP.out.1.step hbV, hxV, HP.out.2.1, HP.out.2.2, hcw, HP.out.1.set.lt, hglt⟩
        have HRR : Hid (R = true → ll = ll2 ∧ tt = tt2 ∧ kn = kn2) := hRR
        have HK : Hid (Cel W k.1 ll tt ka kn kc ∧ Cel W k.2 ll2 tt2 ka2 kn2 kc2 ∧ (kn = kn2 → ∃ s : Nat → Nat, (∀ j, j < kn → Good W c R (kidA ka j, kidA ka2 j) (s j)) ∧ 1 + ((List.range kn).map s).sum = s0) ∧ (0 < kn → ∃ b off, ka = some ⟨b, off, none⟩) ∧ (0 < kn2 → ∃ b off, ka2 = some ⟨b, off, none⟩) ∧ k.1.block < c ∧ k.2.block < c) := ⟨hc1, hc2, hkids, hka, hka2, hkp.2.1, hkp.2.2⟩
        clear HP hbV hxV hcw hBV hc1 hc2 hkids hka hka2 hkp hRR hglt
        go_wp2_with fail
        refine HAl.out.mono ?_
        rintro e w3 ⟨rfl, hb3⟩
        have HV3 : Hid (SmInv c W R (c + 1) k0 rest es (.slice (some ⟨g, 0, none⟩) r cap) [k] w3 ∧ Blk w3 wr.heap.size 77 #[.pointer (some k.1), .pointer (some k.2)] ∧ V.heap.size ≤ w3.heap.size) := ⟨HV.out.1.step hb3, HV.out.2.1.on hb3 HV.out.2.1.lt, hb3.size⟩
        clear p0 p1 q0 q1 hV hb3 HAl
        by_cases hal : ll = ll2 ∧ tt = tt2 ∧ kn = kn2
        · obtain ⟨rfl, rfl, rfl⟩ := hal
          have hdt : (decide (ll = ll) && (decide (tt = tt) && decide (kn = kn))) = true := by simp
          rw [hdt]
          have x3 := HV3.out.2.1
          have q0 := x3.cell 0
          have q1 := x3.cell 1
          have hk3 := HK.out.1.on HV3.out.1.bel (by exact HK.out.2.2.2.2.2.1)
          have hk3b := HK.out.2.1.on HV3.out.1.bel (by exact HK.out.2.2.2.2.2.2)
          obtain ⟨⟨kb, ko, ks⟩, ⟨kb2, ko2, ks2⟩⟩ := k
          obtain ⟨hks, d0, d1, d2⟩ := hk3
          obtain ⟨hks2, _, _, _⟩ := hk3b
          simp only at hks hks2 d0 d1 d2 q0 q1
          subst hks
          subst hks2
          obtain ⟨s, hs1, hs2⟩ := HK.out.2.2.1 rfl
          have HS : Hid ((∀ j, j < kn → Good W c R (kidA ka j, kidA ka2 j) (s j)) ∧ 1 + ((List.range kn).map s).sum = s0) := ⟨hs1, hs2⟩
          obtain ⟨S0, hS0⟩ : ∃ S0, (rest.map (·.2)).sum = S0 := ⟨_, rfl⟩
          have HG : Hid (S0 + s0 = gk ∧ gk ≤ 2000000) := ⟨by rw [← hS0]; exact HV.out.2.2.1, HV.out.2.2.2.1⟩
          have H1 : Hid (SkInv c W R (c + 1) k0 (⟨kb, ko, none⟩, ⟨kb2, ko2, none⟩) wr.heap.size ka ka2 s S0 0 rest es (.slice (some ⟨g, 0, none⟩) r cap) w3) := ⟨HV3.out.1, HV3.out.2.1, by have := HV.out.2.2.2.2.2.1; omega, fun e => (by have h1 : g = wr.heap.size := Option.some.inj e; have h2 := HV.out.2.2.2.2.2.2; omega), HV.out.2.2.2.2.1, fun j hj => absurd hj (Nat.not_lt_zero _), by rw [hS0]; exact Nat.le_add_right _ _⟩
          obtain ⟨P, hP⟩ : ∃ P, wr.heap.size = P := ⟨_, rfl⟩
          rw [hP] at H1 q0 q1 ⊢
          clear hdt x3 hs1 hs2 hS0 d0 d1 hP HV HV3
          go_wp2
          go_loopw [5, 38] (fun v i wq => ∃ (j : Nat) (op es : List ((Addr × Addr) × Nat)), i = .int .i64 (j : Int) ∧ j ≤ kn ∧ Hid (SkInv c W R (c + 1) k0 (⟨kb, ko, none⟩, ⟨kb2, ko2, none⟩) P ka ka2 s S0 j op es v wq)) (fun _ i _ => kn - (intOf i).toNat)
          case atStart => exact ⟨0, _, _, rfl, Nat.zero_le _, H1⟩
          case round =>
            obtain ⟨j, op, es, rfl, hj, HI⟩ := hrel
            clear H1 q0 q1 d2
            have hbx := HI.out.box
            have q0 := hbx.cell 0
            have q1 := hbx.cell 1
            by_cases hlt : j < kn
            · have hlt' : (j : Int) < (kn : Int) := by omega
              have hj0 : (0 : Int) ≤ (j : Int) := by omega
              obtain ⟨ab, ao, rfl⟩ := HK.out.2.2.2.1 (by omega)
              obtain ⟨ab2, ao2, rfl⟩ := HK.out.2.2.2.2.1 (by omega)
              have e2 : wr.cell? ⟨kb, ko + 2, none⟩ = some (.slice (some ⟨ab, ao, none⟩) kn kc) := (HK.out.1.on HI.out.inv.bel (by exact HK.out.2.2.2.2.2.1)).2.2.2
              have f2 : wr.cell? ⟨kb2, ko2 + 2, none⟩ = some (.slice (some ⟨ab2, ao2, none⟩) kn kc2) := (HK.out.2.1.on HI.out.inv.bel (by exact HK.out.2.2.2.2.2.2)).2.2.2
              have hkb : kb < wr.heap.size := World.block_lt_of_cell? wr _ e2
              have hkb2 : kb2 < wr.heap.size := World.block_lt_of_cell? wr _ f2
              have E2 : ∀ w', Below wr.heap.size wr w' → w'.cell? ⟨kb, ko + 2, none⟩ = some (.slice (some ⟨ab, ao, none⟩) kn kc) := fun w' hw => (hw.cell (p := ⟨kb, ko + 2, none⟩) hkb).trans e2
              have F2 : ∀ w', Below wr.heap.size wr w' → w'.cell? ⟨kb2, ko2 + 2, none⟩ = some (.slice (some ⟨ab2, ao2, none⟩) kn kc2) := fun w' hw => (hw.cell (p := ⟨kb2, ko2 + 2, none⟩) hkb2).trans f2
              clear hkb hkb2 e2 f2 q0 q1
              have hkk : PlainK W (⟨ab, ao + j * 3, none⟩, ⟨ab2, ao2 + j * 3, none⟩) ∧ ab < c ∧ ab2 < c := (HS.out.1 j hlt).plain
              have hkm : (kidA (some ⟨ab, ao, none⟩) j, kidA (some ⟨ab2, ao2, none⟩) j) = (⟨ab, ao + j * 3, none⟩, ⟨ab2, ao2 + j * 3, none⟩) := rfl
              by_cases hmem : (⟨ab, ao + j * 3, none⟩, ⟨ab2, ao2 + j * 3, none⟩) ∈ es.map (·.1)
              · have hdd : decide ((⟨ab, ao + j * 3, none⟩, ⟨ab2, ao2 + j * 3, none⟩) ∈ es.map (·.1)) = true := decide_eq_true hmem
                go_wp2_with fail
                refine wp_region_made 15 mixes (by kernel_rfl) rfl rfl (fun a w => by go_simp <;> rfl) ?_
                simp only [List.take_succ_cons, List.take_zero, List.drop_succ_cons, List.drop_zero]
                repeat (refine bel_step rfl (fun K hK => ⟨_, (fun w' hw => by have q0 := (hbx.on hw hbx.lt).cell 0; have q1 := (hbx.on hw hbx.lt).cell 1; have z0 := E2 w' hw; have z1 := F2 w' hw; go_simp; exact rfl), ?_⟩); go_simp; refine hK _ ?_; clear hK K)
                refine bel_nil ?_
                intro gn w' hw hgn hnew
                refine frame_out fun K hK => ?_
                go_simp
                refine hK _ ?_
                clear hK K
                refine store_blk (cs' := #[.pointer (some ⟨ab, ao + j * 3, none⟩), .pointer (some ⟨ab2, ao2 + j * 3, none⟩)]) rfl rfl rfl rfl rfl hnew infoPs rfl (by simp [Value.oneCell']) ?_
                intro V3 hnV hoth hbel
                have hB3 : Below wr.heap.size wr V3 := hbel _ _ hgn hw
                have hsl := set_lookup (HI.out.inv.step hB3).set (⟨ab, ao + j * 3, none⟩, ⟨ab2, ao2 + j * 3, none⟩) (hkk.1.on (HI.out.inv.step hB3).bel hkk.2.1 hkk.2.2) (HI.out.inv.step hB3).plain
                rw [hdd] at hsl
                unfold keyV at hsl
                have q0 := hnV.cell 0
                have q1 := hnV.cell 1
                obtain ⟨V4, hV4, hbV4, _⟩ := box1 V3 81 #[]
                have hB4 : Below wr.heap.size wr V4 := below_then hB3 hbV4
                have hn4 := hnV.on hbV4 hnV.lt
                have HN : Hid (Blk V4 gn 77 #[.pointer (some ⟨ab, ao + j * 3, none⟩), .pointer (some ⟨ab2, ao2 + j * 3, none⟩)] ∧ wr.heap.size ≤ gn ∧ Below wr.heap.size wr V4) := ⟨hn4, hgn, hB4⟩
                clear hnew hoth hbel hnV hw hgn hB3 hbV4 hB4 hn4 E2 F2 hbx
                have HI4 : Hid (SkInv c W R (c + 1) k0 (⟨kb, ko, none⟩, ⟨kb2, ko2, none⟩) P (some ⟨ab, ao, none⟩) (some ⟨ab2, ao2, none⟩) s S0 (j + 1) op es _ V4) := ⟨HI.out.inv.step HN.out.2.2, HI.out.box.on HN.out.2.2 HI.out.box.lt, HI.out.ne, HI.out.off, HI.out.low, fun i hi => by
                  by_cases h1 : i < j
                  · exact HI.out.kids i h1
                  · obtain rfl : i = j := by omega
                    rw [hkm]
                    exact List.mem_cons_of_mem _ hmem, by
                  have h1 := HI.out.sum
                  rw [List.range_succ, List.map_append, List.sum_append]
                  omega⟩
                clear HI HN hdd hkm hkk hmem
                go_wp2
                go_roundw
                case rel => exact ⟨j + 1, _, _, by go_num, hlt, HI4⟩
                case measure => simp [intOf]; omega
              · have hdd : decide ((⟨ab, ao + j * 3, none⟩, ⟨ab2, ao2 + j * 3, none⟩) ∈ es.map (·.1)) = false := decide_eq_false hmem
                go_wp2_with fail
                refine wp_region_made 15 mixes (by kernel_rfl) rfl rfl (fun a w => by go_simp <;> rfl) ?_
                simp only [List.take_succ_cons, List.take_zero, List.drop_succ_cons, List.drop_zero]
                repeat (refine bel_step rfl (fun K hK => ⟨_, (fun w' hw => by have q0 := (hbx.on hw hbx.lt).cell 0; have q1 := (hbx.on hw hbx.lt).cell 1; have z0 := E2 w' hw; have z1 := F2 w' hw; go_simp; exact rfl), ?_⟩); go_simp; refine hK _ ?_; clear hK K)
                refine bel_nil ?_
                intro gn w' hw hgn hnew
                refine frame_out fun K hK => ?_
                go_simp
                refine hK _ ?_
                clear hK K
                refine store_blk (cs' := #[.pointer (some ⟨ab, ao + j * 3, none⟩), .pointer (some ⟨ab2, ao2 + j * 3, none⟩)]) rfl rfl rfl rfl rfl hnew infoPs rfl (by simp [Value.oneCell']) ?_
                intro V3 hnV hoth hbel
                have hB3 : Below wr.heap.size wr V3 := hbel _ _ hgn hw
                have hsl := set_lookup (HI.out.inv.step hB3).set (⟨ab, ao + j * 3, none⟩, ⟨ab2, ao2 + j * 3, none⟩) (hkk.1.on (HI.out.inv.step hB3).bel hkk.2.1 hkk.2.2) (HI.out.inv.step hB3).plain
                rw [hdd] at hsl
                unfold keyV at hsl
                have q0 := hnV.cell 0
                have q1 := hnV.cell 1
                obtain ⟨V4, hV4, hbV4, _⟩ := box1 V3 81 #[]
                have hB4 : Below wr.heap.size wr V4 := below_then hB3 hbV4
                have hn4 := hnV.on hbV4 hnV.lt
                have HN : Hid (Blk V4 gn 77 #[.pointer (some ⟨ab, ao + j * 3, none⟩), .pointer (some ⟨ab2, ao2 + j * 3, none⟩)] ∧ wr.heap.size ≤ gn ∧ Below wr.heap.size wr V4) := ⟨hn4, hgn, hB4⟩
                clear hnew hoth hbel hnV hw hgn hB3 hbV4 hB4 hn4 E2 F2 hbx
                obtain ⟨V5, cl, hup, hs5, hb5, hz5, ho5⟩ := set_insert (HI.out.inv.step HN.out.2.2).set (⟨ab, ao + j * 3, none⟩, ⟨ab2, ao2 + j * 3, none⟩) (hkk.1.on (HI.out.inv.step HN.out.2.2).bel hkk.2.1 hkk.2.2) (HI.out.inv.step HN.out.2.2).plain hmem
                unfold keyV at hup
                have hgM : c + 1 < wr.heap.size := HI.out.inv.set.lt
                have hI5 := (HI.out.inv.step HN.out.2.2).insert (⟨ab, ao + j * 3, none⟩, ⟨ab2, ao2 + j * 3, none⟩) cl hkk hs5 hb5 hz5 ho5
                have hn5 : Blk V5 gn 77 #[.pointer (some ⟨ab, ao + j * 3, none⟩), .pointer (some ⟨ab2, ao2 + j * 3, none⟩)] := (hb5 gn (by have := HN.out.2.1; omega)).trans HN.out.1
                have hx5 : Blk V5 P 77 #[.pointer (some ⟨kb, ko, none⟩), .pointer (some ⟨kb2, ko2, none⟩)] := (hb5 P HI.out.ne).trans (HI.out.box.on HN.out.2.2 HI.out.box.lt)
                have hop : op.length + 1 ≤ 2000001 := by
                  have h1 := len_le_sum op fun q hq => (HI.out.inv.good q hq).pos
                  have h2 := HI.out.sum
                  have h3 := sum_range_le s (show j ≤ kn by omega)
                  have h4 := HS.out.2
                  have h5 := HG.out
                  omega
                have hc5 : c ≤ V5.heap.size := by
                  have h1 := HN.out.2.2.size
                  omega
                have HI5 : Hid (SmInv c W R (c + 1) k0 op (es ++ [((⟨ab, ao + j * 3, none⟩, ⟨ab2, ao2 + j * 3, none⟩), cl)]) _ [(⟨ab, ao + j * 3, none⟩, ⟨ab2, ao2 + j * 3, none⟩), (⟨kb, ko, none⟩, ⟨kb2, ko2, none⟩)] V5 ∧ Blk V5 P 77 #[.pointer (some ⟨kb, ko, none⟩), .pointer (some ⟨kb2, ko2, none⟩)]) := ⟨hI5, hx5⟩
                have hown := hI5.row
                have p0 := HN.out.1.cell 0
                have p1 := HN.out.1.cell 1
                have r0 := hn5.cell 0
                have r1 := hn5.cell 1
                have hm63 : op.length + 1 ≤ maxLen := by unfold maxLen; omega
                have hm47 : (op.length + 1) * 16 ≤ 140737488355328 := by omega
                clear hdd hmem hs5 hb5 hz5 ho5 hI5 hx5 hop hn5
                go_wp2_with (at_builtin; refine wpList_append_own_at _ rfl _ _ 78 rfl c 77 i0 (.agg #[.pointer none, .pointer none]) 2 16 Try.underlying78 hi hz0 hz1 hz2 rfl (by decide) _ _ _ rfl (hown.alloc _) ⟨V5.heap.size, 0, none⟩ 1 1 [.pointer (some ⟨ab, ao + j * 3, none⟩), .pointer (some ⟨ab2, ao2 + j * 3, none⟩)] rfl rfl (cell_two_any _ _ _ _) (two_cellP _ _) hm63 hm47 (room_for hc5 _) ?_)
                intro v' w6 hown' hgrow _ hat
                have hAl : Below V5.heap.size V5 (V5.alloc (.cells #[.pointer (some ⟨ab, ao + j * 3, none⟩), .pointer (some ⟨ab2, ao2 + j * 3, none⟩)] 77)) := (Below.refl _ _).alloc (Nat.le_refl _) _
                have hAsz : (V5.alloc (.cells #[.pointer (some ⟨ab, ao + j * 3, none⟩), .pointer (some ⟨ab2, ao2 + j * 3, none⟩)] 77)).heap.size = V5.heap.size + 1 := by simp
                have hI6 := (HI5.out.1.step hAl).push (s := s j) hown' hgrow (by rw [hAsz]; exact hat) (by exact HS.out.1 j hlt)
                have hP5 := HI5.out.2.lt
                have HI7 : Hid (SkInv c W R (c + 1) k0 (⟨kb, ko, none⟩, ⟨kb2, ko2, none⟩) P (some ⟨ab, ao, none⟩) (some ⟨ab2, ao2, none⟩) s S0 (j + 1) (op ++ [((⟨ab, ao + j * 3, none⟩, ⟨ab2, ao2 + j * 3, none⟩), s j)]) (es ++ [((⟨ab, ao + j * 3, none⟩, ⟨ab2, ao2 + j * 3, none⟩), cl)]) v' w6) := ⟨hI6, (hgrow.block P (by have h1 := hAl.size; omega) (fun e => HI.out.off e.symm)).trans (HI5.out.2.on hAl hP5), HI.out.ne, by
                  rcases hat with e | e
                  · rw [e]; exact HI.out.off
                  · rw [e]; intro e2; have e3 : V5.heap.size + 1 = P := Option.some.inj e2; omega, HI.out.low, fun i hi => by
                  rw [List.map_append]
                  by_cases h1 : i < j
                  · rcases List.mem_cons.1 (HI.out.kids i h1) with h2 | h2
                    · exact List.mem_cons.2 (.inl h2)
                    · exact List.mem_cons_of_mem _ (List.mem_append_left _ h2)
                  · obtain rfl : i = j := by omega
                    exact List.mem_cons_of_mem _ (List.mem_append_right _ (by rw [hkm]; simp)), by
                  have h1 := HI.out.sum
                  rw [List.range_succ, List.map_append, List.sum_append, List.map_append, List.sum_append]
                  simp
                  omega⟩
                clear hown' hgrow hat hAl hAsz hI6 hP5 hown HI5 HI HN hkm hkk p0 p1 r0 r1 q0 q1
                go_wp2
                go_roundw
                case rel => exact ⟨j + 1, _, _, by go_num, hlt, HI7⟩
                case measure => simp [intOf]; omega
            · obtain rfl : j = kn := by omega
              have hlt' : ¬ (j : Int) < (j : Int) := by omega
              have hdn : Done W (k0 :: es.map (·.1)) (⟨kb, ko, none⟩, ⟨kb2, ko2, none⟩) := ⟨_, _, _, _, _, _, _, HK.out.1, HK.out.2.1, HI.out.kids⟩
              have hsh := HI.out.inv.shut hdn
              have HF : Hid (SmInv c W R (c + 1) k0 op es _ [] wr ∧ (op.map (·.2)).sum < gk ∧ gk ≤ 2000000) := ⟨hsh, by have h1 := HI.out.sum; have h2 := HS.out.2; have h3 := HG.out; omega, HG.out.2⟩
              clear hdn hsh HI q0 q1 hbx
              go_wp2
              go_roundg ((op.map (·.2)).sum)
              case rel => exact ⟨op, es, HF.out.1, rfl, by have h1 := HF.out.2; omega⟩
              case measure => exact HF.out.2.1
        · have hdf : (decide (ll = ll2) && (decide (tt = tt2) && decide (kn = kn2))) = false := by
            simp only [Bool.and_eq_false_iff, decide_eq_false_iff_not]
            by_cases h1 : ll = ll2
            · by_cases h2 : tt = tt2
              · exact .inr (.inr fun h3 => hal ⟨h1, h2, h3⟩)
              · exact .inr (.inl h2)
            · exact .inl h1
          have HE : Hid (R = false ∧ Below W.heap.size W w3) := ⟨by
            cases hR : R with
            | false => rfl
            | true => exact absurd (HRR.out hR) hal, by rw [HC.out]; exact HV3.out.1.bel⟩
          rw [hdf]
          clear hal hdf HV3
          go_wp2
          go_ret
          exact ⟨by rw [HE.out.1]; rfl, below_then HB.out.1 HE.out.2⟩

theorem PtAt.of {w W : World} {g : Nat} {d : Nat} {x : It (d + 1)} {a : Option Addr} {cp : Nat} (hb : Below w.heap.size w W) (hx : Blk W g 26 #[.bool (itL x), .string (itT x), .slice a (itK x).length cp]) (hK : KPt (fun b => b < w.heap.size) d w (.slice a (itK x).length cp) (itK x)) : PtAt W W.heap.size ⟨g, 0, none⟩ d x :=
  ⟨a, cp, ⟨rfl, hx.cell 0, hx.cell 1, hx.cell 2⟩, hx.lt, ⟨_, _, hx⟩, (hK.kept (w' := W) fun b h => hb.block b h).more fun b h => by have := hb.size; omega⟩
/-- Whether two items are the same. -/
theorem iSame_any (d e : Nat) (x : It (d + 1)) (y : It (e + 1)) (v u : Value) (w : World) (hN : cntD (d + 1) x ≤ 2000000) (hK : KPt (fun b => b < w.heap.size) d w v (itK x)) (hL : KPt (fun b => b < w.heap.size) e w u (itK y)) :
    Calls Try.prog 24 #[itV (itL x) (itT x) v, itV (itL y) (itT y) u] w fun f w' => f = .returned (.bool (sameD (d + 1) (e + 1) x y)) ∧ Below w.heap.size w w' := by
  obtain ⟨a, cp, rfl⟩ := hK.slice
  obtain ⟨a2, cp2, rfl⟩ := hL.slice
  refine iSame_of (itL x) (itL y) (itT x) (itT y) a a2 (itK x).length (itK y).length cp cp2 w (sameD (d + 1) (e + 1) x y) (cntD (d + 1) x) hN fun W hb hx hy => ?_
  have h1 := PtAt.of hb hx hK
  have h2 := PtAt.of hb hy hL
  exact ⟨⟨d, e, x, y, h1, h2, fun h => h, rfl⟩, fun M hM hD => done_same hD d e x y _ _ hM h1 h2⟩

end Go.Proofs.Ytmpjnabadplbjaa
