/- From a root: all that is reached from it is met, and what can be closed is. -/
import Derived.Test.YtijnekbhpdcemaaDoorGrWay
namespace Go.Proofs.YtijnekbhpdcemaaDoor
open Go.RowKit
set_option linter.unusedVariables false
set_option linter.unusedSimpArgs false

def FromR (L : List (List Int)) (base : Nat) (b : Nat) (rv : Value) (ob lb cb : Nat) (tag : Nat → Nat) (w0 : World) (s0 : TS) (root : Int) (m : Nat) (x : Value × World) : Prop :=
  ∃ tg ov cv vs s ws, WalkV x.2 base tg b rv L.length ob lb cb ov cv vs s ∧ WayV x.2 w0.heap.size x.1 ws ∧ (∀ k, x.1.ownBlock = some k → tg k = 0) ∧ Kept tag tg w0 x.2 ∧
    Tj L s (ws.map (·.1)) ∧ Seen L s ws ∧ Cnt L.length s ws.length ∧ (∀ v, s0.ord v ≠ 0 → s.ord v ≠ 0) ∧ s.ord root ≠ 0 ∧ m = meas L s ws
def FromPost (L : List (List Int)) (base : Nat) (tag : Nat → Nat) (b : Nat) (rv : Value) (ob lb cb : Nat) (s0 : TS) (root : Int) (w : World) (e : Ending) (w' : World) : Prop :=
  e = .returned (.tuple #[]) ∧ ∃ tag' ov' cv' vs' s', WalkV w' base tag' b rv L.length ob lb cb ov' cv' vs' s' ∧ Kept tag tag' w w' ∧ Tj L s' [] ∧ Cnt L.length s' 0 ∧ (∀ v, s0.ord v ≠ 0 → s'.ord v ≠ 0) ∧ s'.ord root ≠ 0

theorem FromR.start {L : List (List Int)} {base : Nat} {b : Nat} {rv : Value} {ob lb cb : Nat} {tag tg : Nat → Nat} {w w1 : World} {s : TS} {ov cv : Value} {vs : List Value} {r : Nat} (hr : r < L.length) (h0 : s.ord r = 0) (ht : Tj L s []) (hc : Cnt L.length s 0)
    (h : WalkV w1 base tg b rv L.length ob lb cb ov cv vs (s.enter r)) (hk : Kept tag tg w w1) :
    FromR L base b rv ob lb cb tag w s r (meas L (s.enter r) [((r : Int), 0)]) (.slice (some ⟨w1.heap.size, 0, none⟩) 1 1, w1.alloc (.cells #[.int .i64 r, .int .i64 0] 71)) := by
  have hN : NodeOf L (r : Int) := ⟨by omega, by omega⟩
  refine ⟨tg, ov, cv, vs, s.enter r, [((r : Int), 0)], h.alloc _, ?_, fun k hk' => ?_, hk.alloc _, ht.enter hN h0 (fun x hx => by simp at hx), ?_, hc.enter hr h0, fun v hv => ?_, ?_, rfl⟩
  · exact World.ownsRow_lit w1 #[.int .i64 r, .int .i64 0] 1 hk.size (by unfold maxLen; omega) rfl
  · cases hk'; exact h.new _ (Nat.le_refl _)
  · exact Seen.enter (way := []) (W := []) (fun p hp => by simp at hp) ht (fun p hp => by simp at hp) h0
  · show upd s.ord r (s.met + 1) v ≠ 0
    unfold upd; split
    · omega
    · exact hv
  · show upd s.ord r (s.met + 1) r ≠ 0
    rw [upd_at]; omega

theorem enter_mono (s : TS) (r : Int) (v : Int) (h : s.ord v ≠ 0) : (s.enter r).ord v ≠ 0 := by
  show upd s.ord r (s.met + 1) v ≠ 0
  unfold upd; split
  · omega
  · exact h
theorem reach_top {L : List (List Int)} {s : TS} {i : Int} {W : List Int} (h : Tj L s (i :: W)) : ∀ x ∈ i :: W, Reaches L x i := fun x hx => by
  refine h.down x hx i (h.wopen i (by simp)) ?_
  rcases List.mem_cons.1 hx with e | e
  · rw [e]; exact Int.le_refl _
  · have := pop_low h x e; omega
theorem seen_enter {L : List (List Int)} {s : TS} {i j : Int} {k : Nat} {rest : List (Int × Nat)} (hs : Seen L s ((i, k) :: rest)) (ht : Tj L s (i :: rest.map (·.1))) (h0 : s.ord j = 0) (hj : (L.getD i.toNat []).getD k 0 = j) :
    Seen L (s.enter j) ((j, 0) :: (i, k + 1) :: rest) := by
  have h1 := hs.enter (W := i :: rest.map (·.1)) ht (fun p hp => by
    rcases List.mem_cons.1 hp with rfl | hp
    · simp
    · exact List.mem_cons_of_mem _ (List.mem_map_of_mem hp)) h0
  obtain ⟨f1, f2, f3⟩ := ht.fresh h0
  have hij : i ≠ j := fun e => f3 (by rw [← e]; simp)
  have hnew : (s.enter j).ord j = s.met + 1 := upd_at ..
  have hlow : (s.enter j).low i ≤ s.met := by
    show upd s.low j (s.met + 1) i ≤ _
    rw [upd_ne _ _ hij]
    have := (ht.low1 i (by simp)).1
    have := (ht.met0 i).2
    omega
  have h2 := h1.tail.next (fun u hu hN => by
    rw [hj] at hu; subst hu
    exact ⟨by rw [hnew]; omega, fun _ => by rw [hnew]; omega⟩)
  intro p hp m hm u hu hN
  rcases List.mem_cons.1 hp with rfl | hp
  · simp at hm
  · exact h2 p hp m hm u hu hN
theorem lower_wit {L : List (List Int)} {s : TS} {i j : Int} {W : List Int} (ht : Tj L s W) (hi : i ∈ W) (hj : j ∈ s.opn) (he : Edge L i j) : ∃ u ∈ s.opn, s.ord u = min (s.low i) (s.ord j) ∧ Reaches L i u := by
  by_cases h : s.low i ≤ s.ord j
  · obtain ⟨_, u, h1, h2, h3⟩ := ht.low1 i hi
    exact ⟨u, h1, by omega, h3⟩
  · exact ⟨j, hj, by omega, .one he⟩
theorem Tryd.infoPlace : (Tryd.prog.info? 71).map (fun i => (i.zero, i.size, i.bytes)) = some (some (.agg #[.int .i64 0, .int .i64 0]), 2, 16) := by kernel_rfl
theorem news2 (w : World) (a b : Value) (t : TypeId) : ∀ j u, [a, b][j]? = some u → (w.alloc (.cells #[a, b] t)).cell? ((⟨w.heap.size, 0, none⟩ : Addr).add j) = some u := by
  intro j u hj
  match j, hj with
  | 0, hj => simp at hj; subst hj; simp [Addr.add]
  | 1, hj => simp at hj; subst hj; simp [Addr.add]

set_option maxHeartbeats 40000000 in
set_option maxRecDepth 100000 in
theorem from_any (L : List (List Int)) (base : Nat) (tag : Nat → Nat) (b : Nat) (rv : Value) (ob lb cb : Nat) (ov cv : Value) (vs : List Value) (s : TS) (r : Nat) (w : World) (h : WalkV w base tag b rv L.length ob lb cb ov cv vs s)
    (hrv : ∀ W, Below base w W → RowsV W rv L) (hn : L.length ≤ 1000000) (ht : Tj L s []) (hc : Cnt L.length s 0) (hr : r < L.length) (h0 : s.ord r = 0) :
    Calls Tryd.prog 55 #[.pointer (some ⟨b, 0, none⟩), .int .i64 r] w (FromPost L base tag b rv ob lb cb s r w) := by
  obtain ⟨ra, rn, rc, rfl, hrn, hrc, hrm, hrx⟩ := (hrv w (Below.refl _ _)).open
  obtain rfl : rn = L.length := hrn.out
  obtain ⟨μ, hμ⟩ := exists_measure (FromR L base b (.slice ra L.length rc) ob lb cb tag w s r)
  have HMU := Lib.hid hμ
  have HS := Lib.hid (fun tg w1 ov' => FromR.start (base := base) (b := b) (rv := .slice ra L.length rc) (ob := ob) (lb := lb) (cb := cb) (tag := tag) (tg := tg) (w := w) (w1 := w1) (ov := ov') (cv := cv) (vs := vs) hr h0 ht hc)
  have HE := Lib.hid (enter_any base tag b _ L.length ob lb cb ov cv vs s r w h hr hn (hc.room hr h0) (by have := hc.le; omega))
  have HR := Lib.hid hrv
  have hbas := h.bas
  have hlow := Lib.hid h.low
  clear hμ hrv hrx h ht hc h0
  go_enter Tryd.func55, Tryd.ntmps55
  go_wp2_with (first
    | (go_at_call 60; refine HE.out.mono ?_; rintro e w1 ⟨rfl, tg1, ov1, h1, k1⟩))
  have hst := HS.out _ _ _ h1 k1
  clear h1 k1 HS HE
  generalize w1.alloc (.cells #[.int .i64 r, .int .i64 0] 71) = w2 at hst ⊢
  go_loopw [4] (fun v wr => ∃ m, FromR L base b (.slice ra L.length rc) ob lb cb tag w s r m (v, wr)) (fun v wr => μ (v, wr))
  case atStart => exact ⟨_, hst⟩
  case round =>
    clear hst
    obtain ⟨⟨tg, ov, cv, vs, s', ws, hw, hway, hfree, hkept, htj, hseen, hcnt, hmono, hroot, hmeas⟩, _⟩ := HMU.out _ hrel
    clear hrel
    simp only at hw hway hfree hkept
    cases ws with
    | nil =>
      obtain ⟨wa, wc, rfl⟩ := owns_slice hway
      have h00 : ([] : List (Int × Nat)).length = 0 := rfl
      go_wp2_with (fail)
      go_end0
      exact ⟨rfl, tg, _, _, _, _, hw, hkept, htj, hcnt, hmono, hroot⟩
    | cons p rest =>
      obtain ⟨i, k⟩ := p
      obtain ⟨g, cap, rfl, hg1, hg2, hc0, hc1, hfz, hcap⟩ := hway.at_
      have hiN : NodeOf L i := htj.node i (htj.wopen i (by simp))
      obtain ⟨ni, rfl⟩ : ∃ ni : Nat, i = ni := ⟨i.toNat, by have := hiN.1; omega⟩
      have hni : ni < L.length := by have := hiN.2; omega
      have hniI : (ni : Int) < (L.length : Int) := by omega
      have hbel : Below base w wr := hkept.below hbas hlow.out
      obtain ⟨rb, ro, xa, xn, xc, rfl, hx0, hx1, hx2, hx3, hx4⟩ := row_at (HR.out wr hbel) ni hni
      obtain ⟨⟨c0, c1, c2, c3, c4, c5, c6⟩, f1, f2, f3, f4, ⟨d1, d2, d3⟩, ⟨l1, l2, l3, l4⟩⟩ := hw.cells
      have hwl : rest.length + 1 ≤ 1000000 := by have := hcnt.le; simp at this; omega
      have hnmem : (ni : Int) ∈ s'.opn := htj.wopen _ (by simp)
      have hnode' : ∀ v ∈ s'.opn, 0 ≤ v ∧ v < (L.length : Int) := htj.node
      have hle := hcnt.le
      by_cases hlt : k < xn
      · obtain ⟨rb2, ro2, rfl, hj0⟩ := hx4.out k hlt
        have hkL : k < (L.getD ni []).length := by rw [← hx1.out]; exact hlt
        generalize hj : (L.getD ni []).getD k 0 = j at hj0
        have hjj : (L.getD ((ni : Int)).toNat []).getD k 0 = j := by rw [Int.toNat_natCast]; exact hj
        have hkI : (k : Int) < (xn : Int) := by omega
        have hkb : (k : Int) + 1 ≤ 9223372036854775807 := by omega
        have hg0 := hfree g rfl
        have hg0' : tg (⟨g, rest.length * 2 + 1, none⟩ : Addr).block = 0 := hg0
        have hw6 := hw.setFree hg0' (.int .i64 ((k : Int) + 1))
        have hk6 := hkept.setNew (a := ⟨g, rest.length * 2 + 1, none⟩) hg1 (.int .i64 ((k : Int) + 1))
        have hway6 := hway.next
        have hHH := Lib.hid (And.intro hseen (And.intro htj (And.intro hcnt (And.intro hmono hnode'))))
        have hqm : (ni : Int) ∈ s'.opn := hnmem
        have HJ := Lib.hid hjj
        have HKL := Lib.hid hkL
        have HQ := Lib.hid hqm
        clear hseen htj hcnt hmono hnode' hx4 hw hkept hway hnmem hj hjj hkL hqm
        go_wp2_with (fail)
        go_region
        go_wp2_with (fail)
        go_region
        go_wp2_with (fail)
        generalize wr.setCell ⟨g, rest.length * 2 + 1, none⟩ (.int .i64 ((k : Int) + 1)) = w6 at hw6 hk6 hway6 ⊢
        clear c0 c1 c2 c3 c4 c5 c6 f1 f2 f3 f4 d1 d2 d3 l1 l2 l3 l4 hc0 hc1 hfz hx0 hj0 hkb hx3 hx2 hrm hrc hkI hbel hiN HR hlt
        obtain ⟨⟨c0, c1, c2, c3, c4, c5, c6⟩, f1, f2, f3, f4, ⟨d1, d2, d3⟩, ⟨l1, l2, l3, l4⟩⟩ := hw6.cells
        have hfree6 : ∀ kk, (Value.slice (some ⟨g, 0, none⟩) (rest.length + 1) cap).ownBlock = some kk → tg kk = 0 := fun kk hkk => by cases hkk; exact hg0
        by_cases hn2 : 0 ≤ j ∧ j < (L.length : Int)
        · obtain ⟨nj, rfl⟩ : ∃ nj : Nat, j = nj := ⟨j.toNat, by omega⟩
          have hnj : nj < L.length := by omega
          have hnjI : (nj : Int) < (L.length : Int) := by omega
          have hq := @isNode_any b (some ⟨rb, ro, none⟩) L.length rc nj true w6.drew.drew c0 (by omega) (by simp [hn2])
          have qo := hw6.ro.cell hnj
          by_cases ho : s'.ord nj = 0
          · -- enter
            rw [ho] at qo
            obtain ⟨hseen, htj, hcnt, hmono, hnode'⟩ := hHH.out
            have hroom := hcnt.room hnj ho
            have hE := Lib.hid (enter_any base tg b _ L.length ob lb cb ov cv vs s' nj w6.drew.drew hw6.drew.drew hnj hn hroom (by omega))
            have hedge : Edge L ni nj := edge_at (by rw [Int.toNat_natCast]; exact HKL.out) HJ.out ⟨by omega, hnjI⟩
            have htj2 := htj.enter (r := (nj : Int)) ⟨by omega, hnjI⟩ ho (fun x hx => (reach_top htj x hx).step hedge)
            have hse2 := seen_enter hseen htj ho HJ.out
            have hcnt2 := hcnt.enter hnj ho
            have hmono2 := fun v hv => enter_mono s' nj v (hmono v hv)
            have hroot2 := enter_mono s' nj _ hroot
            have hms := meas_enter (L := L) (s := s') (ws := rest) (i := ni) (k := k) (j := nj) (by rw [Int.toNat_natCast]; exact HKL.out) hnj ho
            rw [← hmeas] at hms
            have HP := Lib.hid (And.intro htj2 (And.intro hse2 (And.intro hcnt2 (And.intro hmono2 (And.intro hroot2 hms)))))
            have hg6 : g < w6.heap.size := (hway6.lt _ rfl).2
            have HW := Lib.hid hway6
            have HK := Lib.hid hk6
            clear hseen htj hcnt hmono hnode' htj2 hse2 hcnt2 hmono2 hroot2 hms hedge hroom hk6 hw6 hway6 hfree6 hn2 ho hmeas hroot
            obtain ⟨i0, hi0, hz0, hz1, hz2⟩ := info_parts Tryd.infoPlace
            have hst : w.heap.size ≤ w6.heap.size := HK.out.size
            refine hq.mono ?_
            rintro e w9 ⟨rfl, rfl⟩
            go_wp2_with (first
              | (go_at_call 60; refine hE.out.mono ?_; rintro e w9 ⟨rfl, tg9, ov9, h9, k9⟩)
              | (at_builtin; refine wpList_append_own_at _ rfl _ _ 73 rfl w.heap.size 71 i0 (.agg #[.int .i64 0, .int .i64 0]) 2 16 Tryd.underlying73 hi0 hz0 hz1 hz2 rfl (by decide) _ _ _ rfl (((HW.out.drew.drew).moved (fun k hk => by cases hk; exact k9.block g hg6 hg0) : WayV w9 _ _ _).alloc _) ⟨w9.heap.size, 0, none⟩ 1 1 [.int .i64 nj, .int .i64 0] rfl rfl (news2 _ _ _ _) ?c2 ?c3 ?c4 ?c5 ?_))
            case c2 => intro x hx; simp at hx; rcases hx with rfl | rfl <;> rfl
            case c3 => simp only [List.length_cons]; unfold maxLen; omega
            case c4 => simp only [List.length_cons]; omega
            case c5 =>
              have hs9 : w6.heap.size ≤ w9.heap.size := k9.size
              simp; omega
            intro v' w10 hown' hgrow _ hloc
            obtain ⟨g', cap', rfl, _⟩ := owns_at hown' (by omega)
            obtain ⟨htj2, hse2, hcnt2, hmono2, hroot2, hms⟩ := HP.out
            have hg9 : tg9 g = 0 := (k9.old g hg6).trans hg0
            have h10 := (h9.alloc (.cells #[.int .i64 (nj : Int), .int .i64 0] 71)).grownFree hgrow (fun kk hkk => by cases hkk; exact hg9)
            have hk10 : Kept tag tg9 w w10 := (((HK.out.drew.drew).trans k9).alloc (.cells #[.int .i64 (nj : Int), .int .i64 0] 71)).grown hgrow (fun kk hkk => by cases hkk; exact .inr hg1)
            have hfr : ∀ kk, (Value.slice (some ⟨g', 0, none⟩) (rest.length + 1 + 1) cap').ownBlock = some kk → tg9 kk = 0 := fun kk hkk => by
              rcases hloc with e | e
              · rw [e] at hkk; cases hkk; exact hg9
              · rw [e] at hkk; cases hkk; exact h9.new _ (by omega)
            have hR : FromR L base b (.slice (some ⟨rb, ro, none⟩) L.length rc) ob lb cb tag w s r (meas L (s'.enter nj) (((nj : Int), 0) :: ((ni : Int), k + 1) :: rest)) (.slice (some ⟨g', 0, none⟩) (rest.length + 1 + 1) cap', w10) :=
              ⟨tg9, ov9, cv, vs, _, ((nj : Int), 0) :: ((ni : Int), k + 1) :: rest, h10, hown', hfr, hk10, htj2, hse2, hcnt2, hmono2, hroot2, rfl⟩
            have hR' := Lib.hid hR
            have hms' := Lib.hid hms
            clear hR htj2 hse2 hcnt2 hmono2 hroot2 hms hfr hk10 h10 hgrow hloc hown' h9 k9
            go_wp2_with (fail)
            go_roundw
            case rel => exact ⟨_, hR'.out⟩
            case measure => exact Nat.lt_of_le_of_lt ((HMU.out _ ⟨_, hR'.out⟩).2 _ hR'.out) hms'.out
            -- enter end
          · have ho' : (s'.ord nj == 0) = false := by rw [beq_eq_false_iff_ne]; exact ho
            have qc := hw6.rc.cell hnj
            by_cases hcm : s'.cmp nj < 0
            · -- lower
              obtain ⟨hseen, htj, hcnt, hmono, hnode'⟩ := hHH.out
              have hjo : (nj : Int) ∈ s'.opn := by
                rcases (htj.vis _).1 ho with h1 | h1
                · exact h1
                · omega
              have hedge : Edge L ni nj := edge_at (by rw [Int.toNat_natCast]; exact HKL.out) HJ.out ⟨by omega, hnjI⟩
              have hS := hw6.setLow ni (min (s'.low ni) (s'.ord nj))
              have hSk := hk6.setCell (a := ⟨lb, ni, none⟩) (by show tg lb ≠ 0; rw [hw6.tl]; omega) (.int .i64 (min (s'.low ni) (s'.ord nj)))
              have hgl : g ≠ lb := fun e => by have := hw6.tl; rw [← e, hg0] at this; omega
              have hSp : WayV (w6.setCell ⟨lb, ni, none⟩ (.int .i64 (min (s'.low ni) (s'.ord nj)))) w.heap.size _ _ := hway6.moved (fun k hk => by cases hk; exact Below.heap_setCell _ _ _ _ hgl)
              have hl : min (s'.low ni) (s'.ord nj) ≤ s'.low ni := by omega
              have htj2 := htj.lower hl (lower_wit htj (by simp) hjo hedge)
              have hse2 : Seen L (s'.lower ni (min (s'.low ni) (s'.ord nj))) (((ni : Int), k + 1) :: rest) := (hseen.lower hl).next (fun u hu hN => by
                rw [HJ.out] at hu; subst hu
                refine ⟨ho, fun _ => ?_⟩
                show upd s'.low ni _ ni ≤ s'.ord nj
                rw [upd_at]; omega)
              have hR : FromR L base b (.slice (some ⟨rb, ro, none⟩) L.length rc) ob lb cb tag w s r (meas L (s'.lower ni (min (s'.low ni) (s'.ord nj))) (((ni : Int), k + 1) :: rest)) (.slice (some ⟨g, 0, none⟩) (rest.length + 1) cap, (w6.setCell ⟨lb, ni, none⟩ (.int .i64 (min (s'.low ni) (s'.ord nj)))).drew.drew.drew) :=
                ⟨tg, ov, cv, vs, _, _, hS.drew.drew.drew, hSp.drew.drew.drew, hfree6, hSk.drew.drew.drew, htj2, hse2, hcnt.lower _ _, hmono, hroot, rfl⟩
              have hR' := Lib.hid hR
              have ql := hw6.rl.cell hni
              clear hR hse2 htj2 hl hseen htj hcnt hmono hnode' hjo hk6 hw6 hway6 hfree6 hS hSk hSp hedge hn2
              refine hq.mono ?_
              rintro e w9 ⟨rfl, rfl⟩
              go_wp2_with (fail)
              go_region
              have hmin : (if s'.ord nj < s'.low ni then s'.ord nj else s'.low ni) = min (s'.low ni) (s'.ord nj) := by rw [Int.min_def]; split <;> split <;> omega
              rw [hmin]
              go_wp2_with (fail)
              go_roundw
              case rel => exact ⟨_, hR'.out⟩
              case measure => exact Nat.lt_of_le_of_lt ((HMU.out _ ⟨_, hR'.out⟩).2 _ hR'.out) (by rw [hmeas]; exact meas_next (by rw [Int.toNat_natCast]; exact HKL.out) rfl)
              -- lower end
            · obtain ⟨hseen, htj, hcnt, hmono, hnode'⟩ := hHH.out
              have hno : (nj : Int) ∉ s'.opn := fun hc => hcm (htj.opc _ hc)
              have hse : Seen L s' (((ni : Int), k + 1) :: rest) := hseen.next (fun u hu _ => by rw [HJ.out] at hu; subst hu; exact ⟨ho, fun hc => absurd hc hno⟩)
              have hR : FromR L base b (.slice (some ⟨rb, ro, none⟩) L.length rc) ob lb cb tag w s r (meas L s' (((ni : Int), k + 1) :: rest)) (.slice (some ⟨g, 0, none⟩) (rest.length + 1) cap, w6.drew.drew) :=
                ⟨tg, ov, cv, vs, s', _, hw6.drew.drew, hway6.drew.drew, hfree6, hk6.drew.drew, htj, hse, hcnt, hmono, hroot, rfl⟩
              have hR' := Lib.hid hR
              have hcm' : 0 ≤ s'.cmp nj := by omega
              generalize s'.cmp nj = cj at qc hcm'
              generalize hoj : s'.ord nj = oj at qo ho'
              clear hR hse hseen htj hcnt hmono hnode' hno hk6 hw6 hway6 hfree6 hn2 hoj ho hcm
              refine hq.mono ?_
              rintro e w9 ⟨rfl, rfl⟩
              go_wp2_with (fail)
              go_roundw
              case rel => exact ⟨_, hR'.out⟩
              case measure => exact Nat.lt_of_le_of_lt ((HMU.out _ ⟨_, hR'.out⟩).2 _ hR'.out) (by rw [hmeas]; exact meas_next (by rw [Int.toNat_natCast]; exact HKL.out) rfl)
        · have hq := @isNode_any b (some ⟨rb, ro, none⟩) L.length rc j false w6.drew.drew c0 (by omega) (by simp; omega)
          obtain ⟨hseen, htj, hcnt, hmono, hnode'⟩ := hHH.out
          have hse : Seen L s' (((ni : Int), k + 1) :: rest) := hseen.next (fun u hu hN => by rw [HJ.out] at hu; subst hu; exact absurd hN hn2)
          have hR : FromR L base b (.slice (some ⟨rb, ro, none⟩) L.length rc) ob lb cb tag w s r (meas L s' (((ni : Int), k + 1) :: rest)) (.slice (some ⟨g, 0, none⟩) (rest.length + 1) cap, w6.drew.drew) :=
            ⟨tg, ov, cv, vs, s', _, hw6.drew.drew, hway6.drew.drew, hfree6, hk6.drew.drew, htj, hse, hcnt, hmono, hroot, rfl⟩
          have hR' := Lib.hid hR
          clear hR hse hseen htj hcnt hmono hnode' hk6 hw6 hway6 hfree6
          refine hq.mono ?_
          rintro e w9 ⟨rfl, rfl⟩
          go_wp2_with (fail)
          go_roundw
          case rel => exact ⟨_, hR'.out⟩
          case measure => exact Nat.lt_of_le_of_lt ((HMU.out _ ⟨_, hR'.out⟩).2 _ hR'.out) (by rw [hmeas]; exact meas_next (by rw [Int.toNat_natCast]; exact HKL.out) rfl)
      · have hfull : Full L s' ni := hseen.full (by rw [Int.toNat_natCast, ← hx1.out]; omega)
        clear hx2 hx3 hrm hrc hbel hiN HR
        have hpop := hway.pop
        obtain ⟨A, B, hAB⟩ := List.append_of_mem hnmem
        have hB : (ni : Int) ∉ B := fun hm => by
          have h1 := htj.rise
          rw [hAB, List.pairwise_append] at h1
          have := (List.pairwise_cons.1 h1.2.1).1 _ hm
          omega
        have ql := hw.rl.cell hni
        have qo := hw.ro.cell hni
        cases rest with
        | nil =>
          have hlast : s'.low ni = s'.ord ni := htj.last
          rw [hlast] at ql
          have HX := Lib.hid (close_any base tg b _ L.length ob lb cb ov cv vs s' A B ni wr.drew.drew hw.drew.drew hAB hB hn hnode' (by omega) (by omega))
          have HJ := Lib.hid (htj.close hfull passed_nil hlast hAB)
          have HC := Lib.hid (hcnt.pop.close hAB)
          have HK := Lib.hid hkept
          have HM := Lib.hid hmono
          have hg0 := hfree g rfl
          clear hseen htj hcnt hkept hmono hfull hnode' hAB hlast hx4 hway hw hnmem
          simp only [List.length_nil, Nat.zero_mul, Nat.zero_add] at hc0 hc1
          go_wp2_with (fail)
          go_region
          go_wp2_with (fail)
          go_region
          go_wp2_with (first
            | (go_at_call 61; refine HX.out.mono ?_; rintro e w9 ⟨rfl, tg9, ov9, cv9, vs9, h9, k9⟩))
          have hR : FromR L base b (.slice (some ⟨rb, ro, none⟩) L.length rc) ob lb cb tag w s r (meas L (s'.close A ((ni : Int) :: B)) []) (.slice (some ⟨g, 0, none⟩) 0 cap, w9) :=
            ⟨tg9, ov9, cv9, vs9, _, [], h9, (hpop.drew.drew).moved (fun k hk => by cases hk; exact k9.block g hg2 hg0), fun k hk => by cases hk; exact (k9.old g hg2).trans hg0, (HK.out.drew.drew).trans k9, HJ.out, fun p hp => by simp at hp, HC.out, HM.out, hroot, rfl⟩
          go_roundw
          case rel => exact ⟨_, hR⟩
          case measure => exact Nat.lt_of_le_of_lt ((HMU.out _ ⟨_, hR⟩).2 _ hR) (by rw [hmeas]; exact meas_pop rfl)
        | cons q rest' =>
          obtain ⟨a, ka⟩ := q
          have haN : NodeOf L a := htj.node a (htj.wopen a (by simp))
          obtain ⟨na, rfl⟩ : ∃ na : Nat, a = na := ⟨a.toNat, by have := haN.1; omega⟩
          have hna : na < L.length := by have := haN.2; omega
          have hnaI : (na : Int) < (L.length : Int) := by omega
          have hne : na ≠ ni := fun e => by
            have := pop_low htj (na : Int) (by simp)
            rw [e] at this; exact absurd this (Int.lt_irrefl _)
          have qla := hw.rl.cell hna
          obtain ⟨g2, cap2, he, _, _, hd0, _⟩ := hpop.at_
          cases he
          have hpass := passed_cons htj
          have hS := hw.setLow na (min (s'.low na) (s'.low ni))
          have hg0 := hfree g rfl
          have hgl : g ≠ lb := fun e => by have := hw.tl; rw [← e, hg0] at this; omega
          have hSk := hkept.setCell (a := ⟨lb, na, none⟩) (by show tg lb ≠ 0; rw [hw.tl]; omega) (.int .i64 (min (s'.low na) (s'.low ni)))
          have hSp : WayV (wr.setCell ⟨lb, na, none⟩ (.int .i64 (min (s'.low na) (s'.low ni)))) w.heap.size _ _ := hpop.moved (fun k hk => by cases hk; exact Below.heap_setCell _ _ _ _ hgl)
          simp only [List.length_cons] at hc0 hc1 hwl hcap hSp
          have HH := Lib.hid (And.intro hseen (And.intro htj (And.intro hcnt (And.intro hmono (And.intro hfull (And.intro hnode' hAB))))))
          clear hseen htj hcnt hkept hmono hfull hnode' hAB hx4 hway hw hnmem hpop
          -- cons walk
          go_wp2_with (fail)
          go_region
          go_wp2_with (fail)
          go_region
          have hmin : (if s'.low ni < s'.low na then s'.low ni else s'.low na) = min (s'.low na) (s'.low ni) := by rw [Int.min_def]; split <;> split <;> omega
          rw [hmin]
          clear hmin
          clear c0 c1 c2 c3 c4 c5 c6 f1 f2 f3 f4 d1 d2 d3 l1 l2 l3 l4 ql qo qla hd0 hc0 hc1 hfz hx0
          generalize wr.setCell ⟨lb, na, none⟩ (.int .i64 (min (s'.low na) (s'.low ni))) = w5 at hS hSk hSp ⊢
          have hup : upd s'.low na (min (s'.low na) (s'.low ni)) ni = s'.low ni := upd_ne _ _ (by omega)
          obtain ⟨⟨c0, c1, c2, c3, c4, c5, c6⟩, f1, f2, f3, f4, ⟨d1, d2, d3⟩, ⟨l1, l2, l3, l4⟩⟩ := hS.cells
          have ql := hS.rl.cell hni
          have qo := hS.ro.cell hni
          simp only [hup] at ql
          obtain ⟨hseen, htj, hcnt, hmono, hfull, hnode', hAB⟩ := HH.out
          clear HH
          have hs5 : w.heap.size ≤ w5.heap.size := hSk.size
          have hg5 : g < w5.heap.size := (hSp.lt _ rfl).2
          have hlw : ∀ p ∈ (((na : Int), ka) :: rest'), upd s'.low na (min (s'.low na) (s'.low ni)) p.1 ≤ s'.low p.1 := fun p _ => by
            unfold upd; split
            · next e => rw [e]; omega
            · exact Int.le_refl _
          have hseen2 := hseen.tail.lows hlw
          by_cases heq : s'.low ni = s'.ord ni
          · rw [heq] at ql
            have HX := Lib.hid (close_any base tg b _ L.length ob lb cb ov cv vs _ A B ni w5.drew.drew.drew hS.drew.drew.drew hAB hB hn hnode' (by show s'.opn.length ≤ _; omega) (by show s'.cps.length ≤ _; omega))
            have HJ := Lib.hid (htj.close hfull hpass heq hAB)
            have HC := Lib.hid ((hcnt.pop.lows (upd s'.low na (min (s'.low na) (s'.low ni)))).close hAB)
            have HSe := Lib.hid (hseen2.close (A := A) (M := (ni : Int) :: B) hAB)
            have HK := Lib.hid hSk
            have HM := Lib.hid hmono
            have HW := Lib.hid hSp
            clear hseen hseen2 htj hcnt hmono hfull hnode' hAB hpass hS hSk hSp hlw hup heq
            go_wp2_with (fail)
            go_region
            go_wp2_with (first
              | (go_at_call 61; refine HX.out.mono ?_; rintro e w9 ⟨rfl, tg9, ov9, cv9, vs9, h9, k9⟩))
            have hR : FromR L base b (.slice (some ⟨rb, ro, none⟩) L.length rc) ob lb cb tag w s r (meas L ((s'.lows (upd s'.low na (min (s'.low na) (s'.low ni)))).close A ((ni : Int) :: B)) (((na : Int), ka) :: rest')) (.slice (some ⟨g, 0, none⟩) (rest'.length + 1) cap, w9) :=
              ⟨tg9, ov9, cv9, vs9, _, _, h9, (HW.out.drew.drew.drew).moved (fun k hk => by cases hk; exact k9.block g hg5 hg0), fun k hk => by cases hk; exact (k9.old g hg5).trans hg0, (HK.out.drew.drew.drew).trans k9, HJ.out, HSe.out, HC.out, HM.out, hroot, rfl⟩
            go_roundw
            case rel => exact ⟨_, hR⟩
            case measure => exact Nat.lt_of_le_of_lt ((HMU.out _ ⟨_, hR⟩).2 _ hR) (by rw [hmeas]; exact meas_pop rfl)
          · have hne2 : (s'.low ni == s'.ord ni) = false := by rw [beq_eq_false_iff_ne]; exact heq
            have hR : FromR L base b (.slice (some ⟨rb, ro, none⟩) L.length rc) ob lb cb tag w s r (meas L (s'.lows (upd s'.low na (min (s'.low na) (s'.low ni)))) (((na : Int), ka) :: rest')) (.slice (some ⟨g, 0, none⟩) (rest'.length + 1) cap, w5.drew.drew.drew) :=
              ⟨tg, ov, cv, vs, _, _, hS.drew.drew.drew, hSp.drew.drew.drew, fun k hk => by cases hk; exact hg0, hSk.drew.drew.drew, htj.keep hfull hpass heq, hseen2, hcnt.pop.lows _, hmono, hroot, rfl⟩
            have hR' := Lib.hid hR
            clear hseen hseen2 htj hcnt hmono hfull hnode' hAB hpass hS hSk hSp hlw hup hR
            go_wp2_with (fail)
            go_region
            go_wp2_with (fail)
            go_roundw
            case rel => exact ⟨_, hR'.out⟩
            case measure => exact Nat.lt_of_le_of_lt ((HMU.out _ ⟨_, hR'.out⟩).2 _ hR'.out) (by rw [hmeas]; exact meas_pop rfl)
          -- cons end

end Go.Proofs.YtijnekbhpdcemaaDoor
