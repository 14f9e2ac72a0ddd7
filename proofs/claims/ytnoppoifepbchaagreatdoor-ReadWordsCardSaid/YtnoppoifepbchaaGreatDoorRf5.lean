/- The document's reader: the declarations, the rules, the whole. -/
import Derived.Test.YtnoppoifepbchaaGreatDoorRf3
import Derived.Test.YtnoppoifepbchaaGreatDoorRf4
import Derived.Test.YtnoppoifepbchaaGreatDoorRd8
import Derived.Test.YtnoppoifepbchaaGreatDoorRfM
import Derived.Deep.RegionHeld3
namespace Go.Proofs.YtnoppoifepbchaaGreatDoor
open Go.RowKit
set_option linter.unusedVariables false
set_option linter.unusedSimpArgs false

def RLexGo (L : Wds) (e p : Int) (w : World) (r : Ending) (w' : World) : Prop :=
 (∃ v, r = .returned (.tuple #[v, .int .i64 e, .int .i64 p]) ∧ WdL w' v L) ∧ Below w.heap.size w w'
def RReadGo (res : So × Int × Int) (w : World) (r : Ending) (w' : World) : Prop :=
 ∃ (d g : Option Addr) (n1 c1 n2 c2 : Nat) (S : Nat → Prop), r = .returned (.tuple #[.agg #[.string res.1.pro, .slice d n1 c1, .slice g n2 c2, .string res.1.tail], .int .i64 res.2.1, .int .i64 res.2.2]) ∧
  Firm S w' (fun X => SoV X (.agg #[.string res.1.pro, .slice d n1 c1, .slice g n2 c2, .string res.1.tail]) res.1) ∧ (∀ b, S b → w.heap.size ≤ b) ∧ Below w.heap.size w w'
theorem results_cell_slots {fn : Func} {p q r : Tmp} {ty : TypeId} {P : Program} (h : fn.results = #[.cell p ty, .tmp q, .tmp r]) (tmps : Array Value) (w : World) (g : Nat) (t : TypeId) (cs : Array Value) (fr : Nat × Nat) {fs : Array Field}
  (hp : tmps.getD p undef = .pointer (some ⟨g, 0, none⟩)) {u v : Value} (hv : tmps.getD q undef = u) (hv2 : tmps.getD r undef = v) (hg : w.heap[g]? = some (.cells cs t fr))
  (hu : P.underlying ty = some (.struct fs)) (hi : (P.info? ty).map (·.size) = some cs.size) :
  (results fn tmps).run P w = .ok (.tuple #[.agg cs, u, v]) w := by
 have hp' : tmps[p]?.getD undef = .pointer (some ⟨g, 0, none⟩) := by simpa using hp
 subst hv hv2
 simp [results, h, hp', asAddr, run_loadVar_row w g t ty cs fr _ hg hu rfl hi]

/-- so far the declarations -/
inductive DState (L : Wds) (RES : Rd (ByteArray × List Dc)) (P : ByteArray) (b : Bool) (ds : List Dc) (m : Nat) : Int → Prop
 | on : declsS P b ds (L.drop m) = RES → DState L RES P b ds m (-1)
 | off (bd : Int) (r : Wds) : 0 ≤ bd → bd ≤ 100000 → RES = .bad r → bd = (hdW r).place → DState L RES P b ds m bd
/-- so far the source -/
inductive LState (L : Wds) (RES : So × Int × Int) (P : ByteArray) (ds : List Dc) (rs : List Rl) (m : Nat) : Int → Prop
 | on (RES2 : Rd (List Rl)) : (rs = [] ∨ (wAt L m).kind ≠ 10 → rulesS rs (L.drop m) = RES2) → (rs ≠ [] ∧ (wAt L m).kind = 10 → RES2 = .ok rs (L.drop m)) →
    (∀ r2, RES2 = .bad r2 → RES = (noSo, 2, (hdW r2).place)) → (∀ l r2, RES2 = .ok l r2 → RES = (⟨P, ds, l, (hdW r2).text⟩, 0, 0)) → LState L RES P ds rs m (-1)
 | off (bd : Int) : 0 ≤ bd → bd ≤ 100000 → RES = (noSo, 2, bd) → LState L RES P ds rs m bd
theorem begB3_iff (L : Wds) (m : Nat) : begB3 (-1) L m = true ↔ (wAt L m).kind = 1 ∧ signB 58 (wAt L (m + 1)) = true := by
 unfold begB3 beginsB signB
 rw [drop_tail]
 simp [wAt]
 exact fun _ => decide_eq_true_iff.symm

set_option maxRecDepth 100000 in
set_option maxHeartbeats 40000000 in
theorem rread_any (s : ByteArray) (L : Wds) (e p : Int) (w : World) (hlo : -9223372036854775808 ≤ e) (hhi : e ≤ 9223372036854775807) (hL : e = 0 → LexOk L) (HLx : Hid (∀ W, Below w.heap.size w W → Calls Tryz.prog 14 #[.string s] W (RLexGo L e p W))) :
  Calls Tryz.prog 22 #[.string s] w (RReadGo (readS L e p) w) := by
 have h1 := heap_made w #[.string ⟨#[]⟩, .slice none 0 0, .slice none 0 0, .string ⟨#[]⟩] 36 _ rfl
 have hb1 := (Below.refl w.heap.size w).alloc (Nat.le_refl _) (.cells #[.string ⟨#[]⟩, .slice none 0 0, .slice none 0 0, .string ⟨#[]⟩] 36)
 have hs1 : (w.alloc (.cells #[.string ⟨#[]⟩, .slice none 0 0, .slice none 0 0, .string ⟨#[]⟩] 36)).heap.size = w.heap.size + 1 := World.size_alloc _ _
 have HLx2 := Lib.hid (HLx.out _ hb1)
 unfold RLexGo at HLx2
 have HR : Hid (readS L e p = if e ≠ 0 then (noSo, e, p) else match soS L with | .ok x _ => (x, 0, 0) | .bad r => (noSo, 2, (hdW r).place)) := Lib.hid rfl
 generalize readS L e p = RES at HR ⊢
 have HL := Lib.hid hL
 clear hL HLx
 by_cases he : e = 0
 · have hL := HL.out he
   have hbn : (e != 0) = false := by simp [he]
   have HR2 : Hid (RES = match soS L with | .ok x _ => (x, 0, 0) | .bad r => (noSo, 2, (hdW r).place)) := Lib.hid (by rw [HR.out]; exact if_neg (fun h => h he))
   have hpos := hL.pos
   have hHL := Lib.hid hL
   have hL6 := hL.len
   have hgD : Hid (∀ r, declsS ByteArray.empty false [] (L.drop 0) = .bad r → RES = (noSo, 2, (hdW r).place)) := Lib.hid (fun r h => by rw [HR2.out]; unfold soS; rw [show L = L.drop 0 from rfl, h])
   have hgR : Hid (∀ P ds r r2, declsS ByteArray.empty false [] (L.drop 0) = .ok (P, ds) r → rulesS [] r = .bad r2 → RES = (noSo, 2, (hdW r2).place)) := Lib.hid (fun P ds r r2 h h2 => by rw [HR2.out]; unfold soS; rw [show L = L.drop 0 from rfl, h]; simp only; rw [h2])
   have hgO : Hid (∀ P ds r rs r2, declsS ByteArray.empty false [] (L.drop 0) = .ok (P, ds) r → rulesS [] r = .ok rs r2 → RES = (⟨P, ds, rs, (hdW r2).text⟩, 0, 0)) := Lib.hid (fun P ds r rs r2 h h2 => by rw [HR2.out]; unfold soS; rw [show L = L.drop 0 from rfl, h]; simp only; rw [h2])
   clear he HR HL hL HR2
   go_enter Tryz.func22, Tryz.ntmps22
   go_upto_region 4 with (first | (go_at_call 14; (with_reducible refine HLx2.out.mono ?_); rintro r w1 ⟨⟨v, rfl, hv⟩, hw1⟩))
   obtain ⟨va, vn, vc, rfl, _⟩ := ListV.open hv
   have hsz := hw1.size
   have a1 := (hw1.block w.heap.size (by omega)).trans h1
   have hB1 := hb1.trans (hw1.mono (by omega))
   have hww : w.heap.size < w1.heap.size := by omega
   clear h1 hb1 hs1 hw1 HLx2 hsz
   go_upto_region 6 with fail
   have hI : RdIn w1 (.slice va vn vc) L w1.heap.size := ⟨hv, Nat.le_refl _, hHL.out⟩
   have hR2 : RfAt w1 (w1.alloc (.cells #[.slice va vn vc, .int .i64 0, .int .i64 (-1)] 111)) w1.heap.size (.slice va vn vc) 0 (-1) := ⟨(Below.refl w1.heap.size w1).alloc (Nat.le_refl _) (.cells #[.slice va vn vc, .int .i64 0, .int .i64 (-1)] 111), heap_made w1 _ _ _ rfl⟩
   have a2 := heap_keep w1 (.cells #[.slice va vn vc, .int .i64 0, .int .i64 (-1)] 111) a1
   have hB2 := hB1.alloc hB1.size (.cells #[.slice va vn vc, .int .i64 0, .int .i64 (-1)] 111)
   have hs2 : (w1.alloc (.cells #[.slice va vn vc, .int .i64 0, .int .i64 (-1)] 111)).heap.size = w1.heap.size + 1 := World.size_alloc _ _
   generalize w1.alloc (.cells #[.slice va vn vc, .int .i64 0, .int .i64 (-1)] 111) = w2 at hR2 a2 hB2 hs2 ⊢
   have hR3 := hR2.ahead ((Below.refl w2.heap.size w2).alloc (Nat.le_refl _) (.cells #[.string ⟨#[]⟩, .slice none 0 0, .slice none 0 0, .string ⟨#[]⟩] 36))
   have hX3 := heap_made w2 #[.string ⟨#[]⟩, .slice none 0 0, .slice none 0 0, .string ⟨#[]⟩] 36 (w1.heap.size + 1) hs2.symm
   have a3 := heap_keep w2 (.cells #[.string ⟨#[]⟩, .slice none 0 0, .slice none 0 0, .string ⟨#[]⟩] 36) a2
   have hB3 := hB2.alloc hB2.size (.cells #[.string ⟨#[]⟩, .slice none 0 0, .slice none 0 0, .string ⟨#[]⟩] 36)
   have hs3 : (w2.alloc (.cells #[.string ⟨#[]⟩, .slice none 0 0, .slice none 0 0, .string ⟨#[]⟩] 36)).heap.size = w1.heap.size + 1 + 1 := by rw [World.size_alloc, hs2]
   generalize w2.alloc (.cells #[.string ⟨#[]⟩, .slice none 0 0, .slice none 0 0, .string ⟨#[]⟩] 36) = w3 at hR3 hX3 a3 hB3 hs3 ⊢
   clear hR2 a2 hB2 hs2 a1 hB1
   generalize hAA : w1.heap.size = A at hR3 hX3 hI hs3 hww ⊢
   generalize hXX : A + 1 = X at hX3 hs3 ⊢
   have hAX : A < X := by omega
   have hsX : X < w3.heap.size := by omega
   have HI := Lib.hid hI
   clear hAA hXX hs3 hI hv
   generalize hRES1 : declsS ByteArray.empty false [] (L.drop 0) = RES1 at hgD hgR hgO
   have HST : Hid (DState L RES1 ByteArray.empty false [] 0 (-1)) := Lib.hid (.on hRES1)
   clear hRES1
   have hwA := hww
   go_upto_block 0 with fail
   go_cut [] from 28 to 62 (fun wx => ∃ (m : Nat) (bd : Int) (P : ByteArray) (b : Bool) (ds : List Dc) (dv : Value) (xs : List Value) (Sd : Nat → Prop), RfAt w1 wx A (.slice va vn vc) m bd ∧ wx.heap[X]? = some (.cells #[.string P, dv, .slice none 0 0, .string ⟨#[]⟩] 36 (0, 0)) ∧ wx.heap[w.heap.size]? = some (.cells #[.string ⟨#[]⟩, .slice none 0 0, .slice none 0 0, .string ⟨#[]⟩] 36 (0, 0)) ∧ Below w.heap.size w wx ∧ GrowL (X + 1) 65 4 dcR Sd wx dv xs ds ∧ Hid (∀ b, Sd b → X + 1 ≤ b) ∧ m < L.length ∧ Hid (DState L RES1 P b ds m bd) ∧ X + 1 ≤ wx.heap.size ∧ (bd = -1 → (wAt L m).kind = 7))
   case first =>
    go_wp2_with fail
    go_loopg [10] L.length (fun gg x10 V => ∃ (m : Nat) (bd : Int) (P : ByteArray) (b : Bool) (ds : List Dc) (dv : Value) (xs : List Value) (Sd : Nat → Prop), (bd = -1 → L.length ≤ m + gg) ∧ x10 = .bool b ∧ RfAt w1 V A (.slice va vn vc) m bd ∧ V.heap[X]? = some (.cells #[.string P, dv, .slice none 0 0, .string ⟨#[]⟩] 36 (0, 0)) ∧ V.heap[w.heap.size]? = some (.cells #[.string ⟨#[]⟩, .slice none 0 0, .slice none 0 0, .string ⟨#[]⟩] 36 (0, 0)) ∧ Below w.heap.size w V ∧ GrowL (X + 1) 65 4 dcR Sd V dv xs ds ∧ Hid (∀ b, Sd b → X + 1 ≤ b) ∧ m < L.length ∧ Hid (DState L RES1 P b ds m bd) ∧ X + 1 ≤ V.heap.size ∧ (bd = -1 → ds.length ≤ m))
    case atStart => exact ⟨0, -1, _, false, [], _, [], _, fun _ => by omega, rfl, hR3, hX3, a3, hB3, GrowL.nil _ _ _ _ _, Lib.hid (fun _ h => h.elim), hpos, HST, by omega, fun _ => Nat.le_refl _⟩
    case round =>
     clear hR3 hX3 a3 hB3 HST hsX
     obtain ⟨m, bd, P, b, ds, dv, xs, Sd, hgg, rfl, hR, hX, hA, hB, hG, hS, hm, HST, hXs, hdl⟩ := hrel
     rename World => V
     obtain ⟨_, _, c2⟩ := hR.cells
     have HSTX := Lib.hid HST.out
     rcases HST.out with hon | ⟨_, r, o1, o2, o3, o4⟩
     · replace hgg := hgg rfl
       replace hdl := hdl rfl
       have HM7 : Hid ((wAt L m).kind ≠ 7 → True) := Lib.hid (fun _ => trivial)
       have HIs := Lib.hid (is_any HI.out hR hm 7 ⟨#[]⟩)
       rw [isB_open] at HIs
       have HNw := Lib.hid (fun (X : World) (hX : RfAt w1 X A (.slice va vn vc) m (-1)) => now_any HI.out hX hm)
       have HT9 := Lib.hid (fun (X : World) (hX : RfAt w1 X A (.slice va vn vc) m (-1)) => rtake_any HI.out hX hm 9 ⟨#[]⟩)
       have HT5 := Lib.hid (fun (X : World) (hX : RfAt w1 X A (.slice va vn vc) m (-1)) => rtake_any HI.out hX hm 5 ⟨#[]⟩)
       have HFl := Lib.hid (fun (X : World) (hX : RfAt w1 X A (.slice va vn vc) m (-1)) => fail_any HI.out hX hm (.inl rfl))
       have HDc := Lib.hid (fun (h : m + 1 < L.length) (X : World) (hX : RfAt w1 X A (.slice va vn vc) (m + 1) (-1)) => rdecl_any HI.out hX h)
       rw [isB_open] at HT9 HT5
       rw [badOr_open] at HFl
       have HNx : Hid ((wAt L m).kind ≠ 10 → m + 1 < L.length) := Lib.hid (fun e => HI.out.ok.next hm e)
       have HPl := Lib.hid (HI.out.ok.place _ (wAt_mem hm))
       have HW7 : Hid (∀ k, (wAt L m).kind = k → (wAt L m).kind = k) := Lib.hid (fun _ h => h)
       have HPro : Hid (b = false → (wAt L m).kind = 9 → declsS (wAt L m).text true ds (L.drop (m + 1)) = RES1) := Lib.hid (fun e h9 => by subst e; exact (decls_pro hm h9).symm.trans hon)
       have HPro2 : Hid (b = true → (wAt L m).kind = 9 → RES1 = .bad (L.drop m)) := Lib.hid (fun e h9 => by subst e; exact hon.symm.trans (decls_pro2 hm h9))
       have HNone : Hid ((wAt L m).kind ≠ 7 → (wAt L m).kind ≠ 9 → (wAt L m).kind ≠ 5 → RES1 = .bad (L.drop m)) := Lib.hid (fun h7 h9 h5 => hon.symm.trans (decls_none hm h7 h9 (fun h => h5 h.1)))
       have HBd : Hid ((wAt L m).kind = 5 → ∀ bd, BadAt L m bd → ∃ r, RES1 = .bad r ∧ bd = (hdW r).place) := Lib.hid (fun h5 bd h => by
        rcases h with ⟨h0, h1⟩ | ⟨h0, r, h1, h2⟩
        · exact ⟨_, hon.symm.trans (decls_none hm (by omega) (by omega) (fun h => h.2 h0)), h1⟩
        · exact ⟨_, hon.symm.trans (decls_bad hm h5 h0 h1), h2⟩)
       have HOk : Hid ((wAt L m).kind = 5 → keyN (wAt L m).text ≠ 0 → ∀ d r, declS (keyN (wAt L m).text) (wAt L m) (L.drop (m + 1)) = .ok d r → declsS P b (ds ++ [d]) r = RES1) := Lib.hid (fun h5 h0 d r h => (decls_ok hm h5 h0 h).symm.trans hon)
       have HPlB : Hid (RES1 = .bad (L.drop m) → ∃ r, RES1 = .bad r ∧ (wAt L m).place = (hdW r).place) := Lib.hid (fun h => ⟨_, h, rfl⟩)
       clear hon HST HM7 HW7
       by_cases h7 : (wAt L m).kind = 7
       · have hd7 : decide ((wAt L m).kind = 7) = true := by simp [h7]
         rw [hd7] at HIs
         have H7 := Lib.hid h7
         clear h7
         go_wp2_with (first | (go_at_call 55; (with_reducible refine HIs.out.mono ?_); rintro e V1 ⟨rfl, hv⟩))
         replace hR := hR.ahead hv
         replace hX := block_below hX hv (by omega)
         replace hA := block_below hA hv (by omega)
         replace hB := hB.trans (hv.mono hB.size)
         replace hG := hG.below hv
         replace hXs := Nat.le_trans hXs hv.size
         clear hv c2
         go_meet
         case rel => exact ⟨m, -1, P, b, ds, dv, xs, Sd, hR, hX, hA, hB, hG, hS, hm, HSTX, hXs, fun _ => H7.out⟩
       · have hd7 : decide ((wAt L m).kind = 7) = false := by simp [h7]
         rw [hd7] at HIs
         obtain ⟨⟨yk, yt, yp⟩, hy⟩ : ∃ y, wAt L m = y := ⟨_, rfl⟩
         have Hy := Lib.hid hy
         have H7 : Hid ((wAt L m).kind ≠ 7) := Lib.hid h7
         have hyp := HPl.out
         rw [hy] at HNw HT9 HT5 HFl HDc hyp
         simp only at HT9 HT5 HFl hyp
         unfold Wd.agg8 at HNw
         simp only at HNw
         clear hy h7
         go_upto_region 8 with (first | (go_at_call 55; (with_reducible refine HIs.out.mono ?_); rintro e V1 ⟨rfl, hv⟩))
         replace hR := hR.ahead hv
         replace hX := block_below hX hv (by omega)
         replace hA := block_below hA hv (by omega)
         replace hB := hB.trans (hv.mono hB.size)
         replace hG := hG.below hv
         replace hXs := Nat.le_trans hXs hv.size
         clear hv c2 HIs
         have HNw1 := Lib.hid (HNw.out _ hR)
         go_upto_region 10 with (first | (go_at_call 56; (with_reducible refine HNw1.out.mono ?_); rintro e V2 ⟨rfl, hw2⟩))
         have hv := hw2.alloc hw2.size (.cells #[.int .i64 yk, .string yt, .int .i64 yp] 42)
         have hN := heap_made V2 #[.int .i64 yk, .string yt, .int .i64 yp] 42 _ rfl
         have hNX : X < V2.heap.size := by have := hw2.size; omega
         replace hR := hR.ahead hv
         replace hX := block_below hX hv (by omega)
         replace hA := block_below hA hv (by omega)
         replace hB := hB.trans (hv.mono hB.size)
         replace hG := hG.below hv
         replace hXs := Nat.le_trans hXs hv.size
         clear hv hw2 HNw1
         have hNs : V2.heap.size < (V2.alloc (.cells #[.int .i64 yk, .string yt, .int .i64 yp] 42)).heap.size := by simp
         generalize hNN : V2.heap.size = NN at hN hNX hNs ⊢
         clear hNN
         generalize V2.alloc (.cells #[.int .i64 yk, .string yt, .int .i64 yp] 42) = V3 at hR hX hA hB hG hXs hN hNs ⊢
         have hNa : NN ≠ A := by omega
         have HR3 := hR
         by_cases h9 : yk = 9
         · have hd9 : decide (yk = 9) = true := by simp [h9]
           have hd5 : decide (yk = 5) = false := by simp [h9]
           have H9 : Hid ((wAt L m).kind = 9) := Lib.hid (by rw [Hy.out]; exact h9)
           rw [hd9] at HT9
           rw [hd5] at HT5
           simp only [if_true] at HT9
           simp only [Bool.false_eq_true, if_false] at HT5
           have hm1 := HNx.out (by rw [H9.out]; decide)
           cases b with
           | false =>
             have HST9 : Hid (DState L RES1 yt true ds (m + 1) (-1)) := Lib.hid (.on (by have := HPro.out rfl H9.out; rw [Hy.out] at this; exact this))
             clear h9 hd9 hd5 HT5 HFl HDc HPro HPro2 HNone HBd HOk HPlB
             go_upto_region 11 with (first | (go_at_call 57; (with_reducible refine (HT9.out _ HR3).mono ?_); rintro e V4 ⟨rfl, h4, ht4⟩))
             have N4 := ht4.heap hN (show ¬ only A NN from hNa)
             clear HR3
             have X9 := ht4.heap hX (show ¬ only A X from Nat.ne_of_gt hAX)
             have A9 := ht4.heap hA (show ¬ only A w.heap.size from Nat.ne_of_lt hwA)
             have B9 := ht4.to_below hB hB.size (fun b h => by unfold only at h; omega)
             have G9 := hG.keep (w' := V4) (fun b hb => ht4.block b (hG.lt b hb) (fun e => by have h1 : X + 1 ≤ b := hb.elim (hS.out b) (fun h => own_base hG.own (Nat.le_refl _) b h); unfold only at e; omega))
             have S9 := Nat.le_trans hXs ht4.size
             clear hR hX hA hB hG hXs ht4
             have hR := h4
             have hX := X9
             have hA := A9
             have hB := B9
             have hG := G9
             have hXs := S9
             clear h4 X9 A9 B9 G9 S9
             obtain ⟨n0, n1, n2, _⟩ := box3 N4
             obtain ⟨x0, x1, x2, x3, y0, y1, y2, y3⟩ := box4 hX
             go_wp2_with fail
             have q1 := hR.aside (j := 0) (show X ≠ A by omega) (by have := HI.out.lt; omega) (.string yt)
             have q2 := block_setCell (j := 0) (u := .string yt) hX
             simp only [Array.setIfInBounds, List.size_toArray, List.length_cons, List.length_nil] at q2
             have q3 := (Below.heap_setCell V4 ⟨X, 0, none⟩ (.string yt) w.heap.size (show w.heap.size ≠ X by omega)).trans hA
             have q4 := hB.setCell (p := ⟨X, 0, none⟩) (show w.heap.size ≤ X by omega) (.string yt)
             have q5 := hG.keep (w' := V4.setCell ⟨X, 0, none⟩ (.string yt)) (fun b hb => Below.heap_setCell _ _ _ _ (show b ≠ X by have h1 : X + 1 ≤ b := hb.elim (hS.out b) (fun h => own_base hG.own (Nat.le_refl _) b h); omega))
             have q6 : X + 1 ≤ (V4.setCell ⟨X, 0, none⟩ (.string yt)).heap.size := by simp [World.setCell]; omega
             go_roundg (L.length - (m + 1))
             case rel => exact ⟨m + 1, -1, yt, true, ds, dv, xs, Sd, fun _ => by omega, rfl, q1, q2, q3, q4, q5, hS, hm1, HST9, q6, fun _ => by omega⟩
             case measure => omega
           | true =>
             have HBAD : Hid (RES1 = .bad (L.drop m)) := Lib.hid (HPro2.out rfl H9.out)
             clear h9 hd9 hd5 HT9 HDc HPro HPro2 HNone HBd HOk hm1
             go_upto_region 9 with (first | (go_at_call 57; (with_reducible refine (HT5.out _ HR3).mono ?_); rintro e V4 ⟨rfl, h4, ht4⟩))
             clear HR3
             have X9 := ht4.heap hX (show ¬ only A X from Nat.ne_of_gt hAX)
             have A9 := ht4.heap hA (show ¬ only A w.heap.size from Nat.ne_of_lt hwA)
             have B9 := ht4.to_below hB hB.size (fun b h => by unfold only at h; omega)
             have G9 := hG.keep (w' := V4) (fun b hb => ht4.block b (hG.lt b hb) (fun e => by have h1 : X + 1 ≤ b := hb.elim (hS.out b) (fun h => own_base hG.own (Nat.le_refl _) b h); unfold only at e; omega))
             have S9 := Nat.le_trans hXs ht4.size
             clear hR hX hA hB hG hXs ht4
             have hR := h4
             have hX := X9
             have hA := A9
             have hB := B9
             have hG := G9
             have hXs := S9
             clear h4 X9 A9 B9 G9 S9
             have HFl4 := Lib.hid (HFl.out _ hR)
             go_wp2_with (first | (go_at_call 59; (with_reducible refine HFl4.out.mono ?_); rintro e V5 ⟨rfl, h5, ht5⟩))
             have X9 := ht5.heap hX (show ¬ only A X from Nat.ne_of_gt hAX)
             have A9 := ht5.heap hA (show ¬ only A w.heap.size from Nat.ne_of_lt hwA)
             have B9 := ht5.to_below hB hB.size (fun b h => by unfold only at h; omega)
             have G9 := hG.keep (w' := V5) (fun b hb => ht5.block b (hG.lt b hb) (fun e => by have h1 : X + 1 ≤ b := hb.elim (hS.out b) (fun h => own_base hG.own (Nat.le_refl _) b h); unfold only at e; omega))
             have S9 := Nat.le_trans hXs ht5.size
             clear hR hX hA hB hG hXs ht5
             have hR := h5
             have hX := X9
             have hA := A9
             have hB := B9
             have hG := G9
             have hXs := S9
             clear h5 X9 A9 B9 G9 S9
             have HF9 := Lib.hid (HPlB.out HBAD.out)
             have HST9 : Hid (DState L RES1 P true ds m yp) := Lib.hid (by obtain ⟨r, h1, h2⟩ := HF9.out; rw [Hy.out] at h2; exact .off yp r hyp.1 hyp.2 h1 h2)
             go_roundg (L.length - (m + 1))
             case rel => exact ⟨m, yp, P, true, ds, dv, xs, Sd, fun h => by omega, rfl, hR, hX, hA, hB, hG, hS, hm, HST9, hXs, fun h => by omega⟩
             case measure => omega
         · have hd9 : decide (yk = 9) = false := by simp [h9]
           rw [hd9] at HT9
           simp only [Bool.false_eq_true, if_false] at HT9
           by_cases h5 : yk = 5
           · cases b with
             | false =>
               have hd5 : decide (yk = 5) = true := by simp [h5]
               rw [hd5] at HT5
               simp only [if_true] at HT5
               have hm1 := HNx.out (by rw [Hy.out]; simp only; omega)
               have H5 : Hid ((wAt L m).kind = 5) := Lib.hid (by rw [Hy.out]; exact h5)
               replace HBd := Lib.hid (HBd.out H5.out)
               replace HOk := Lib.hid (HOk.out H5.out)
               replace HDc := Lib.hid (HDc.out hm1)
               clear h5 h9 hd5 HPro HPro2 HNone HPlB HFl
               go_upto_region 14 with (first | (go_at_call 57; (with_reducible refine (HT9.out _ HR3).mono ?_); rintro e V4a ⟨rfl, h4a, ht4a⟩) | (go_at_call 57; (with_reducible refine (HT5.out _ h4a).mono ?_); rintro e V4 ⟨rfl, h4, ht4b⟩))
               have ht4 := ht4a.trans ht4b (fun _ _ h => h)
               have N4 := ht4.heap hN (show ¬ only A NN from hNa)
               have X9 := ht4.heap hX (show ¬ only A X from Nat.ne_of_gt hAX)
               have A9 := ht4.heap hA (show ¬ only A w.heap.size from Nat.ne_of_lt hwA)
               have B9 := ht4.to_below hB hB.size (fun b h => by unfold only at h; omega)
               have G9 := hG.keep (w' := V4) (fun b hb => ht4.block b (hG.lt b hb) (fun e => by have h1 : X + 1 ≤ b := hb.elim (hS.out b) (fun h => own_base hG.own (Nat.le_refl _) b h); unfold only at e; omega))
               have S9 := Nat.le_trans hXs ht4.size
               clear hR hX hA hB hG hXs ht4
               have hR := h4
               have hX := X9
               have hA := A9
               have hB := B9
               have hG := G9
               have hXs := S9
               clear h4 X9 A9 B9 G9 S9
               obtain ⟨n0, n1, n2, _⟩ := box3 N4
               have hown := hG.own
               have hne : some X ≠ dv.ownBlock := fun h => by have := own_base hown (Nat.le_refl _) X h.symm; omega
               have x1 : V4.cell? ⟨X, 1, none⟩ = some dv := cell_of_row _ _ 1 _ _ _ hX
               have HC4 := Lib.hid (HDc.out V4.drew (hR.ahead (Below.refl _ _).drew))
               obtain ⟨i0, hi, iz0, iz1, iz2⟩ := rd_info rdInfoDecl
               have HH := Lib.hid (And.intro hR (And.intro hX (And.intro hA (And.intro hB (And.intro hG hXs)))))
               clear hR hA hB
               unfold Wd.agg8 at HC4
               go_region_law (first
                | (go_simp; go_at_call 58; (with_reducible refine HC4.out.mono ?_); rintro e w9 ⟨⟨dk, dt, dy, dp⟩, q, bd, dva, dvn, dvc, S9, rfl, hF9, hSb9, hq9, hR9, ht9, hor⟩;
                    have D9 := ht9.heap hX (show ¬ only A X from Nat.ne_of_gt hAX);
                    have g9 : GrowL (X + 1) 65 4 dcR Sd w9 dv xs ds := hG.keep (fun b hb => ht9.block b (hG.lt b hb) (fun e => by have h1 : X + 1 ≤ b := hb.elim (hS.out b) (fun h => own_base hown (Nat.le_refl _) b h); unfold only at e; omega));
                    have c9 : w9.cell? ⟨X, 1, none⟩ = some dv := cell_of_row _ _ 1 _ _ _ D9;
                    have s9 : X + 1 ≤ w9.heap.size := Nat.le_trans hXs ht9.size;
                    have a9 := rdCell_alloc c9 (.cells #[.int .i64 dk, .string dt, .slice dva dvn dvc, .int .i64 dp] 65);
                    have l9 : w9.heap.size < (w9.alloc (.cells #[.int .i64 dk, .string dt, .slice dva dvn dvc, .int .i64 dp] 65)).heap.size := by simp)
                | (refine step_append_lies _ (by rfl) _ _ _ (by rfl) (X + 1) 65 i0 (.agg #[.int .i64 0, .string ByteArray.empty, .slice none 0 0, .int .i64 0]) 4 56 Tryz.underlying33 hi iz0 iz1 iz2 rfl (by omega) dv ds.length xs (by rfl) (g9.own.alloc _)
                    ⟨w9.heap.size, 0, none⟩ 1 1 [.int .i64 dk, .string dt, .slice dva dvn dvc, .int .i64 dp] (by rfl) (by rfl) (rd_news w9 _ _) (by simp [Value.oneCell'])
                    (by omega) (by unfold maxLen; omega) (by omega) (by simp; omega) (w9.heap.size + 1) (by simp) ?_;
                   intro gg2 cap w5 hown5 hgrow5 hat hlt5;
                   have f5 : w5.cell? ⟨X, 1, none⟩ = some dv := hgrow5.cell a9 hne;
                   have r5 : w5.frozen? ⟨X, 1, none⟩ = false := (hgrow5.frozen_far ⟨X, 1, none⟩ (show X < (w9.alloc _).heap.size from by simp; omega) hne).trans (free_of_block (heap_keep _ _ D9))))
               all_goals
                go_wp2_with fail
                obtain ⟨hR0, hX0, hA0, hB0, hG0, hXs0⟩ := HH.out
                have k9 := (Below.refl w9.heap.size w9).alloc (Nat.le_refl _) (.cells #[.int .i64 dk, .string dt, .slice dva dvn dvc, .int .i64 dp] 65)
                have hA9 := ht9.heap hA0 (show ¬ only A w.heap.size from Nat.ne_of_lt hwA)
                have hB9 := ht9.to_below hB0.drew hB0.size (fun b h => by unfold only at h; omega)
                have hwX : w.heap.size ≤ X := by omega
                have hpu := GrowL.box (j := 1) (B := X) (x := (⟨dk, dt, dy, dp⟩ : Dc)) (cs := [.int .i64 dk, .string dt, .slice dva dvn dvc, .int .i64 dp]) (R := dcR) (g9.below k9) (Below.refl _ _) hown5 hgrow5 (own_new hat (by simp)) rfl
                 (Firm.imp (hF9.below k9) (fun w' hw' => ⟨.slice dva dvn dvc, rfl, hw'⟩)) (fun k hk h => by have h1 := (hG0.own.lt k hk).2; have h2 : V4.heap.size ≤ k := hSb9 k h; omega) (Nat.lt_succ_self X) (heap_keep _ _ D9)
                 (fun b hb => by rcases hb with hb | hb; (have := hS.out b hb; omega); (have h2 : V4.heap.size ≤ b := hSb9 b hb; omega))
                have hbl := hpu.2.2.1 X (Nat.le_refl _)
                have hR5 := (hR9.ahead k9).far hbl hAX (Nat.le_trans HI.out.lt (Nat.le_of_lt hAX))
                have hA5 := (hbl.block w.heap.size (by omega)).trans (heap_keep _ _ hA9)
                have hB5 := (hB9.trans (k9.mono hB9.size)).trans (hbl.mono hwX)
                have hs5 : X + 1 ≤ (w5.setCell ⟨X, 1, none⟩ (.slice (some ⟨gg2, 0, none⟩) (ds.length + 1) cap)).heap.size := by have := hbl.size; simp at this ⊢; omega
                have HS5 : Hid (∀ b, (Sd b ∨ S9 b) → X + 1 ≤ b) := Lib.hid (fun b hb => by rcases hb with hb | hb; (exact hS.out b hb); (have h2 : V4.heap.size ≤ b := hSb9 b hb; omega))
                have HST9 : Hid (DState L RES1 P false (ds ++ [⟨dk, dt, dy, dp⟩]) q bd) := Lib.hid (by
                 rcases hor with ⟨h1, h2, h3, h4⟩ | ⟨h1, h2, h3⟩
                 · subst h1; exact .on (HOk.out h3 _ _ h4)
                 · obtain ⟨r, h4, h5⟩ := HBd.out _ h3
                   exact .off bd r h1 h2 h4 h5)
                have hq5 : bd = -1 → m < q := fun h => by rcases hor with ⟨_, h2, _⟩ | ⟨h1, _⟩; exact h2; omega
                clear hor hR0 hX0 hA0 hB0 hG0 hXs0 k9 hA9 hB9 hbl D9 g9 c9 s9 a9 l9 f5 r5 hown5 hgrow5 hF9 hSb9 hR9 ht9
                go_roundg (L.length - (m + 1))
                case rel => exact ⟨q, bd, P, false, _, _, _, _, fun h => by have := hq5 h; omega, rfl, hR5, hpu.2.1, hA5, hB5, hpu.1, HS5, hq9, HST9, hs5, fun h => by have := hq5 h; simp; omega⟩
                case measure => omega
             | true =>
               have hd5 : decide (yk = 5) = true := by simp [h5]
               rw [hd5] at HT5
               simp only [if_true] at HT5
               have hm1 := HNx.out (by rw [Hy.out]; simp only; omega)
               have H5 : Hid ((wAt L m).kind = 5) := Lib.hid (by rw [Hy.out]; exact h5)
               replace HBd := Lib.hid (HBd.out H5.out)
               replace HOk := Lib.hid (HOk.out H5.out)
               replace HDc := Lib.hid (HDc.out hm1)
               clear h5 h9 hd5 HPro HPro2 HNone HPlB HFl
               go_upto_region 14 with (first | (go_at_call 57; (with_reducible refine (HT5.out _ HR3).mono ?_); rintro e V4 ⟨rfl, h4, ht4⟩))
               have N4 := ht4.heap hN (show ¬ only A NN from hNa)
               have X9 := ht4.heap hX (show ¬ only A X from Nat.ne_of_gt hAX)
               have A9 := ht4.heap hA (show ¬ only A w.heap.size from Nat.ne_of_lt hwA)
               have B9 := ht4.to_below hB hB.size (fun b h => by unfold only at h; omega)
               have G9 := hG.keep (w' := V4) (fun b hb => ht4.block b (hG.lt b hb) (fun e => by have h1 : X + 1 ≤ b := hb.elim (hS.out b) (fun h => own_base hG.own (Nat.le_refl _) b h); unfold only at e; omega))
               have S9 := Nat.le_trans hXs ht4.size
               clear hR hX hA hB hG hXs ht4
               have hR := h4
               have hX := X9
               have hA := A9
               have hB := B9
               have hG := G9
               have hXs := S9
               clear h4 X9 A9 B9 G9 S9
               obtain ⟨n0, n1, n2, _⟩ := box3 N4
               have hown := hG.own
               have hne : some X ≠ dv.ownBlock := fun h => by have := own_base hown (Nat.le_refl _) X h.symm; omega
               have x1 : V4.cell? ⟨X, 1, none⟩ = some dv := cell_of_row _ _ 1 _ _ _ hX
               have HC4 := Lib.hid (HDc.out V4.drew (hR.ahead (Below.refl _ _).drew))
               obtain ⟨i0, hi, iz0, iz1, iz2⟩ := rd_info rdInfoDecl
               have HH := Lib.hid (And.intro hR (And.intro hX (And.intro hA (And.intro hB (And.intro hG hXs)))))
               clear hR hA hB
               unfold Wd.agg8 at HC4
               go_region_law (first
                | (go_simp; go_at_call 58; (with_reducible refine HC4.out.mono ?_); rintro e w9 ⟨⟨dk, dt, dy, dp⟩, q, bd, dva, dvn, dvc, S9, rfl, hF9, hSb9, hq9, hR9, ht9, hor⟩;
                    have D9 := ht9.heap hX (show ¬ only A X from Nat.ne_of_gt hAX);
                    have g9 : GrowL (X + 1) 65 4 dcR Sd w9 dv xs ds := hG.keep (fun b hb => ht9.block b (hG.lt b hb) (fun e => by have h1 : X + 1 ≤ b := hb.elim (hS.out b) (fun h => own_base hown (Nat.le_refl _) b h); unfold only at e; omega));
                    have c9 : w9.cell? ⟨X, 1, none⟩ = some dv := cell_of_row _ _ 1 _ _ _ D9;
                    have s9 : X + 1 ≤ w9.heap.size := Nat.le_trans hXs ht9.size;
                    have a9 := rdCell_alloc c9 (.cells #[.int .i64 dk, .string dt, .slice dva dvn dvc, .int .i64 dp] 65);
                    have l9 : w9.heap.size < (w9.alloc (.cells #[.int .i64 dk, .string dt, .slice dva dvn dvc, .int .i64 dp] 65)).heap.size := by simp)
                | (refine step_append_lies _ (by rfl) _ _ _ (by rfl) (X + 1) 65 i0 (.agg #[.int .i64 0, .string ByteArray.empty, .slice none 0 0, .int .i64 0]) 4 56 Tryz.underlying33 hi iz0 iz1 iz2 rfl (by omega) dv ds.length xs (by rfl) (g9.own.alloc _)
                    ⟨w9.heap.size, 0, none⟩ 1 1 [.int .i64 dk, .string dt, .slice dva dvn dvc, .int .i64 dp] (by rfl) (by rfl) (rd_news w9 _ _) (by simp [Value.oneCell'])
                    (by omega) (by unfold maxLen; omega) (by omega) (by simp; omega) (w9.heap.size + 1) (by simp) ?_;
                   intro gg2 cap w5 hown5 hgrow5 hat hlt5;
                   have f5 : w5.cell? ⟨X, 1, none⟩ = some dv := hgrow5.cell a9 hne;
                   have r5 : w5.frozen? ⟨X, 1, none⟩ = false := (hgrow5.frozen_far ⟨X, 1, none⟩ (show X < (w9.alloc _).heap.size from by simp; omega) hne).trans (free_of_block (heap_keep _ _ D9))))
               all_goals
                go_wp2_with fail
                obtain ⟨hR0, hX0, hA0, hB0, hG0, hXs0⟩ := HH.out
                have k9 := (Below.refl w9.heap.size w9).alloc (Nat.le_refl _) (.cells #[.int .i64 dk, .string dt, .slice dva dvn dvc, .int .i64 dp] 65)
                have hA9 := ht9.heap hA0 (show ¬ only A w.heap.size from Nat.ne_of_lt hwA)
                have hB9 := ht9.to_below hB0.drew hB0.size (fun b h => by unfold only at h; omega)
                have hwX : w.heap.size ≤ X := by omega
                have hpu := GrowL.box (j := 1) (B := X) (x := (⟨dk, dt, dy, dp⟩ : Dc)) (cs := [.int .i64 dk, .string dt, .slice dva dvn dvc, .int .i64 dp]) (R := dcR) (g9.below k9) (Below.refl _ _) hown5 hgrow5 (own_new hat (by simp)) rfl
                 (Firm.imp (hF9.below k9) (fun w' hw' => ⟨.slice dva dvn dvc, rfl, hw'⟩)) (fun k hk h => by have h1 := (hG0.own.lt k hk).2; have h2 : V4.heap.size ≤ k := hSb9 k h; omega) (Nat.lt_succ_self X) (heap_keep _ _ D9)
                 (fun b hb => by rcases hb with hb | hb; (have := hS.out b hb; omega); (have h2 : V4.heap.size ≤ b := hSb9 b hb; omega))
                have hbl := hpu.2.2.1 X (Nat.le_refl _)
                have hR5 := (hR9.ahead k9).far hbl hAX (Nat.le_trans HI.out.lt (Nat.le_of_lt hAX))
                have hA5 := (hbl.block w.heap.size (by omega)).trans (heap_keep _ _ hA9)
                have hB5 := (hB9.trans (k9.mono hB9.size)).trans (hbl.mono hwX)
                have hs5 : X + 1 ≤ (w5.setCell ⟨X, 1, none⟩ (.slice (some ⟨gg2, 0, none⟩) (ds.length + 1) cap)).heap.size := by have := hbl.size; simp at this ⊢; omega
                have HS5 : Hid (∀ b, (Sd b ∨ S9 b) → X + 1 ≤ b) := Lib.hid (fun b hb => by rcases hb with hb | hb; (exact hS.out b hb); (have h2 : V4.heap.size ≤ b := hSb9 b hb; omega))
                have HST9 : Hid (DState L RES1 P true (ds ++ [⟨dk, dt, dy, dp⟩]) q bd) := Lib.hid (by
                 rcases hor with ⟨h1, h2, h3, h4⟩ | ⟨h1, h2, h3⟩
                 · subst h1; exact .on (HOk.out h3 _ _ h4)
                 · obtain ⟨r, h4, h5⟩ := HBd.out _ h3
                   exact .off bd r h1 h2 h4 h5)
                have hq5 : bd = -1 → m < q := fun h => by rcases hor with ⟨_, h2, _⟩ | ⟨h1, _⟩; exact h2; omega
                clear hor hR0 hX0 hA0 hB0 hG0 hXs0 k9 hA9 hB9 hbl D9 g9 c9 s9 a9 l9 f5 r5 hown5 hgrow5 hF9 hSb9 hR9 ht9
                go_roundg (L.length - (m + 1))
                case rel => exact ⟨q, bd, P, true, _, _, _, _, fun h => by have := hq5 h; omega, rfl, hR5, hpu.2.1, hA5, hB5, hpu.1, HS5, hq9, HST9, hs5, fun h => by have := hq5 h; simp; omega⟩
                case measure => omega
           · have hd5 : decide (yk = 5) = false := by simp [h5]
             rw [hd5] at HT5
             simp only [Bool.false_eq_true, if_false] at HT5
             have HBAD : Hid (RES1 = .bad (L.drop m)) := Lib.hid (HNone.out H7.out (by rw [Hy.out]; exact h9) (by rw [Hy.out]; exact h5))
             clear h9 h5 hd9 hd5 HDc HPro HPro2 HNone HBd HOk
             cases b with
             | false =>
               go_upto_region 9 with (first | (go_at_call 57; (with_reducible refine (HT9.out _ HR3).mono ?_); rintro e V4a ⟨rfl, h4a, ht4a⟩) | (go_at_call 57; (with_reducible refine (HT5.out _ h4a).mono ?_); rintro e V4 ⟨rfl, h4, ht4⟩))
               clear HR3
               have X9 := ht4a.heap hX (show ¬ only A X from Nat.ne_of_gt hAX)
               have A9 := ht4a.heap hA (show ¬ only A w.heap.size from Nat.ne_of_lt hwA)
               have B9 := ht4a.to_below hB hB.size (fun b h => by unfold only at h; omega)
               have G9 := hG.keep (w' := V4a) (fun b hb => ht4a.block b (hG.lt b hb) (fun e => by have h1 : X + 1 ≤ b := hb.elim (hS.out b) (fun h => own_base hG.own (Nat.le_refl _) b h); unfold only at e; omega))
               have S9 := Nat.le_trans hXs ht4a.size
               clear hR hX hA hB hG hXs ht4a
               have hR := h4a
               have hX := X9
               have hA := A9
               have hB := B9
               have hG := G9
               have hXs := S9
               clear h4a X9 A9 B9 G9 S9
               have X9 := ht4.heap hX (show ¬ only A X from Nat.ne_of_gt hAX)
               have A9 := ht4.heap hA (show ¬ only A w.heap.size from Nat.ne_of_lt hwA)
               have B9 := ht4.to_below hB hB.size (fun b h => by unfold only at h; omega)
               have G9 := hG.keep (w' := V4) (fun b hb => ht4.block b (hG.lt b hb) (fun e => by have h1 : X + 1 ≤ b := hb.elim (hS.out b) (fun h => own_base hG.own (Nat.le_refl _) b h); unfold only at e; omega))
               have S9 := Nat.le_trans hXs ht4.size
               clear hR hX hA hB hG hXs ht4
               have hR := h4
               have hX := X9
               have hA := A9
               have hB := B9
               have hG := G9
               have hXs := S9
               clear h4 X9 A9 B9 G9 S9
               have HFl4 := Lib.hid (HFl.out _ hR)
               go_wp2_with (first | (go_at_call 59; (with_reducible refine HFl4.out.mono ?_); rintro e V5 ⟨rfl, h5, ht5⟩))
               have X9 := ht5.heap hX (show ¬ only A X from Nat.ne_of_gt hAX)
               have A9 := ht5.heap hA (show ¬ only A w.heap.size from Nat.ne_of_lt hwA)
               have B9 := ht5.to_below hB hB.size (fun b h => by unfold only at h; omega)
               have G9 := hG.keep (w' := V5) (fun b hb => ht5.block b (hG.lt b hb) (fun e => by have h1 : X + 1 ≤ b := hb.elim (hS.out b) (fun h => own_base hG.own (Nat.le_refl _) b h); unfold only at e; omega))
               have S9 := Nat.le_trans hXs ht5.size
               clear hR hX hA hB hG hXs ht5
               have hR := h5
               have hX := X9
               have hA := A9
               have hB := B9
               have hG := G9
               have hXs := S9
               clear h5 X9 A9 B9 G9 S9
               have HF9 := Lib.hid (HPlB.out HBAD.out)
               have HST9 : Hid (DState L RES1 P false ds m yp) := Lib.hid (by obtain ⟨r, h1, h2⟩ := HF9.out; rw [Hy.out] at h2; exact .off yp r hyp.1 hyp.2 h1 h2)
               go_roundg (L.length - (m + 1))
               case rel => exact ⟨m, yp, P, false, ds, dv, xs, Sd, fun h => by omega, rfl, hR, hX, hA, hB, hG, hS, hm, HST9, hXs, fun h => by omega⟩
               case measure => omega
             | true =>
               clear HT9
               go_upto_region 9 with (first | (go_at_call 57; (with_reducible refine (HT5.out _ HR3).mono ?_); rintro e V4 ⟨rfl, h4, ht4⟩))
               clear HR3
               have X9 := ht4.heap hX (show ¬ only A X from Nat.ne_of_gt hAX)
               have A9 := ht4.heap hA (show ¬ only A w.heap.size from Nat.ne_of_lt hwA)
               have B9 := ht4.to_below hB hB.size (fun b h => by unfold only at h; omega)
               have G9 := hG.keep (w' := V4) (fun b hb => ht4.block b (hG.lt b hb) (fun e => by have h1 : X + 1 ≤ b := hb.elim (hS.out b) (fun h => own_base hG.own (Nat.le_refl _) b h); unfold only at e; omega))
               have S9 := Nat.le_trans hXs ht4.size
               clear hR hX hA hB hG hXs ht4
               have hR := h4
               have hX := X9
               have hA := A9
               have hB := B9
               have hG := G9
               have hXs := S9
               clear h4 X9 A9 B9 G9 S9
               have HFl4 := Lib.hid (HFl.out _ hR)
               go_wp2_with (first | (go_at_call 59; (with_reducible refine HFl4.out.mono ?_); rintro e V5 ⟨rfl, h5, ht5⟩))
               have X9 := ht5.heap hX (show ¬ only A X from Nat.ne_of_gt hAX)
               have A9 := ht5.heap hA (show ¬ only A w.heap.size from Nat.ne_of_lt hwA)
               have B9 := ht5.to_below hB hB.size (fun b h => by unfold only at h; omega)
               have G9 := hG.keep (w' := V5) (fun b hb => ht5.block b (hG.lt b hb) (fun e => by have h1 : X + 1 ≤ b := hb.elim (hS.out b) (fun h => own_base hG.own (Nat.le_refl _) b h); unfold only at e; omega))
               have S9 := Nat.le_trans hXs ht5.size
               clear hR hX hA hB hG hXs ht5
               have hR := h5
               have hX := X9
               have hA := A9
               have hB := B9
               have hG := G9
               have hXs := S9
               clear h5 X9 A9 B9 G9 S9
               have HF9 := Lib.hid (HPlB.out HBAD.out)
               have HST9 : Hid (DState L RES1 P true ds m yp) := Lib.hid (by obtain ⟨r, h1, h2⟩ := HF9.out; rw [Hy.out] at h2; exact .off yp r hyp.1 hyp.2 h1 h2)
               go_roundg (L.length - (m + 1))
               case rel => exact ⟨m, yp, P, true, ds, dv, xs, Sd, fun h => by omega, rfl, hR, hX, hA, hB, hG, hS, hm, HST9, hXs, fun h => by omega⟩
               case measure => omega
     · have hlt : decide (bd < 0) = false := by simp; omega
       have HF9 : Hid (bd = -1 → (wAt L m).kind = 7) := Lib.hid (fun h => by omega)
       clear o1 o2 o3 o4 hgg hdl
       go_wp2_with fail
       go_meet
       case rel => exact ⟨m, bd, P, b, ds, dv, xs, Sd, hR, hX, hA, hB, hG, hS, hm, HST, hXs, HF9.out⟩
   case rest =>
    clear hR3 hX3 a3 hB3 HST hsX
    obtain ⟨m, bd, P, b, ds, dv, xs, Sd, hR, hX, hA, hB, hG, hS, hm, HST, hXs, hk7⟩ := hcut
    rename World => V
    obtain ⟨da, dc, rfl⟩ := rd_slice hG.own
    have hF := hG.firm (by omega)
    have HSD0 : Hid (∀ b, (Sd b ∨ (Value.slice da ds.length dc).ownBlock = some b) → X + 1 ≤ b) := Lib.hid (fun b hb => hb.elim (hS.out b) (fun h => own_base hG.own (Nat.le_refl _) b h))
    clear hS hG
    have HT7 := Lib.hid (rtake_any HI.out hR hm 7 ⟨#[]⟩)
    have HK7 := Lib.hid hk7
    clear hk7
    go_upto_region 15 with fail
    go_cut [] from 63 to 64 (fun wx => ∃ (m : Nat) (bd : Int), RfAt w1 wx A (.slice va vn vc) m bd ∧ wx.heap[X]? = some (.cells #[.string P, .slice da ds.length dc, .slice none 0 0, .string ⟨#[]⟩] 36 (0, 0)) ∧ wx.heap[w.heap.size]? = some (.cells #[.string ⟨#[]⟩, .slice none 0 0, .slice none 0 0, .string ⟨#[]⟩] 36 (0, 0)) ∧ Below w.heap.size w wx ∧ Firm (fun b => Sd b ∨ (Value.slice da ds.length dc).ownBlock = some b) wx (fun Y => DcsV Y (.slice da ds.length dc) ds) ∧ m < L.length ∧ Hid (LState L RES P ds [] m bd) ∧ X + 1 ≤ wx.heap.size)
    case first =>
     have HNx : Hid ((wAt L m).kind ≠ 10 → m + 1 < L.length) := Lib.hid (fun e => HI.out.ok.next hm e)
     rcases HST.out with hon | ⟨_, r, o1, o2, o3, o4⟩
     · have h7 := HK7.out rfl
       have hm1 := HNx.out (by omega)
       have HL1 : Hid (LState L RES P ds [] (m + 1) (-1)) := Lib.hid (by
        have e1 := hon.symm.trans (decls_mark hm h7)
        exact .on (rulesS [] (L.drop (m + 1))) (fun _ => rfl) (fun h => absurd rfl h.1) (fun r2 h => hgR.out P ds _ r2 e1 h) (fun l r2 h => hgO.out P ds _ l r2 e1 h))
       rw [isB_open] at HT7
       have hd7 : decide ((wAt L m).kind = 7) = true := by simp [h7]
       rw [hd7, if_pos rfl] at HT7
       clear hon h7 hd7
       go_wp2_with (first | (go_at_call 57; (with_reducible refine HT7.out.mono ?_); rintro e V1 ⟨rfl, h1, ht1⟩))
       have X9 := ht1.heap hX (show ¬ only A X from Nat.ne_of_gt hAX)
       have A9 := ht1.heap hA (show ¬ only A w.heap.size from Nat.ne_of_lt hwA)
       have B9 := ht1.to_below hB hB.size (fun b h => by unfold only at h; omega)
       have F9 := hF.keep (w' := V1) (fun b hb => ht1.block b (hF.1 b hb) (fun e => by have := HSD0.out b hb; unfold only at e; omega))
       have S9 := Nat.le_trans hXs ht1.size
       go_meet
       case rel => exact ⟨m + 1, -1, h1, X9, A9, B9, F9, hm1, HL1, S9⟩
     · have HL1 : Hid (LState L RES P ds [] m bd) := Lib.hid (.off bd o1 o2 (by rw [hgD.out r o3, o4]))
       rw [isB_shut o1] at HT7
       simp only [Bool.false_eq_true, if_false] at HT7
       clear o1 o2 o3 o4
       go_wp2_with (first | (go_at_call 57; (with_reducible refine HT7.out.mono ?_); rintro e V1 ⟨rfl, h1, ht1⟩))
       have X9 := ht1.heap hX (show ¬ only A X from Nat.ne_of_gt hAX)
       have A9 := ht1.heap hA (show ¬ only A w.heap.size from Nat.ne_of_lt hwA)
       have B9 := ht1.to_below hB hB.size (fun b h => by unfold only at h; omega)
       have F9 := hF.keep (w' := V1) (fun b hb => ht1.block b (hF.1 b hb) (fun e => by have := HSD0.out b hb; unfold only at e; omega))
       have S9 := Nat.le_trans hXs ht1.size
       go_meet
       case rel => exact ⟨m, bd, h1, X9, A9, B9, F9, hm, HL1, S9⟩
    case rest =>
     clear hR hX hA hB hF hXs HT7 HK7 HST hm hgD hgR hgO
     obtain ⟨m, bd, hR, hX, hA, hB, hF, hm, HST, hXs⟩ := hcut
     rename World => V
     generalize hSDe : (fun b => Sd b ∨ (Value.slice da ds.length dc).ownBlock = some b) = SD at hF
     have HSD : Hid (∀ b, SD b → X + 1 ≤ b ∧ b < V.heap.size) := Lib.hid (fun b hb => ⟨by rw [← hSDe] at hb; exact HSD0.out b hb, hF.1 b hb⟩)
     clear hSDe HSD0
     generalize hBB : V.heap.size = BB at hXs HSD
     have hBs : BB ≤ V.heap.size := by omega
     clear hBB
     go_upto_block 3 with fail
     go_cut [] from 65 to 124 (fun wx => ∃ (m : Nat) (bd : Int) (rs : List Rl) (rv : Value) (ys : List Value) (Sr : Nat → Prop), RfAt w1 wx A (.slice va vn vc) m bd ∧ wx.heap[X]? = some (.cells #[.string P, .slice da ds.length dc, rv, .string ⟨#[]⟩] 36 (0, 0)) ∧ wx.heap[w.heap.size]? = some (.cells #[.string ⟨#[]⟩, .slice none 0 0, .slice none 0 0, .string ⟨#[]⟩] 36 (0, 0)) ∧ Below w.heap.size w wx ∧ Firm SD wx (fun Y => DcsV Y (.slice da ds.length dc) ds) ∧ m < L.length ∧ Hid (LState L RES P ds rs m bd) ∧ GrowL BB 57 3 rlR Sr wx rv ys rs ∧ Hid (∀ b, Sr b → BB ≤ b) ∧ BB ≤ wx.heap.size ∧ (bd = -1 → rs ≠ [] ∧ (wAt L m).kind = 10))
     case first =>
      go_wp2_with fail
      go_loopg [] L.length (fun gg V => ∃ (m : Nat) (bd : Int) (rs : List Rl) (rv : Value) (ys : List Value) (Sr : Nat → Prop), RfAt w1 V A (.slice va vn vc) m bd ∧ V.heap[X]? = some (.cells #[.string P, .slice da ds.length dc, rv, .string ⟨#[]⟩] 36 (0, 0)) ∧ V.heap[w.heap.size]? = some (.cells #[.string ⟨#[]⟩, .slice none 0 0, .slice none 0 0, .string ⟨#[]⟩] 36 (0, 0)) ∧ Below w.heap.size w V ∧ Firm SD V (fun Y => DcsV Y (.slice da ds.length dc) ds) ∧ m < L.length ∧ Hid (LState L RES P ds rs m bd) ∧ GrowL BB 57 3 rlR Sr V rv ys rs ∧ Hid (∀ b, Sr b → BB ≤ b) ∧ BB ≤ V.heap.size ∧ (bd = -1 → L.length ≤ m + gg) ∧ (bd = -1 → rs.length ≤ m))
      case atStart => exact ⟨m, bd, [], _, [], _, hR, hX, hA, hB, hF, hm, HST, GrowL.nil _ _ _ _ _, Lib.hid (fun _ h => h.elim), hBs, fun _ => by omega, fun _ => Nat.zero_le _⟩
      case round =>
       clear hR hX hA hB hF hm HST hBs
       obtain ⟨m, bd, rs, rv, ys, Sr, hR, hX, hA, hB, hF, hm, HST, hG, hS, hBs, hgg, hrl⟩ := hrel
       rename World => V
       obtain ⟨_, _, c2⟩ := hR.cells
       obtain ⟨rva, rvc, rfl⟩ := rd_slice hG.own
       have x2 : V.cell? ⟨X, 2, none⟩ = some (.slice rva rs.length rvc) := cell_of_row _ _ 2 _ _ _ hX
       have HSTX := Lib.hid HST.out
       rcases HST.out with ⟨RES2, r1, r2, r3, r4⟩ | ⟨_, o1, o2, o3⟩
       · replace hgg := hgg rfl
         replace hrl := hrl rfl
         have HC1 := Lib.hid r1
         have HC2 := Lib.hid r2
         have HC3 := Lib.hid r3
         have HC4 := Lib.hid r4
         have HIs := Lib.hid (is_any HI.out hR hm 10 ⟨#[]⟩)
         rw [isB_open] at HIs
         clear r1 r2 r3 r4 HST
         by_cases hex : rs ≠ [] ∧ (wAt L m).kind = 10
         · have HEX := Lib.hid hex
           have hl0 : (((rs.length : Nat) : Int) == 0) = false := by rw [beq_eq_false_iff_ne]; have := List.length_pos_iff.2 hex.1; omega
           have hd : decide ((wAt L m).kind = 10) = true := by simp [hex.2]
           rw [hd] at HIs
           clear hex hd HC1 HC2 HC3 HC4
           go_wp2_with (first | (go_at_call 55; (with_reducible refine HIs.out.mono ?_); rintro e V1 ⟨rfl, hv⟩))
           replace hR := hR.ahead hv
           replace hX := block_below hX hv (by omega)
           replace hA := block_below hA hv (by omega)
           replace hB := hB.trans (hv.mono hB.size)
           replace hF := hF.below hv
           replace hG := hG.below hv
           replace hBs := Nat.le_trans hBs hv.size
           go_meet
           case rel => exact ⟨m, -1, rs, _, ys, Sr, hR, hX, hA, hB, hF, hm, HSTX, hG, hS, hBs, fun _ => HEX.out⟩
         · have HCond : Hid (rs = [] ∨ (wAt L m).kind ≠ 10) := Lib.hid (by
            by_cases h : rs = []
            · exact .inl h
            · exact .inr (fun e => hex ⟨h, e⟩))
           have HE : Hid (rulesS rs (L.drop m) = RES2) := Lib.hid (HC1.out HCond.out)
           have HNw := Lib.hid (fun (W : World) (hW : RfAt w1 W A (.slice va vn vc) m (-1)) => now_any HI.out hW hm)
           have HBg := Lib.hid (fun (W : World) (hW : RfAt w1 W A (.slice va vn vc) m (-1)) => begins_any7 HI.out hW hm)
           have HT1 := Lib.hid (fun (W : World) (hW : RfAt w1 W A (.slice va vn vc) m (-1)) => rtake_any HI.out hW hm 1 ⟨#[]⟩)
           have HFl := Lib.hid (fun (n : Nat) (bd : Int) (W : World) (hn : n < L.length) (hb : bd = -1 ∨ 0 ≤ bd ∧ bd ≤ 100000) (hW : RfAt w1 W A (.slice va vn vc) n bd) => fail_any HI.out hW hn hb)
           rw [isB_open] at HT1
           have HNx : Hid ((wAt L m).kind ≠ 10 → m + 1 < L.length) := Lib.hid (fun e => HI.out.ok.next hm e)
           have HPl : Hid (∀ n, n < L.length → 0 ≤ (wAt L n).place ∧ (wAt L n).place ≤ 100000) := Lib.hid (fun n hn => HI.out.ok.place _ (wAt_mem hn))
           have HBad : Hid (∀ r, ruleS (L.drop m) = .bad r → RES = (noSo, 2, (hdW r).place)) := Lib.hid (fun r h => HC3.out r (HE.out.symm.trans (rules_bad h)))
           clear hex HC1 HC2
           go_upto_region 16 with fail
           go_cut [80] from 65 to 80 (fun x80 wx => x80 = .bool true ∧ RfAt w1 wx A (.slice va vn vc) m (-1) ∧ wx.heap[X]? = some (.cells #[.string P, .slice da ds.length dc, .slice rva rs.length rvc, .string ⟨#[]⟩] 36 (0, 0)) ∧ wx.heap[w.heap.size]? = some (.cells #[.string ⟨#[]⟩, .slice none 0 0, .slice none 0 0, .string ⟨#[]⟩] 36 (0, 0)) ∧ Below w.heap.size w wx ∧ Firm SD wx (fun Y => DcsV Y (.slice da ds.length dc) ds) ∧ GrowL BB 57 3 rlR Sr wx (.slice rva rs.length rvc) ys rs ∧ BB ≤ wx.heap.size)
           case first =>
            by_cases h0 : rs = []
            · have hl0 : (((rs.length : Nat) : Int) == 0) = true := by simp [h0]
              clear HCond HIs HNw HBg HT1 HFl HNx HPl HBad h0
              go_wp2_with fail
              go_meet
              case rel => exact ⟨rfl, hR, hX, hA, hB, hF, hG, hBs⟩
            · have hl0 : (((rs.length : Nat) : Int) == 0) = false := by rw [beq_eq_false_iff_ne]; have := List.length_pos_iff.2 h0; omega
              have hd : decide ((wAt L m).kind = 10) = false := by simp; exact HCond.out.resolve_left h0
              rw [hd] at HIs
              clear HCond HNw HBg HT1 HFl HNx HPl HBad h0 hd
              go_wp2_with (first | (go_at_call 55; (with_reducible refine HIs.out.mono ?_); rintro e V1 ⟨rfl, hv⟩))
              replace hR := hR.ahead hv
              replace hX := block_below hX hv (by omega)
              replace hA := block_below hA hv (by omega)
              replace hB := hB.trans (hv.mono hB.size)
              replace hF := hF.below hv
              replace hG := hG.below hv
              replace hBs := Nat.le_trans hBs hv.size
              go_meet
              case rel => exact ⟨rfl, hR, hX, hA, hB, hF, hG, hBs⟩
           case rest =>
            clear hR hX hA hB hF hG hBs HIs x2 c2
            obtain ⟨rfl, hR, hX, hA, hB, hF, hG, hBs⟩ := hcut
            rename World => V
            have HNw1 := Lib.hid (HNw.out _ hR)
            obtain ⟨⟨yk, yt, yp⟩, hy⟩ : ∃ y, wAt L m = y := ⟨_, rfl⟩
            have Hy := Lib.hid hy
            rw [hy] at HNw1
            unfold Wd.agg8 at HNw1
            simp only at HNw1
            clear hy
            go_upto_region 18 with (first | (go_at_call 56; (with_reducible refine HNw1.out.mono ?_); rintro e V2 ⟨rfl, hw2⟩))
            have hNB : BB ≤ V2.heap.size := Nat.le_trans hBs hw2.size
            have hv := hw2.alloc hw2.size (.cells #[.int .i64 yk, .string yt, .int .i64 yp] 42)
            have hN := heap_made V2 #[.int .i64 yk, .string yt, .int .i64 yp] 42 _ rfl
            replace hR := hR.ahead hv
            replace hX := block_below hX hv (by omega)
            replace hA := block_below hA hv (by omega)
            replace hB := hB.trans (hv.mono hB.size)
            replace hF := hF.below hv
            replace hG := hG.below hv
            replace hBs := Nat.le_trans hBs hv.size
            clear hv hw2 HNw1 HNw
            have hNs : V2.heap.size < (V2.alloc (.cells #[.int .i64 yk, .string yt, .int .i64 yp] 42)).heap.size := by simp
            generalize hNN : V2.heap.size = NN at hN hNs hNB ⊢
            clear hNN
            generalize V2.alloc (.cells #[.int .i64 yk, .string yt, .int .i64 yp] 42) = V3 at hR hX hA hB hF hG hBs hN hNs ⊢
            have HBg1 := Lib.hid (HBg.out _ hR)
            clear HBg
            obtain ⟨bg, hbg⟩ : ∃ x, begB3 (-1) L m = x := ⟨_, rfl⟩
            rw [hbg] at HBg1
            have HB := Lib.hid hbg
            clear hbg
            cases bg with
            | false =>
              have hk : Hid (¬ ((wAt L m).kind = 1 ∧ signB 58 (wAt L (m + 1)) = true)) := Lib.hid (fun h => by have h2 := (begB3_iff L m).2 h; rw [HB.out] at h2; cases h2)
              go_upto_region 19 with (first | (go_at_call 60; (with_reducible refine HBg1.out.mono ?_); rintro e V4 ⟨rfl, hv⟩))
              replace hR := hR.ahead hv
              replace hX := block_below hX hv (by omega)
              replace hA := block_below hA hv (by omega)
              replace hB := hB.trans (hv.mono hB.size)
              replace hF := hF.below hv
              replace hG := hG.below hv
              replace hBs := Nat.le_trans hBs hv.size
              clear hv HBg1
              have HT1a := Lib.hid (HT1.out _ hR)
              clear HT1
              by_cases h1 : (wAt L m).kind = 1
              · have hd1 : decide ((wAt L m).kind = 1) = true := by simp [h1]
                have hm1 := HNx.out (by omega)
                have HRb : Hid (RES = (noSo, 2, (wAt L (m + 1)).place)) := Lib.hid (HBad.out _ (rule_bad2 h1 (by
                 have h3 := hk.out
                 cases h : signB 58 (wAt L (m + 1)) with
                 | false => rfl
                 | true => exact absurd ⟨h1, h⟩ h3)))
                have hpl := HPl.out _ hm1
                rw [hd1, if_pos rfl] at HT1a
                have HFa := Lib.hid (fun (W : World) => HFl.out (m + 1) (-1) W hm1 (.inl rfl))
                have HFb := Lib.hid (fun (W : World) => HFl.out (m + 1) (wAt L (m + 1)).place W hm1 (.inr hpl))
                rw [badOr_open] at HFa
                rw [badOr_shut hpl.1] at HFb
                generalize (wAt L (m + 1)).place = pl at HRb hpl HFa HFb
                clear HFl HPl HBad HNx h1 hd1 hk HB HE HC3 HC4 HCond hN
                go_wp2_with (first | (go_at_call 57; (with_reducible refine HT1a.out.mono ?_); rintro e Va ⟨rfl, ha, hta⟩) | (go_at_call 59; (with_reducible refine (HFa.out _ ha).mono ?_); rintro e Vb ⟨rfl, hb, htb⟩) | (go_at_call 59; (with_reducible refine (HFb.out _ hb).mono ?_); rintro e Vc ⟨rfl, hc, htc⟩))
                have X9 := hta.heap hX (show ¬ only A X from Nat.ne_of_gt hAX)
                have A9 := hta.heap hA (show ¬ only A w.heap.size from Nat.ne_of_lt hwA)
                have B9 := hta.to_below hB hB.size (fun b h => by unfold only at h; omega)
                have F9 := hF.keep (w' := Va) (fun b hb => hta.block b (hF.1 b hb) (fun e => by have := (HSD.out b hb).1; unfold only at e; omega))
                have G9 := hG.keep (w' := Va) (fun b hb => hta.block b (hG.lt b hb) (fun e => by have h1 : BB ≤ b := hb.elim (hS.out b) (fun h => own_base hG.own (Nat.le_refl _) b h); unfold only at e; omega))
                have S9 := Nat.le_trans hBs hta.size
                clear hR hX hA hB hF hG hBs hta
                have hR := ha
                have hX := X9
                have hA := A9
                have hB := B9
                have hF := F9
                have hG := G9
                have hBs := S9
                clear ha X9 A9 B9 F9 G9 S9
                have X9 := htb.heap hX (show ¬ only A X from Nat.ne_of_gt hAX)
                have A9 := htb.heap hA (show ¬ only A w.heap.size from Nat.ne_of_lt hwA)
                have B9 := htb.to_below hB hB.size (fun b h => by unfold only at h; omega)
                have F9 := hF.keep (w' := Vb) (fun b hb => htb.block b (hF.1 b hb) (fun e => by have := (HSD.out b hb).1; unfold only at e; omega))
                have G9 := hG.keep (w' := Vb) (fun b hb => htb.block b (hG.lt b hb) (fun e => by have h1 : BB ≤ b := hb.elim (hS.out b) (fun h => own_base hG.own (Nat.le_refl _) b h); unfold only at e; omega))
                have S9 := Nat.le_trans hBs htb.size
                clear hR hX hA hB hF hG hBs htb
                have hR := hb
                have hX := X9
                have hA := A9
                have hB := B9
                have hF := F9
                have hG := G9
                have hBs := S9
                clear hb X9 A9 B9 F9 G9 S9
                have X9 := htc.heap hX (show ¬ only A X from Nat.ne_of_gt hAX)
                have A9 := htc.heap hA (show ¬ only A w.heap.size from Nat.ne_of_lt hwA)
                have B9 := htc.to_below hB hB.size (fun b h => by unfold only at h; omega)
                have F9 := hF.keep (w' := Vc) (fun b hb => htc.block b (hF.1 b hb) (fun e => by have := (HSD.out b hb).1; unfold only at e; omega))
                have G9 := hG.keep (w' := Vc) (fun b hb => htc.block b (hG.lt b hb) (fun e => by have h1 : BB ≤ b := hb.elim (hS.out b) (fun h => own_base hG.own (Nat.le_refl _) b h); unfold only at e; omega))
                have S9 := Nat.le_trans hBs htc.size
                clear hR hX hA hB hF hG hBs htc
                have hR := hc
                have hX := X9
                have hA := A9
                have hB := B9
                have hF := F9
                have hG := G9
                have hBs := S9
                clear hc X9 A9 B9 F9 G9 S9
                have HST9 : Hid (LState L RES P ds rs (m + 1) pl) := Lib.hid (.off pl hpl.1 hpl.2 HRb.out)
                go_meet
                case rel => exact ⟨m + 1, pl, rs, _, ys, Sr, hR, hX, hA, hB, hF, hm1, HST9, hG, hS, hBs, fun h => by omega⟩
              · have hd1 : decide ((wAt L m).kind = 1) = false := by simp [h1]
                have HRb : Hid (RES = (noSo, 2, (wAt L m).place)) := Lib.hid (HBad.out _ (rule_bad1 h1))
                have hpl := HPl.out _ hm
                rw [hd1] at HT1a
                simp only [Bool.false_eq_true, if_false] at HT1a
                have HFa := Lib.hid (fun (W : World) => HFl.out m (-1) W hm (.inl rfl))
                rw [badOr_open] at HFa
                generalize (wAt L m).place = pl at HRb hpl HFa
                clear HFl HPl HBad HNx h1 hd1 hk HB HE HC3 HC4 HCond hN
                go_wp2_with (first | (go_at_call 57; (with_reducible refine HT1a.out.mono ?_); rintro e Va ⟨rfl, ha, hta⟩) | (go_at_call 59; (with_reducible refine (HFa.out _ ha).mono ?_); rintro e Vb ⟨rfl, hb, htb⟩))
                have X9 := hta.heap hX (show ¬ only A X from Nat.ne_of_gt hAX)
                have A9 := hta.heap hA (show ¬ only A w.heap.size from Nat.ne_of_lt hwA)
                have B9 := hta.to_below hB hB.size (fun b h => by unfold only at h; omega)
                have F9 := hF.keep (w' := Va) (fun b hb => hta.block b (hF.1 b hb) (fun e => by have := (HSD.out b hb).1; unfold only at e; omega))
                have G9 := hG.keep (w' := Va) (fun b hb => hta.block b (hG.lt b hb) (fun e => by have h1 : BB ≤ b := hb.elim (hS.out b) (fun h => own_base hG.own (Nat.le_refl _) b h); unfold only at e; omega))
                have S9 := Nat.le_trans hBs hta.size
                clear hR hX hA hB hF hG hBs hta
                have hR := ha
                have hX := X9
                have hA := A9
                have hB := B9
                have hF := F9
                have hG := G9
                have hBs := S9
                clear ha X9 A9 B9 F9 G9 S9
                have X9 := htb.heap hX (show ¬ only A X from Nat.ne_of_gt hAX)
                have A9 := htb.heap hA (show ¬ only A w.heap.size from Nat.ne_of_lt hwA)
                have B9 := htb.to_below hB hB.size (fun b h => by unfold only at h; omega)
                have F9 := hF.keep (w' := Vb) (fun b hb => htb.block b (hF.1 b hb) (fun e => by have := (HSD.out b hb).1; unfold only at e; omega))
                have G9 := hG.keep (w' := Vb) (fun b hb => htb.block b (hG.lt b hb) (fun e => by have h1 : BB ≤ b := hb.elim (hS.out b) (fun h => own_base hG.own (Nat.le_refl _) b h); unfold only at e; omega))
                have S9 := Nat.le_trans hBs htb.size
                clear hR hX hA hB hF hG hBs htb
                have hR := hb
                have hX := X9
                have hA := A9
                have hB := B9
                have hF := F9
                have hG := G9
                have hBs := S9
                clear hb X9 A9 B9 F9 G9 S9
                have HST9 : Hid (LState L RES P ds rs m pl) := Lib.hid (.off pl hpl.1 hpl.2 HRb.out)
                go_meet
                case rel => exact ⟨m, pl, rs, _, ys, Sr, hR, hX, hA, hB, hF, hm, HST9, hG, hS, hBs, fun h => by omega⟩
            | true =>
              have hk := (begB3_iff L m).1 HB.out
              have H1 := Lib.hid hk.1
              have H2 := Lib.hid hk.2
              have hm1 : m + 1 < L.length := HNx.out (by have := hk.1; omega)
              have hm2 : m + 2 < L.length := HI.out.ok.next hm1 (by have := hk.2; unfold signB at this; have := (decide_eq_true_iff.1 this).1; omega)
              have hmb : m < 100000 := by omega
              clear hk HB HT1 HFl HNx HPl HCond
              go_upto_region 22 with (first | (go_at_call 60; (with_reducible refine HBg1.out.mono ?_); rintro e V4 ⟨rfl, hv⟩))
              have hNs4 := Nat.lt_of_lt_of_le hNs hv.size
              replace hN := block_below hN hv hNs
              replace hR := hR.ahead hv
              replace hX := block_below hX hv (by omega)
              replace hA := block_below hA hv (by omega)
              replace hB := hB.trans (hv.mono hB.size)
              replace hF := hF.below hv
              replace hG := hG.below hv
              replace hBs := Nat.le_trans hBs hv.size
              clear hv HBg1 hNs
              obtain ⟨_, c1, _⟩ := hR.cells
              have f1 := hR.free 1
              go_upto_region 23 with fail
              obtain ⟨hR9, ht9⟩ := hR.move HI.out (m + 2)
              have hNA : NN ≠ A := by omega
              have hcast : ((m + 2 : Nat) : Int) = (m : Int) + 2 := by omega
              rw [hcast] at hR9 ht9
              replace hN := ht9.heap hN (show ¬ only A NN from hNA)
              have hNs5 := Nat.lt_of_lt_of_le hNs4 ht9.size
              have X9 := ht9.heap hX (show ¬ only A X from Nat.ne_of_gt hAX)
              have A9 := ht9.heap hA (show ¬ only A w.heap.size from Nat.ne_of_lt hwA)
              have B9 := ht9.to_below hB hB.size (fun b h => by unfold only at h; omega)
              have F9 := hF.keep (w' := (V4.setCell ⟨A, 1, none⟩ (.int .i64 ((m : Int) + 2)))) (fun b hb => ht9.block b (hF.1 b hb) (fun e => by have := (HSD.out b hb).1; unfold only at e; omega))
              have G9 := hG.keep (w' := (V4.setCell ⟨A, 1, none⟩ (.int .i64 ((m : Int) + 2)))) (fun b hb => ht9.block b (hG.lt b hb) (fun e => by have h1 : BB ≤ b := hb.elim (hS.out b) (fun h => own_base hG.own (Nat.le_refl _) b h); unfold only at e; omega))
              have S9 := Nat.le_trans hBs ht9.size
              clear hR hX hA hB hF hG hBs ht9
              have hR := hR9
              have hX := X9
              have hA := A9
              have hB := B9
              have hF := F9
              have hG := G9
              have hBs := S9
              clear hR9 X9 A9 B9 F9 G9 S9
              generalize (V4.setCell ⟨A, 1, none⟩ (.int .i64 ((m : Int) + 2))) = V5 at hR hX hA hB hF hG hBs hN hNs5 ⊢
              clear hNs4 c1 f1 hcast
              have HAl := Lib.hid (fun (W : World) (hW : RfAt w1 W A (.slice va vn vc) (m + 2) (-1)) => ralt_any HI.out hW hm2)
              unfold RAltGo at HAl
              go_cut [13] from 100 to 107 (fun x13 wx => AltMade w1 A (.slice va vn vc) L (m + 2) V5 yt yp x13 wx)
              case first =>
               obtain ⟨n0, n1, n2, nf0, nf1, nf2⟩ := box3 hN
               have hBA : V5.heap.size ≠ A := Nat.ne_of_gt hR.lt
               have hA0 : (V5.alloc (.cells #[.string ⟨#[]⟩, .slice none 0 0, .int .i64 0] 57)).drew.heap[V5.heap.size]? = some (.cells #[.string ⟨#[]⟩, .slice none 0 0, .int .i64 0] 57 (0, 0)) := heap_made V5 _ _ _ rfl
               have hA1 : ¬ only A V5.heap.size := hBA
               have n1a := rdCell_alloc n1 (.cells #[.string ⟨#[]⟩, .slice none 0 0, .int .i64 0] 57)
               have n2a := rdCell_alloc n2 (.cells #[.string ⟨#[]⟩, .slice none 0 0, .int .i64 0] 57)
               have hN1 : ¬ only A NN := hNA
               have HAlA := Lib.hid (HAl.out (V5.alloc (.cells #[.string ⟨#[]⟩, .slice none 0 0, .int .i64 0] 57)).drew (hR.ahead ((Below.refl _ _).alloc (Nat.le_refl _) _).drew))
               have HAlB := Lib.hid (HAl.out V5.drew (hR.ahead (Below.refl _ _).drew))
               clear HAl nf0 nf1 nf2 n0 hlo hhi hbn hpos hHL hL6 hww hAX HI hwA hXs HSD hm hS HSTX hgg hrl HC3 HC4 HE HBad Hy hNB H1 H2 hm1 hm2 hmb hNA hR hX hA hB hF hG hBs hNs5 hBA
               go_region_law (first
                | (go_simp; go_at_call 61; (with_reducible refine HAlA.out.mono ?_); rintro e V6 ⟨al, q, bd2, pva, pvn, pvc, Sa, rfl, hFa, hSa, hq, h6, ht6, hor⟩; unfold altV; have kN : V6.heap[NN]? = some (.cells #[.int .i64 yk, .string yt, .int .i64 yp] 42 (0, 0)) := ht6.heap (heap_keep V5 _ hN) hN1; have k1 : V6.cell? ⟨NN, 1, none⟩ = some (.string yt) := cell_of_row _ _ 1 _ _ _ kN; have k2 : V6.cell? ⟨NN, 2, none⟩ = some (.int .i64 yp) := cell_of_row _ _ 2 _ _ _ kN; have k1o : ∀ o, (V6.alloc o).cell? ⟨NN, 1, none⟩ = some (.string yt) := fun o => rdCell_alloc k1 o; have k2o : ∀ o, (V6.alloc o).cell? ⟨NN, 2, none⟩ = some (.int .i64 yp) := fun o => rdCell_alloc k2 o; have k1p : ∀ o o', ((V6.alloc o).alloc o').cell? ⟨NN, 1, none⟩ = some (.string yt) := fun o o' => rdCell_alloc (k1o o) o'; have k2p : ∀ o o', ((V6.alloc o).alloc o').cell? ⟨NN, 2, none⟩ = some (.int .i64 yp) := fun o o' => rdCell_alloc (k2o o) o'; have bx6 : V6.heap[V5.heap.size]? = some (.cells #[.string ⟨#[]⟩, .slice none 0 0, .int .i64 0] 57 (0, 0)) := ht6.heap hA0 hA1; have bx7 : (V6.alloc (.cells #[.slice pva pvn pvc, .string al.prec.name, .bool al.prec.lit, .int .i64 al.prec.num, .int .i64 al.prec.pos, .int .i64 al.pos] 62)).heap[V5.heap.size]? = some (.cells #[.string ⟨#[]⟩, .slice none 0 0, .int .i64 0] 57 (0, 0)) := heap_keep V6 _ bx6; obtain ⟨bc0, bc1, bc2, bf0, bf1, bf2⟩ := box3 bx7; clear bx6 bx7; have HM := Lib.hid (altMade_A (yt := yt) (yp := yp) hFa hSa hq h6 ht6 hor hA1); clear hFa hSa hq h6 ht6 hor kN)
                | (go_simp; go_at_call 61; (with_reducible refine HAlB.out.mono ?_); rintro e V6 ⟨al, q, bd2, pva, pvn, pvc, Sa, rfl, hFa, hSa, hq, h6, ht6, hor⟩; unfold altV; have kN : V6.heap[NN]? = some (.cells #[.int .i64 yk, .string yt, .int .i64 yp] 42 (0, 0)) := ht6.heap hN hN1; have k1 : V6.cell? ⟨NN, 1, none⟩ = some (.string yt) := cell_of_row _ _ 1 _ _ _ kN; have k2 : V6.cell? ⟨NN, 2, none⟩ = some (.int .i64 yp) := cell_of_row _ _ 2 _ _ _ kN; have k1o : ∀ o, (V6.alloc o).cell? ⟨NN, 1, none⟩ = some (.string yt) := fun o => rdCell_alloc k1 o; have k2o : ∀ o, (V6.alloc o).cell? ⟨NN, 2, none⟩ = some (.int .i64 yp) := fun o => rdCell_alloc k2 o; have k1p : ∀ o o', ((V6.alloc o).alloc o').cell? ⟨NN, 1, none⟩ = some (.string yt) := fun o o' => rdCell_alloc (k1o o) o'; have k2p : ∀ o o', ((V6.alloc o).alloc o').cell? ⟨NN, 2, none⟩ = some (.int .i64 yp) := fun o o' => rdCell_alloc (k2o o) o'; have bx8 : ((V6.alloc (.cells #[.string ⟨#[]⟩, .slice none 0 0, .int .i64 0] 57)).alloc (.cells #[.slice pva pvn pvc, .string al.prec.name, .bool al.prec.lit, .int .i64 al.prec.num, .int .i64 al.prec.pos, .int .i64 al.pos] 62)).heap[V6.heap.size]? = some (.cells #[.string ⟨#[]⟩, .slice none 0 0, .int .i64 0] 57 (0, 0)) := heap_keep (V6.alloc (.cells #[.string ⟨#[]⟩, .slice none 0 0, .int .i64 0] 57)) _ (heap_made V6 _ _ _ rfl); obtain ⟨bc0, bc1, bc2, bf0, bf1, bf2⟩ := box3 bx8; have bx9 : ((V6.alloc (.cells #[.slice pva pvn pvc, .string al.prec.name, .bool al.prec.lit, .int .i64 al.prec.num, .int .i64 al.prec.pos, .int .i64 al.pos] 62)).alloc (.cells #[.string ⟨#[]⟩, .slice none 0 0, .int .i64 0] 57)).heap[V6.heap.size + 1]? = some (.cells #[.string ⟨#[]⟩, .slice none 0 0, .int .i64 0] 57 (0, 0)) := heap_made (V6.alloc (.cells #[.slice pva pvn pvc, .string al.prec.name, .bool al.prec.lit, .int .i64 al.prec.num, .int .i64 al.prec.pos, .int .i64 al.pos] 62)) _ _ _ (World.size_alloc _ _).symm; obtain ⟨bd0, bd1, bd2x, bg0, bg1, bg2⟩ := box3 bx9; clear bx8 bx9; have HM := Lib.hid (And.intro (altMade_B (yt := yt) (yp := yp) hFa hSa hq h6 ht6 hor) (altMade_C (yt := yt) (yp := yp) hFa hSa hq h6 ht6 hor)); clear hFa hSa hq h6 ht6 hor kN))
               all_goals
                go_wp2_with fail
                go_meet
                case rel => first | exact HM.out | exact HM.out.1 | exact HM.out.2
              case rest =>
               clear HAl hN hNs5 hNA hNB
               have hXB : X < V5.heap.size := (Array.getElem?_eq_some_iff.1 hX).1
               have hwB : w.heap.size < V5.heap.size := (Array.getElem?_eq_some_iff.1 hA).1
               have hAB : A < V5.heap.size := hR.lt
               have hBBC : BB ≤ V5.heap.size := hBs
               have hFB : Hid (∀ b, SD b → b < V5.heap.size) := Lib.hid (fun b hb => hF.1 b hb)
               have hGB : Hid (∀ b, (Sr b ∨ (.slice rva rs.length rvc : Value).ownBlock = some b) → b < V5.heap.size) := Lib.hid (fun b hb => hG.lt b hb)
               have hGl : Hid (∀ b, (Sr b ∨ (.slice rva rs.length rvc : Value).ownBlock = some b) → BB ≤ b) := Lib.hid (fun b hb => hb.elim (hS.out b) (fun h => own_base hG.own (Nat.le_refl _) b h))
               obtain ⟨V6, al, q, bd, pva, pvn, pvc, Sa, Bx, SB, rfl, hFa, hSa, hq, h6, ht6, hor, hbl, hBx, hSB, hb1, hb2, hb3, hb4⟩ := hcut
               obtain ⟨OldP, hOD⟩ : ∃ Q : World → Prop, ∀ V, Q V ↔ (V.heap[X]? = some (.cells #[.string P, .slice da ds.length dc, .slice rva rs.length rvc, .string ⟨#[]⟩] 36 (0, 0)) ∧ V.heap[w.heap.size]? = some (.cells #[.string ⟨#[]⟩, .slice none 0 0, .slice none 0 0, .string ⟨#[]⟩] 36 (0, 0)) ∧ Below w.heap.size w V ∧ Firm SD V (fun Y => DcsV Y (.slice da ds.length dc) ds) ∧ GrowL BB 57 3 rlR Sr V (.slice rva rs.length rvc) ys rs) := ⟨_, fun V => Iff.rfl⟩
               have HOD := Lib.hid hOD
               have hO5 : OldP V5 := (hOD V5).2 ⟨hX, hA, hB, hF, hG⟩
               clear hX hA hB hF hG hBs hOD
               generalize hBC : V5.heap.size = BC at *
               have HKeep : Hid (∀ V V' : World, OldP V → Turns (fun b => b = A ∨ BC ≤ b) V V' → OldP V') := Lib.hid (fun V V' hV ht => by
                rw [HOD.out] at hV ⊢
                obtain ⟨kX, kA, kB, kF, kG⟩ := hV
                refine ⟨ht.heap kX (by omega), ht.heap kA (by omega), ht.to_below kB kB.size (fun b h => by omega), kF.keep (fun b hb => ht.block b (kF.1 b hb) (by have h1 := (HSD.out b hb).1; have h2 := hFB.out b hb; omega)), kG.keep (fun b hb => ht.block b (kG.lt b hb) (by have h1 := hGl.out b hb; have h2 := hGB.out b hb; omega))⟩)
               have hlow : w1.heap.size ≤ BC := by have := HI.out.lt; omega
               have hBxA : Bx ≠ A := by omega
               have hO6 := HKeep.out _ _ hO5 (ht6.mono (fun b _ h => .inl h))
               have hOld : OldP wc := HKeep.out _ _ hO6 ⟨hbl.os, hbl.tape, hbl.output, hbl.size, fun b hb hn => hbl.block b (by omega)⟩
               have hF6 := hFa.keep (w' := wc) (fun b hb => (hb4 b hb).1)
               have hGa := alt_one hSB hb2 hF6 (fun h => (hb4 SB h).2.2 rfl)
               have hSa2 : Hid (∀ b, Sa b → BC ≤ b ∧ b ≠ Bx) := Lib.hid (fun b hb => ⟨hSa b hb, (hb4 b hb).2.1⟩)
               have hvb : Hid (∀ k, (Value.slice (some ⟨SB, 0, none⟩) 1 1).ownBlock = some k → k ≠ Bx) := Lib.hid (by rintro k h; cases h; exact hb3)
               have hR2 := h6.far hbl hAB hlow
               have hBs2 : BC ≤ wc.heap.size := by have := (Array.getElem?_eq_some_iff.1 hBx).1; omega
               have HAS : Hid (AState L (altsS [] (L.drop (m + 2))) [al] q bd) := Lib.hid (AState.next (acc := []) rfl hq hor)
               have hmq : bd = -1 → m + 2 ≤ q := fun h => by rcases hor with ⟨_, h2, _⟩ | ⟨h1, _⟩; exact h2; omega
               have HRb : Hid (∀ r, altsS [] (L.drop (m + 2)) = .bad r → RES = (noSo, 2, (hdW r).place)) := Lib.hid (fun r h => HBad.out r (rule_bad3 H1.out H2.out h))
               have HRk : Hid (∀ l r, altsS [] (L.drop (m + 2)) = .ok l r → ruleS (L.drop m) = .ok ⟨yt, l, yp⟩ (semiS r)) := Lib.hid (fun l r h => by have e := rule_ok H1.out H2.out h; rw [Hy.out] at e; exact e)
               generalize altsS [] (L.drop (m + 2)) = RA at HAS HRb HRk
               clear hb4 hSB hF6 hFa hSa h6 ht6 hor hbl hO5 hO6 hFB hR H1 H2 Hy HBad hm1 hm2 hb2 hb3
               go_upto_block 5 with fail
               go_cut [] from 108 to 116 (fun wx => ∃ (q : Nat) (bd : Int) (acc : List Al) (sv : Value) (zs : List Value) (Sa : Nat → Prop), RfAt w1 wx A (.slice va vn vc) q bd ∧ wx.heap[Bx]? = some (.cells #[.string yt, sv, .int .i64 yp] 57 (0, 0)) ∧ OldP wx ∧ GrowL BC 62 6 alR Sa wx sv zs acc ∧ Hid (∀ b, Sa b → BC ≤ b ∧ b ≠ Bx) ∧ Hid (∀ k, sv.ownBlock = some k → k ≠ Bx) ∧ q < L.length ∧ (bd = -1 → m + 2 ≤ q) ∧ BC ≤ wx.heap.size ∧ Hid (AState L RA acc q bd) ∧ acc.length ≤ 100000 ∧ (bd = -1 → signB 124 (wAt L q) = false))
               case first =>
                go_wp2_with fail
                go_loopg [] L.length (fun gg V => ∃ (q : Nat) (bd : Int) (acc : List Al) (sv : Value) (zs : List Value) (Sa : Nat → Prop), RfAt w1 V A (.slice va vn vc) q bd ∧ V.heap[Bx]? = some (.cells #[.string yt, sv, .int .i64 yp] 57 (0, 0)) ∧ OldP V ∧ GrowL BC 62 6 alR Sa V sv zs acc ∧ Hid (∀ b, Sa b → BC ≤ b ∧ b ≠ Bx) ∧ Hid (∀ k, sv.ownBlock = some k → k ≠ Bx) ∧ q < L.length ∧ (bd = -1 → m + 2 ≤ q) ∧ BC ≤ V.heap.size ∧ Hid (AState L RA acc q bd) ∧ acc.length ≤ 100000 ∧ (bd = -1 → L.length ≤ q + gg) ∧ (bd = -1 → acc.length ≤ q))
                case atStart => exact ⟨q, bd, [al], _, _, Sa, hR2, hBx, hOld, hGa, hSa2, hvb, hq, hmq, hBs2, HAS, by simp, fun _ => by omega, fun h => by have := hmq h; simp; omega⟩
                case round =>
                 clear hR2 hBx hOld hGa hSa2 hvb hq hBs2 HAS hmq
                 obtain ⟨q, bd, acc, sv, zs, Sa, hR, hBx, hOld, hGa, hSa, hvb, hq, hmq, hBs2, HAS, hal2, hgg, hal⟩ := hrel
                 rename World => V
                 have HASX := Lib.hid HAS.out
                 have HTb := Lib.hid (rtake_any HI.out hR hq 6 ⟨#[124]⟩)
                 rcases HAS.out with ⟨o1, o2⟩ | ⟨_, r, o1, o2, o3, o4⟩
                 · rw [isB_sign] at HTb
                   have HO1 := Lib.hid o1
                   clear o1 o2 HAS
                   replace hgg := hgg rfl
                   replace hal := hal rfl
                   replace hmq := hmq rfl
                   have HNq : Hid (signB 124 (wAt L q) = true → q + 1 < L.length) := Lib.hid (fun e => HI.out.ok.next hq (by rw [signB_kind e]; decide))
                   cases hbar : signB 124 (wAt L q) with
                   | false =>
                     have HBar := Lib.hid hbar
                     rw [hbar] at HTb
                     simp only [Bool.false_eq_true, if_false] at HTb
                     clear hbar HNq HO1
                     go_wp2_with (first | (go_at_call 57; (with_reducible refine HTb.out.mono ?_); rintro e V1 ⟨rfl, h1, ht1⟩))
                     have O1 := HKeep.out _ _ hOld (ht1.mono (fun b _ h => .inl h))
                     have b1 := ht1.heap hBx (show ¬ only A Bx from hBxA)
                     have g1 := hGa.keep (w' := V1) (fun b hb => ht1.block b (hGa.lt b hb) (fun e => by have h2 : BC ≤ b := hb.elim (fun h => (hSa.out b h).1) (fun h => own_base hGa.own (Nat.le_refl _) b h); unfold only at e; omega))
                     have s1 := Nat.le_trans hBs2 ht1.size
                     go_meet
                     case rel => exact ⟨q, -1, acc, sv, zs, Sa, h1, b1, O1, g1, hSa, hvb, hq, fun _ => hmq, s1, HASX, hal2, fun _ => HBar.out⟩
                   | true =>
                     have HBar := Lib.hid hbar
                     have hq1 := HNq.out hbar
                     rw [hbar] at HTb
                     simp only [if_true] at HTb
                     clear hbar HNq
                     go_upto_region 25 with (first | (go_at_call 57; (with_reducible refine HTb.out.mono ?_); rintro e V1 ⟨rfl, h1, ht1⟩))
                     have O1 := HKeep.out _ _ hOld (ht1.mono (fun b _ h => .inl h))
                     have b1 := ht1.heap hBx (show ¬ only A Bx from hBxA)
                     have g1 := hGa.keep (w' := V1) (fun b hb => ht1.block b (hGa.lt b hb) (fun e => by have h2 : BC ≤ b := hb.elim (fun h => (hSa.out b h).1) (fun h => own_base hGa.own (Nat.le_refl _) b h); unfold only at e; omega))
                     have s1 := Nat.le_trans hBs2 ht1.size
                     have hown := g1.own
                     have hne : some Bx ≠ sv.ownBlock := fun h => hvb.out Bx h.symm rfl
                     have x1 : V1.cell? ⟨Bx, 1, none⟩ = some sv := cell_of_row _ _ 1 _ _ _ b1
                     have HAl3 := ralt_any HI.out (h1.ahead (Below.refl V1.heap.size V1).drew) hq1
                     unfold RAltGo at HAl3
                     have HC4 := Lib.hid HAl3
                     obtain ⟨i0, hi, iz0, iz1, iz2⟩ := rd_info rdInfoAlt
                     have hal3 : acc.length < 100000 := by omega
                     clear HAl3 hR hBx hOld hGa hBs2 HTb
                     have HH := Lib.hid (And.intro h1 O1)
                     clear h1 O1 HASX
                     go_region_law (first
                      | (go_simp; go_at_call 61; (with_reducible refine HC4.out.mono ?_); rintro e w9 ⟨al2, q2, bd2, pva, pvn, pvc, S9, rfl, hF9, hSb9, hq9, hR9, ht9, hor⟩; unfold altV;
                          have D9 : w9.heap[Bx]? = some (.cells #[.string yt, sv, .int .i64 yp] 57 (0, 0)) := ht9.heap b1 (show ¬ only A Bx from hBxA);
                          have g9 : GrowL BC 62 6 alR Sa w9 sv zs acc := g1.keep (fun b hb => ht9.block b (g1.lt b hb) (fun e => by have h2 : BC ≤ b := hb.elim (fun h => (hSa.out b h).1) (fun h => own_base hown (Nat.le_refl _) b h); unfold only at e; omega));
                          have c9 : w9.cell? ⟨Bx, 1, none⟩ = some sv := cell_of_row _ _ 1 _ _ _ D9;
                          have s9 : BC ≤ w9.heap.size := Nat.le_trans s1 ht9.size;
                          have a9 := rdCell_alloc c9 (.cells #[.slice pva pvn pvc, .string al2.prec.name, .bool al2.prec.lit, .int .i64 al2.prec.num, .int .i64 al2.prec.pos, .int .i64 al2.pos] 62);
                          have l9 : w9.heap.size < (w9.alloc (.cells #[.slice pva pvn pvc, .string al2.prec.name, .bool al2.prec.lit, .int .i64 al2.prec.num, .int .i64 al2.prec.pos, .int .i64 al2.pos] 62)).heap.size := by simp)
                      | (refine step_append_lies _ (by rfl) _ _ _ (by rfl) BC 62 i0 (.agg #[.slice none 0 0, .string ByteArray.empty, .bool false, .int .i64 0, .int .i64 0, .int .i64 0]) 6 72 Tryz.underlying55 hi iz0 iz1 iz2 rfl (by omega) sv acc.length zs (by rfl) (g9.own.alloc _)
                          ⟨w9.heap.size, 0, none⟩ 1 1 [.slice pva pvn pvc, .string al2.prec.name, .bool al2.prec.lit, .int .i64 al2.prec.num, .int .i64 al2.prec.pos, .int .i64 al2.pos] (by rfl) (by rfl) (rd_news w9 _ _) (by simp [Value.oneCell'])
                          (by omega) (by unfold maxLen; omega) (by omega) (by simp; omega) (w9.heap.size + 1) (by simp) ?_;
                         intro gg2 cap w5 hown5 hgrow5 hat hlt5;
                         have f5 : w5.cell? ⟨Bx, 1, none⟩ = some sv := hgrow5.cell a9 hne;
                         have r5 : w5.frozen? ⟨Bx, 1, none⟩ = false := (hgrow5.frozen_far ⟨Bx, 1, none⟩ (show Bx < (w9.alloc _).heap.size from by have := (Array.getElem?_eq_some_iff.1 D9).1; simp; omega) hne).trans (free_of_block (heap_keep _ _ D9))))
                     all_goals
                      go_wp2_with fail
                      have k9 := (Below.refl w9.heap.size w9).alloc (Nat.le_refl _) (.cells #[.slice pva pvn pvc, .string al2.prec.name, .bool al2.prec.lit, .int .i64 al2.prec.num, .int .i64 al2.prec.pos, .int .i64 al2.pos] 62)
                      have hpu := GrowL.boxN (j := 1) (B := Bx) (x := al2) (cs := [.slice pva pvn pvc, .string al2.prec.name, .bool al2.prec.lit, .int .i64 al2.prec.num, .int .i64 al2.prec.pos, .int .i64 al2.pos]) (R := alR) g9 k9 hown5 hgrow5 (own_new hat (by simp)) rfl
                       (Firm.imp (hF9.below k9) (fun w' hw' => ⟨.slice pva pvn pvc, rfl, hw'⟩)) (fun k hk h => by have h2 := (hown.lt k hk).2; have h3 : V1.heap.size ≤ k := hSb9 k h; omega) hvb.out D9
                       (fun b hb => by rcases hb with hb | hb; exact (hSa.out b hb).2; (have h3 : V1.heap.size ≤ b := hSb9 b hb; have h4 := (Array.getElem?_eq_some_iff.1 b1).1; omega))
                      have hbl := hpu.2.2.1 BC hb1 (Nat.le_refl _)
                      have hR5 := (hR9.ahead k9).far hbl hAB hlow
                      have O9 := HKeep.out _ _ HH.out.2 (((Turns.of_below (Below.refl V1.heap.size V1).drew).trans ht9 (fun b _ h => h)).mono (fun b _ h => Or.inl h))
                      have O5 := HKeep.out _ _ (HKeep.out _ _ O9 (Turns.of_below k9)) ⟨hbl.os, hbl.tape, hbl.output, hbl.size, fun b hb hn => hbl.block b (by omega)⟩
                      have hs5 : BC ≤ (w5.setCell ⟨Bx, 1, none⟩ (.slice (some ⟨gg2, 0, none⟩) (acc.length + 1) cap)).heap.size := by have := hbl.size; simp at this ⊢; omega
                      have HS5 : Hid (∀ b, (Sa b ∨ S9 b) → BC ≤ b ∧ b ≠ Bx) := Lib.hid (fun b hb => by rcases hb with hb | hb; exact hSa.out b hb; (have h3 : V1.heap.size ≤ b := hSb9 b hb; have h4 := (Array.getElem?_eq_some_iff.1 b1).1; exact ⟨by omega, by omega⟩))
                      have HAS9 : Hid (AState L RA (acc ++ [al2]) q2 bd2) := Lib.hid (AState.next (HO1.out HBar.out) hq9 hor)
                      have hq5 : bd2 = -1 → q < q2 := fun h => by rcases hor with ⟨_, h2, _⟩ | ⟨h1, _⟩; exact h2; omega
                      have hvb5 := Lib.hid hpu.2.2.2.2
                      clear hor HH k9 hbl D9 g9 c9 s9 a9 l9 f5 r5 hown5 hgrow5 hF9 hSb9 hR9 ht9 O9
                      go_roundg (L.length - (q + 1))
                      case rel => exact ⟨q2, bd2, acc ++ [al2], _, _, _, hR5, hpu.2.1, O5, hpu.1, HS5, hvb5, hq9, fun h => by have := hq5 h; omega, hs5, HAS9, by simp; omega, fun h => by have := hq5 h; omega, fun h => by have := hq5 h; simp; omega⟩
                      case measure => omega
                 · rw [isB_shut o1] at HTb
                   simp only [Bool.false_eq_true, if_false] at HTb
                   have HF9 : Hid (bd = -1 → signB 124 (wAt L q) = false) := Lib.hid (fun h => by omega)
                   clear o2 o3 o4 hgg hal HAS
                   go_wp2_with (first | (go_at_call 57; (with_reducible refine HTb.out.mono ?_); rintro e V1 ⟨rfl, h1, ht1⟩))
                   have O1 := HKeep.out _ _ hOld (ht1.mono (fun b _ h => .inl h))
                   have b1 := ht1.heap hBx (show ¬ only A Bx from hBxA)
                   have g1 := hGa.keep (w' := V1) (fun b hb => ht1.block b (hGa.lt b hb) (fun e => by have h2 : BC ≤ b := hb.elim (fun h => (hSa.out b h).1) (fun h => own_base hGa.own (Nat.le_refl _) b h); unfold only at e; omega))
                   have s1 := Nat.le_trans hBs2 ht1.size
                   go_meet
                   case rel => exact ⟨q, bd, acc, sv, zs, Sa, h1, b1, O1, g1, hSa, hvb, hq, hmq, s1, HASX, hal2, HF9.out⟩
               case rest =>
                clear hR2 hBx hOld hGa hSa2 hvb hq hBs2 HAS hmq
                obtain ⟨q, bd, acc, sv, zs, Sa, hR, hBx, hOld, hGa, hSa, hvb, hq, hmq, hBs2, HAS, hal2, hbar⟩ := hcut
                rename World => V
                obtain ⟨sva, svc, rfl⟩ := rd_slice hGa.own
                have HTb := Lib.hid (rtake_any HI.out hR hq 6 ⟨#[59]⟩)
                have HNq : Hid (isB bd 6 ⟨#[59]⟩ (wAt L q) = true → q + 1 < L.length) := Lib.hid (fun e => by
                 rcases HAS.out with ⟨o1, o2⟩ | ⟨_, r, o1, o2, o3, o4⟩
                 · rw [isB_sign] at e
                   exact HI.out.ok.next hq (by rw [signB_kind e]; decide)
                 · rw [isB_shut o1] at e; cases e)
                have HLS : Hid (LState L RES P ds (rs ++ [⟨yt, acc, yp⟩]) (if isB bd 6 ⟨#[59]⟩ (wAt L q) = true then q + 1 else q) bd) := Lib.hid (by
                 rcases HAS.out with ⟨o1, o2⟩ | ⟨_, r, o1, o2, o3, o4⟩
                 · have e1 := HRk.out _ _ (o2 (hbar rfl))
                   have e2 : ruleS (L.drop m) = .ok ⟨yt, acc, yp⟩ (L.drop (if isB (-1) 6 ⟨#[59]⟩ (wAt L q) = true then q + 1 else q)) := by
                    rw [e1, isB_sign]
                    cases h9 : signB 59 (wAt L q) with
                    | true => rw [semi_yes h9, if_pos rfl]
                    | false => rw [semi_no h9, if_neg (by decide)]
                   generalize (if isB (-1) 6 ⟨#[59]⟩ (wAt L q) = true then q + 1 else q) = q2 at e2 ⊢
                   exact .on RES2 (fun hc => (rules_next e2 (hc.resolve_left (by simp))).symm.trans HE.out) (fun hc => HE.out.symm.trans (rules_end e2 hc.2)) HC3.out HC4.out
                 · exact .off bd o1 o2 (by rw [HRb.out r o3, o4]))
                have hq2 : (if isB bd 6 ⟨#[59]⟩ (wAt L q) = true then q + 1 else q) < L.length ∧ q ≤ (if isB bd 6 ⟨#[59]⟩ (wAt L q) = true then q + 1 else q) := by
                 split
                 · rename_i h; exact ⟨HNq.out h, by omega⟩
                 · exact ⟨hq, Nat.le_refl _⟩
                generalize (if isB bd 6 ⟨#[59]⟩ (wAt L q) = true then q + 1 else q) = q3 at HTb HLS hq2
                generalize isB bd 6 ⟨#[59]⟩ (wAt L q) = c59 at HTb
                obtain ⟨hq3, hq4⟩ := hq2
                have HMQ : Hid (bd = -1 → m < q3) := Lib.hid (fun h => by have := hmq h; omega)
                clear HAS hbar HRk HRb HE HC3 HC4 HNq hq hmq HSTX
                go_upto_region 27 with (first | (go_at_call 57; (with_reducible refine HTb.out.mono ?_); rintro e V1 ⟨rfl, h1, ht1⟩))
                have O1 := HKeep.out _ _ hOld (ht1.mono (fun b _ h => .inl h))
                have b1 := ht1.heap hBx (show ¬ only A Bx from hBxA)
                have g1 := hGa.keep (w' := V1) (fun b hb => ht1.block b (hGa.lt b hb) (fun e => by have h2 : BC ≤ b := hb.elim (fun h => (hSa.out b h).1) (fun h => own_base hGa.own (Nat.le_refl _) b h); unfold only at e; omega))
                have s1 := Nat.le_trans hBs2 ht1.size
                have hga := fun b (hb : Sa b ∨ (Value.slice sva acc.length svc).ownBlock = some b) => (show BC ≤ b from hb.elim (fun h => (hSa.out b h).1) (fun h => own_base hGa.own (Nat.le_refl _) b h))
                rw [HOD.out] at O1
                obtain ⟨kX, kA, kB, kF, kG⟩ := O1
                have hown := kG.own
                have hne : some X ≠ (.slice rva rs.length rvc : Value).ownBlock := fun h => by have := hGl.out X (.inr h.symm); omega
                obtain ⟨i0, hi, iz0, iz1, iz2⟩ := rd_info rdInfoRule
                obtain ⟨x0, xx1, x2b, x3, y0, y1, y2, y3⟩ := box4 kX
                obtain ⟨d0, d1, d2, _⟩ := box3 b1
                have a2 := rdCell_alloc x2b (.cells #[.string yt, .slice sva acc.length svc, .int .i64 yp] 57)
                have fr2 := free_of_block (j := 2) (heap_keep _ (.cells #[.string yt, .slice sva acc.length svc, .int .i64 yp] 57) kX)
                have hXV : X < V1.heap.size := (Array.getElem?_eq_some_iff.1 kX).1
                have HH := Lib.hid (And.intro h1 (And.intro kX (And.intro kA (And.intro kB (And.intro kF (And.intro kG g1))))))
                have hrs : rs.length < 100000 := by omega
                clear h1 kA kB kF hR hBx hOld hGa HTb ht1 xx1 y1
                go_wp2_with (first | (refine wpList_append_lies _ (by rfl) _ _ _ (by rfl) BB 57 i0 (.agg #[.string ByteArray.empty, .slice none 0 0, .int .i64 0]) 3 48 Tryz.underlying34 hi iz0 iz1 iz2 rfl (by omega) (.slice rva rs.length rvc) rs.length ys (by rfl) (hown.alloc _) ⟨V1.heap.size, 0, none⟩ 1 1 [.string yt, .slice sva acc.length svc, .int .i64 yp] (by rfl) (by rfl) (rd_news V1 _ _) (by simp [Value.oneCell']) (by omega) (by unfold maxLen; omega) (by omega) (by simp; omega) (V1.heap.size + 1) (by simp) ?_; intro gg cap w9 hown9 hgrow9 hat hlt9; have f9 : w9.cell? ⟨X, 2, none⟩ = some (.slice rva rs.length rvc) := hgrow9.cell a2 hne; have r9 := (hgrow9.frozen_far ⟨X, 2, none⟩ (show X < (V1.alloc _).heap.size from by simp; omega) hne).trans fr2))
                obtain ⟨h1, kX, kA, kB, kF, kG, g1⟩ := HH.out
                have k9 := (Below.refl V1.heap.size V1).alloc (Nat.le_refl _) (.cells #[.string yt, .slice sva acc.length svc, .int .i64 yp] 57)
                have hXB2 : X < BB := by omega
                have hpu := GrowL.box (j := 2) (B := X) (x := (⟨yt, acc, yp⟩ : Rl)) (cs := [.string yt, .slice sva acc.length svc, .int .i64 yp]) (R := rlR) kG k9 hown9 hgrow9 (own_new hat (by simp)) rfl
                 (Firm.imp ((g1.firm (by omega)).below k9) (fun w' hw' => ⟨.slice sva acc.length svc, rfl, hw'⟩)) (fun k hk h => by have h2 := hGB.out k (.inr hk); have h3 := hga k h; omega) hXB2 kX
                 (fun b hb => by rcases hb with hb | hb; (have := hGl.out b (.inl hb); omega); (have := hga b hb; omega))
                have hbl := hpu.2.2.1 X (Nat.le_refl _)
                have hw1X : w1.heap.size ≤ X := Nat.le_trans HI.out.lt (Nat.le_of_lt hAX)
                have hwX : w.heap.size < X := by omega
                have hR9 := (h1.ahead k9).far hbl hAX hw1X
                have kA9 := (hbl.block w.heap.size hwX).trans (heap_keep _ _ kA)
                have kB9 := (kB.trans (k9.mono kB.size)).trans (hbl.mono (Nat.le_of_lt hwX))
                have kF9 := (kF.below k9).keep (w' := w9.setCell ⟨X, 2, none⟩ (.slice (some ⟨gg, 0, none⟩) (rs.length + 1) cap)) (fun b hb => hpu.2.2.2 b ((kF.below k9).1 b hb) (by have := (HSD.out b hb).1; omega) (HSD.out b hb).2)
                have hs9 : BB ≤ (w9.setCell ⟨X, 2, none⟩ (.slice (some ⟨gg, 0, none⟩) (rs.length + 1) cap)).heap.size := by have := hbl.size; simp at this ⊢; omega
                have HS9 : Hid (∀ b, (Sr b ∨ (Sa b ∨ (Value.slice sva acc.length svc).ownBlock = some b)) → BB ≤ b) := Lib.hid (fun b hb => by rcases hb with hb | hb; exact hGl.out b (.inl hb); (have := hga b hb; omega))
                clear h1 kX kA kB kF kG g1 k9 hbl hown9 hgrow9 f9 r9 HH
                go_roundg (L.length - (m + 1))
                case rel => exact ⟨q3, bd, rs ++ [⟨yt, acc, yp⟩], _, _, _, hR9, hpu.2.1, kA9, kB9, kF9, hq3, HLS, hpu.1, HS9, hs9, fun h => by have := HMQ.out h; omega, fun h => by have := HMQ.out h; simp; omega⟩
                case measure => omega
       · have hlt : decide (bd < 0) = false := by simp; omega
         have HF9 : Hid (bd = -1 → rs ≠ [] ∧ (wAt L m).kind = 10) := Lib.hid (fun h => by omega)
         clear o1 o2 o3 hgg hrl
         go_wp2_with fail
         go_meet
         case rel => exact ⟨m, bd, rs, _, ys, Sr, hR, hX, hA, hB, hF, hm, HST, hG, hS, hBs, HF9.out⟩
     case rest =>
      clear hR hX hA hB hF hm HST
      obtain ⟨m, bd, rs, rv, ys, Sr, hR, hX, hA, hB, hF, hm, HST, hG, hS, hBs2, hk⟩ := hcut
      rename World => V
      obtain ⟨rva, rvc, rfl⟩ := rd_slice hG.own
      obtain ⟨_, _, c2⟩ := hR.cells
      have hwr : X ≠ w.heap.size := by omega
      rcases HST.out with ⟨RES2, r1, r2, r3, r4⟩ | ⟨_, o1, o2, o3⟩
      · have hRES : Hid (RES = (⟨P, ds, rs, (wAt L m).text⟩, 0, 0)) := Lib.hid (r4 rs (L.drop m) (r2 (hk rfl)))
        have HNw := Lib.hid (now_any HI.out hR hm)
        unfold Wd.agg8 at HNw
        clear hk r1 r2 r3 r4 HST
        generalize wAt L m = y at HNw hRES
        obtain ⟨yk, yt, yp⟩ := y
        simp only at HNw hRES
        have hfd := wfld1 yk yt yp
        have FD := Lib.hid hF
        have FG := Lib.hid (hG.firm (by omega))
        have HFGb : Hid (∀ b, (Sr b ∨ (Value.slice rva rs.length rvc).ownBlock = some b) → BB ≤ b) := Lib.hid (fun b hb => hb.elim (hS.out b) (fun h => own_base hG.own (Nat.le_refl _) b h))
        have HA6 := Lib.hid (And.intro hX (And.intro hA hB))
        have hXl : X < V.heap.size := by omega
        have hwl : w.heap.size < V.heap.size := by omega
        clear hX hA hB hF hG hS hR
        go_wp2_with (first | (go_at_call 56; (with_reducible refine HNw.out.mono ?_); rintro r w7 ⟨rfl, hw7⟩; have a7 := block_below HA6.out.1 hw7 hXl; have b7 := block_below HA6.out.2.1 hw7 hwl; obtain ⟨x0, x1, x2, x3, y0, y1, y2, y3⟩ := box4 a7; obtain ⟨z0, z1, z2, z3, t0, t1, t2, t3⟩ := box4 b7))
        have b8 := (Below.heap_setCell w7 ⟨X, 3, none⟩ (.string yt) _ (Ne.symm hwr)).trans b7
        have hB7 := HA6.out.2.2.trans (hw7.mono HA6.out.2.2.size)
        have hB8 := hB7.setCell (p := ⟨X, 3, none⟩) (show w.heap.size ≤ X by omega) (.string yt)
        have q1 := set4_row8 b8 (.string P) (.slice da ds.length dc) (.slice rva rs.length rvc) (.string yt)
        have q3 := rdSet4_below hB8 (Nat.le_refl _) (.string P) (.slice da ds.length dc) (.slice rva rs.length rvc) (.string yt)
        have q4 : ∀ b, X + 1 ≤ b → (((((w7.setCell ⟨X, 3, none⟩ (.string yt)).setCell ⟨w.heap.size, 0, none⟩ (.string P)).setCell ⟨w.heap.size, 1, none⟩ (.slice da ds.length dc)).setCell ⟨w.heap.size, 2, none⟩ (.slice rva rs.length rvc)).setCell ⟨w.heap.size, 3, none⟩ (.string yt)).heap[b]? = w7.heap[b]? := fun b hb =>
         (set4_far (show b ≠ w.heap.size by omega) _ _ _ _).trans (Below.heap_setCell _ _ _ _ (show b ≠ X by omega))
        generalize (((((w7.setCell ⟨X, 3, none⟩ (.string yt)).setCell ⟨w.heap.size, 0, none⟩ (.string P)).setCell ⟨w.heap.size, 1, none⟩ (.slice da ds.length dc)).setCell ⟨w.heap.size, 2, none⟩ (.slice rva rs.length rvc)).setCell ⟨w.heap.size, 3, none⟩ (.string yt)) = y9 at q1 q3 q4 ⊢
        have F1 := (FD.out.below hw7).keep (w' := y9) (fun b hb => q4 b (HSD.out b hb).1)
        have F2 := (FG.out.below hw7).keep (w' := y9) (fun b hb => q4 b (Nat.le_trans hXs (HFGb.out b hb)))
        exact bodyPost_ret (v := .tuple #[.agg #[.string P, .slice da ds.length dc, .slice rva rs.length rvc, .string yt], .int .i64 0, .int .i64 0]) (results_cell_slots rfl _ _ w.heap.size 36 #[.string P, .slice da ds.length dc, .slice rva rs.length rvc, .string yt] (0, 0) rfl rfl rfl q1 Tryz.underlying36 srcInfo8) rfl
         (by rw [hRES.out]; exact ⟨da, rva, ds.length, dc, rs.length, rvc, _, rfl, Firm.imp (F1.and F2) (fun X hX => ⟨_, _, rfl, hX.1, hX.2⟩), fun b hb => by rcases hb with hb | hb; (have := (HSD.out b hb).1; omega); (have := HFGb.out b hb; omega), q3⟩)
      · have hge : decide (bd ≥ 0) = true := by simp; omega
        have hge2 : decide (0 ≤ bd) = true := by simp; omega
        have HRES : Hid (RES = (noSo, 2, bd)) := Lib.hid o3
        obtain ⟨x0, x1, x2, x3, y0, y1, y2, y3⟩ := box4 hA
        clear hG hF hS HST hX o1 o2 o3 hk hR
        go_upto_region 29 with fail
        go_region
        all_goals
         go_wp2_with fail
         have q1 := set4_row8 hA (.string ⟨#[]⟩) (.slice none 0 0) (.slice none 0 0) (.string ⟨#[]⟩)
         have q3 := rdSet4_below hB (Nat.le_refl _) (.string ⟨#[]⟩) (.slice none 0 0) (.slice none 0 0) (.string ⟨#[]⟩)
         generalize ((((V.setCell ⟨w.heap.size, 0, none⟩ (.string ⟨#[]⟩)).setCell ⟨w.heap.size, 1, none⟩ (.slice none 0 0)).setCell ⟨w.heap.size, 2, none⟩ (.slice none 0 0)).setCell ⟨w.heap.size, 3, none⟩ (.string ⟨#[]⟩)) = y9 at q1 q3 ⊢
         have q5 : y9.drew.heap[w.heap.size]? = some (.cells #[.string ⟨#[]⟩, .slice none 0 0, .slice none 0 0, .string ⟨#[]⟩] 36 (0, 0)) := q1
         have q6 := q3.drew
         exact bodyPost_ret (v := .tuple #[.agg #[.string ⟨#[]⟩, .slice none 0 0, .slice none 0 0, .string ⟨#[]⟩], .int .i64 2, .int .i64 bd]) (results_cell_slots rfl _ _ w.heap.size 36 #[.string ⟨#[]⟩, .slice none 0 0, .slice none 0 0, .string ⟨#[]⟩] (0, 0) rfl rfl rfl q5 Tryz.underlying36 srcInfo8) rfl (by rw [HRES.out]; exact ⟨none, none, 0, 0, 0, 0, fun _ => False, rfl, Firm.pure (fun X => ⟨_, _, rfl, ListV.nil _ _ _, ListV.nil _ _ _⟩), fun _ h => h.elim, q6⟩)
 · have hbn : (e != 0) = true := by simp [he]
   have HR2 : Hid (RES = (noSo, e, p)) := Lib.hid (by rw [HR.out]; exact if_pos he)
   clear he HR HL
   go_enter Tryz.func22, Tryz.ntmps22
   go_upto_region 3 with (first | (go_at_call 14; (with_reducible refine HLx2.out.mono ?_); rintro r w1 ⟨⟨v, rfl, hv⟩, hw1⟩))
   have hsz := hw1.size
   have a1 := (hw1.block w.heap.size (by omega)).trans h1
   have hB1 := hb1.trans (hw1.mono (by omega))
   obtain ⟨x0, x1, x2, x3, y0, y1, y2, y3⟩ := box4 a1
   clear hv h1 hb1 hw1 HLx2
   go_wp2_with fail
   have q1 := set4_row8 a1 (.string ⟨#[]⟩) (.slice none 0 0) (.slice none 0 0) (.string ⟨#[]⟩)
   have q3 := rdSet4_below hB1 (Nat.le_refl _) (.string ⟨#[]⟩) (.slice none 0 0) (.slice none 0 0) (.string ⟨#[]⟩)
   exact bodyPost_ret (v := .tuple #[.agg #[.string ⟨#[]⟩, .slice none 0 0, .slice none 0 0, .string ⟨#[]⟩], .int .i64 e, .int .i64 p]) (results_cell_slots rfl _ _ w.heap.size 36 #[.string ⟨#[]⟩, .slice none 0 0, .slice none 0 0, .string ⟨#[]⟩] (0, 0) rfl rfl rfl q1 Tryz.underlying36 srcInfo8) rfl (by rw [HR2.out]; exact ⟨none, none, 0, 0, 0, 0, fun _ => False, rfl, Firm.pure (fun X => ⟨_, _, rfl, ListV.nil _ _ _, ListV.nil _ _ _⟩), fun _ h => h.elim, q3⟩)
end Go.Proofs.YtnoppoifepbchaaGreatDoor
