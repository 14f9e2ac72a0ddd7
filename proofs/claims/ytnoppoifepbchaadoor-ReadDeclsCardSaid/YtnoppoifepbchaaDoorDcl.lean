/- Declarations of each kind are read as they stand: the law ReadDecls walked. -/
import Derived.Test.YtnoppoifepbchaaDoorPlE
import Derived.Test.YtnoppoifepbchaaDoorSh27
import Derived.Test.YtnoppoifepbchaaDoorSame3
import Derived.Test.YtnoppoifepbchaaDoorSrc
import Derived.Test.YtnoppoifepbchaaDoorRfN
import Derived.IntWalk
import Derived.Outline
import Derived.Deep.DeepCutAuto
import Derived.Deep.Cut
import Derived.Deep.CutRange
namespace Go.Proofs.YtnoppoifepbchaaDoor

open Go.RowKit
set_option linter.unusedVariables false
set_option linter.unusedSimpArgs false

def InI9 (l : List Int) : Prop := ∀ x ∈ l, -9223372036854775808 ≤ x ∧ x ≤ 9223372036854775807
theorem wf_in9 {l : List Int} (h : InI9 l) (k : Nat) : (Lit.int .i64 (l.getD k 0)).wf = true := by
 have h2 : -9223372036854775808 ≤ l.getD k 0 ∧ l.getD k 0 ≤ 9223372036854775807 := by
  rw [List.getD_eq_getElem?_getD]
  by_cases hk : k < l.length
  · rw [List.getElem?_eq_getElem hk]; exact h _ (List.getElem_mem hk)
  · rw [List.getElem?_eq_none (by omega)]; decide
 simpa [Lit.wf, IntKind.min, IntKind.max, IntKind.signed, IntKind.bits] using h2
theorem far_cell {w W : World} (h : Below w.heap.size w W) {p : Addr} {u : Value} (hu : w.cell? p = some u) : W.cell? p = some u := (h.cell (World.block_lt_of_cell? _ _ hu)).trans hu
theorem far_firm {S : Nat → Prop} {w1 w2 : World} {Q : World → Prop} (h : Firm S w1 Q) (hb : Below w1.heap.size w1 w2) : Q w2 := (h.below hb).self
/-- the text of some declarations -/
def T8 (ds : List Dc) : ByteArray := ⟨(ds.flatMap (fun d => declT d ++ [10])).toArray⟩
theorem ba_ext {a b : ByteArray} (h : a.data.toList = b.data.toList) : a = b := ByteArray.ext (Array.toList_inj.1 h)
theorem T8_push {ds : List Dc} {d : Dc} {τ : ByteArray} (h : τ.data.toList = declT d) : T8 ds ++ τ ++ ⟨#[10]⟩ = T8 (ds ++ [d]) := by
 refine ba_ext ?_
 unfold T8
 simp [ByteArray.data_append, h]
theorem T8_end (ds : List Dc) : T8 ds ++ ⟨#[37, 37, 32, 97, 32, 58, 32, 59]⟩ = ⟨(declsT ds).toArray⟩ := by
 refine ba_ext ?_
 unfold T8 declsT
 simp [ByteArray.data_append]
theorem key_cell (w W : World) (h : Below (w.alloc (.cells keyCells 9)).heap.size (w.alloc (.cells keyCells 9)) W) (q : Nat) (hq : q < 6) : W.cell? ⟨w.heap.size, q, none⟩ = some (.string (keyS (1 + (q : Int)))) := by
 refine far_cell h ((cell_top w keyCells _ _ q rfl).trans ?_)
 match q, hq with
 | 0, _ => rfl
 | 1, _ => rfl
 | 2, _ => rfl
 | 3, _ => rfl
 | 4, _ => rfl
 | 5, _ => rfl
theorem list_one1 {α : Type} {R : World → List Value → α → Prop} {w : World} {B size : Nat} {cs : Array Value} {T : TypeId} {x : α} (h : w.heap[B]? = some (.cells cs T (0, 0))) (hs : cs.size = size) (hR : R w cs.toList x) : ListV size R w (.slice (some ⟨B, 0, none⟩) 1 1) [x] := by
 refine ⟨_, 1, rfl, Nat.le_refl _, by omega, fun e => (by cases e), fun i y hy => ?_⟩
 obtain rfl : i = 0 := by have := (List.getElem?_eq_some_iff.1 hy).1; simp at this; omega
 obtain rfl : x = y := by simpa using hy
 refine ⟨B, 0, cs.toList, rfl, by simpa using hs, hR, fun j hj => ?_⟩
 rw [show 0 + 0 * size + j = j by omega, cell_of_row w B j cs T (0, 0) h, List.getD_eq_getElem?_getD, Array.getElem?_toList, Array.getElem?_eq_getElem (by omega)]; rfl

set_option maxRecDepth 100000 in
set_option maxHeartbeats 100000000 in
theorem readDecls_any (vk : Value) (ks : List Int) (vs : Value) (ss : List Int) {w : World} (hki : IntsV w vk ks ∧ InI9 ks) (hsi : IntsV w vs ss ∧ InI9 ss) (hE : LexEnv w) :
  Calls Tryd.prog 4 #[vk, vs] w fun e w' => e = .returned (.bool true) ∧ Below w.heap.size w w' := by
 obtain ⟨hks, hik⟩ := hki
 obtain ⟨hss, his⟩ := hsi
 have HW := Lib.hid (Sh.wakes7_any w hE.env.max)
 have HM : Hid (∀ W, Below w.heap.size w W → LexEnv W) := Lib.hid (fun W hb => hE.below hb)
 have HF1 := Lib.hid (fun k => wf_in9 hik k)
 have HF2 := Lib.hid (fun k => wf_in9 his k)
 have HN6 : Hid (∀ (x : Int), (Lit.int .i64 x).wf = true → ∃ q : Nat, q < 6 ∧ ∀ W, Calls Tryd.prog 9 #[.int .i64 x, .int .i64 6] W fun e w' => e = .returned (.int .i64 (q : Int)) ∧ W = w') := Lib.hid (fun x hx => by
  obtain ⟨q, hq⟩ : ∃ q : Nat, (q : Int) = x % ((6 : Nat) : Int) := ⟨(x % 6).toNat, by omega⟩
  refine ⟨q, by omega, fun W => ?_⟩
  rw [hq]
  exact within_any x 6 W hx (by omega) (by omega))
 have HN3 : Hid (∀ (x : Int), (Lit.int .i64 x).wf = true → ∃ q : Nat, q < 3 ∧ ∀ W, Calls Tryd.prog 9 #[.int .i64 x, .int .i64 3] W fun e w' => e = .returned (.int .i64 (q : Int)) ∧ W = w') := Lib.hid (fun x hx => by
  obtain ⟨q, hq⟩ : ∃ q : Nat, (q : Int) = x % ((3 : Nat) : Int) := ⟨(x % 3).toNat, by omega⟩
  refine ⟨q, by omega, fun W => ?_⟩
  rw [hq]
  exact within_any x 3 W hx (by omega) (by omega))
 have HD : Hid (∀ (j : Nat), j < 4 → ∀ W, Calls Tryd.prog 10 #[.int .i64 (j : Int)] W fun e w' => e = .returned (.string (numT (j : Int))) ∧ Below W.heap.size W w') := Lib.hid (fun j hj W => digitsOf_any j W (by omega))
 have HD3 : Hid (∀ (j : Nat), j < 8 → ∀ W, Calls Tryd.prog 10 #[.int .i64 (300 + (j : Int))] W fun e w' => e = .returned (.string (numT (300 + (j : Int)))) ∧ Below W.heap.size W w') := Lib.hid (fun j hj W => by
  have h := digitsOf_any (300 + j) W (by omega)
  rw [show (((300 + j : Nat) : Int)) = 300 + (j : Int) by omega] at h
  exact h)
 obtain ⟨a, n, c, rfl, hn, hnc, hcm, hx⟩ := hks.open
 obtain ⟨a2, n2, c2, rfl, hn2, hnc2, hcm2, hx2⟩ := hss.open
 clear hE hik his hks hss
 go_enter Tryd.func4, Tryd.ntmps4
 go_wp2_with (first
  | (go_at_call 8; refine HW.out.mono ?_; rintro e w1 ⟨rfl, hb1⟩)
  | (go_at_call 12; refine (keys_any _).mono ?_; rintro e w8 ⟨rfl, rfl⟩))
 have HKy := Lib.hid (key_cell w1)
 have hb2 := hb1.alloc hb1.size (.cells keyCells 9)
 generalize w1.alloc (.cells keyCells 9) = w2 at HKy hb2 ⊢
 generalize w1.heap.size = KB at HKy ⊢
 clear HW hb1
 go_loopw [5, 6, 8] (fun x5 x6 x8 W => ∃ (k : Nat) (ds : List Dc) (xs : List Value) (S : Nat → Prop), k ≤ n ∧ k ≤ 8 ∧ ds.length = k ∧ x5 = .string (T8 ds) ∧ (T8 ds).size ≤ 41 * k ∧ x8 = .int .i64 k ∧ Below w2.heap.size w2 W ∧ GrowL w2.heap.size 51 4 dcR S W x6 xs ds ∧ Hid (∀ b, S b → w2.heap.size ≤ b) ∧ Hid (∀ d ∈ ds, mayDc d = true)) (fun _ _ x8 _ => n - (intOf x8).toNat)
 case atStart => exact ⟨0, [], [], _, Nat.zero_le _, Nat.zero_le _, rfl, rfl, Nat.le_refl _, rfl, Below.refl _ _, GrowL.nil _ _ _ _ _, Lib.hid (fun _ h => h.elim), Lib.hid (fun d h => by cases h)⟩
 case round =>
  obtain ⟨k, ds, xs, S, hk, hk8, hl, rfl, htz, rfl, hbr, hG, HS, HMy⟩ := hrel
  rename World => W
  by_cases hgo : k < n ∧ k < 8
  · obtain ⟨hlt, hlt8⟩ := hgo
    obtain ⟨b, off, rfl, hcell⟩ := hx.out k hlt
    have hwf := HF1.out k
    generalize ks.getD k 0 = x at hcell hwf
    obtain ⟨q, hq, hcl⟩ := HN6.out x hwf
    have HCL := Lib.hid hcl
    have HC : Hid (∀ W', Below w.heap.size w W' → W'.cell? ⟨b, off + k, none⟩ = some (.int .i64 x)) := Lib.hid (fun W' h => far_cell h hcell)
    have hbw := hb2.trans (hbr.mono hb2.size)
    have c0 := HC.out _ hbw
    have ky := HKy.out _ hbr q hq
    have i1 : (k : Int) < (n : Int) := by omega
    have i2 : (k : Int) < 8 := by omega
    have HTp : Hid (∀ d τ, τ.data.toList = declT d → T8 ds ++ τ ++ ⟨#[10]⟩ = T8 (ds ++ [d])) := Lib.hid (fun d τ h => T8_push h)
    have hkz : (keyS (1 + (q : Int))).size ≤ 40 := dTx_small ⟨q, hq⟩ ⟨0, by omega⟩ false ⟨0, by omega⟩
    generalize T8 ds = t at HTp htz ⊢
    clear hcl hcell hwf HF1 HN6 hx
    have hbD : Below W.heap.size W (W.alloc (.cells #[.int .i64 (1 + (q : Int)), .string ⟨#[]⟩, .slice none 0 0, .int .i64 0] 51)) := (Below.refl W.heap.size W).alloc (Nat.le_refl _) _
    have ky2 := HKy.out _ (hbr.trans (hbD.mono hbr.size)) q hq
    go_upto_region 11 with (first | (go_at_call 9; (with_reducible refine (HCL.out _).mono ?_); rintro e w9 ⟨rfl, rfl⟩))
    have hD0 := heap_made W #[.int .i64 (1 + (q : Int)), .string ⟨#[]⟩, .slice none 0 0, .int .i64 0] 51 _ rfl
    have hsD : W.heap.size + 1 ≤ (W.alloc (.cells #[.int .i64 (1 + (q : Int)), .string ⟨#[]⟩, .slice none 0 0, .int .i64 0] 51)).heap.size := by simp
    have c1 := HC.out _ (hbw.trans (hbD.mono hbw.size))
    generalize (W.alloc (.cells #[.int .i64 (1 + (q : Int)), .string ⟨#[]⟩, .slice none 0 0, .int .i64 0] 51)) = V0 at hbD hD0 hsD c1 ⊢
    clear ky ky2 c0 HCL
    have hWD : Hid (W.heap.size = W.heap.size) := Lib.hid rfl
    generalize hDe : W.heap.size = D at hbD hD0 hsD ⊢
    have d0 : V0.cell? ⟨D, 0, none⟩ = some (.int .i64 (1 + (q : Int))) := cell_of_row _ _ 0 _ _ _ hD0
    have d1 : V0.cell? ⟨D, 1, none⟩ = some (.string ⟨#[]⟩) := cell_of_row _ _ 1 _ _ _ hD0
    have f1 : V0.frozen? ⟨D, 1, none⟩ = false := free_of_block hD0
    go_cut [59] from 19 to 134 (fun (x59 : Value) wx => ∃ tg : Bool, (q = 4 → tg = true) ∧ (q = 5 → tg = false) ∧ x59 = .bool tg ∧ wx = V0)
    case first =>
     clear HTp htz hbr HS HMy HC hG HKy HF2 HN3 HD HD3 hx2 HM hWD hbw
     by_cases h4 : q = 4
     · have e5 : ((1 + (q : Int)) == 5) = true := by rw [beq_iff_eq]; omega
       go_wp2_with fail
       go_meet
       case rel => exact ⟨true, fun _ => rfl, fun e => absurd e (by omega), rfl, rfl⟩
     · have e5 : ((1 + (q : Int)) == 5) = false := by rw [beq_eq_false_iff_ne]; omega
       by_cases hp : Int.tmod x 2 = 0
       · have ep : (Int.tmod x 2 == 0) = true := by rw [beq_iff_eq]; exact hp
         by_cases h5 : q = 5
         · have e6 : ((1 + (q : Int)) != 6) = false := by simp; omega
           go_wp2_with fail
           go_meet
           case rel => exact ⟨false, fun e => absurd e h4, fun _ => rfl, rfl, rfl⟩
         · have e6 : ((1 + (q : Int)) != 6) = true := by simp; omega
           go_wp2_with fail
           go_meet
           case rel => exact ⟨true, fun _ => rfl, fun e => absurd e h5, rfl, rfl⟩
       · have ep : (Int.tmod x 2 == 0) = false := by rw [beq_eq_false_iff_ne]; exact hp
         go_wp2_with fail
         go_meet
         case rel => exact ⟨false, fun e => absurd e h4, fun _ => rfl, rfl, rfl⟩
    case rest =>
     obtain ⟨tg, hq4, hq5, rfl, rfl⟩ := hcut
     clear c1 d0
     go_upto_if 59 with fail
     go_cut [5] from 19 to 134 (fun (x5 : Value) wx => x5 = .string (t ++ dTx q k tg 0) ∧ Below D W wx ∧ D + 1 ≤ wx.heap.size ∧ wx.heap[D]? = some (.cells #[.int .i64 (1 + (q : Int)), .string (tgB tg), .slice none 0 0, .int .i64 0] 51 (0, 0)))
     case first =>
      have ht2 : t.size ≤ 400 := by omega
      have hs1 : (t ++ keyS (1 + (q : Int))).size = t.size + (keyS (1 + (q : Int))).size := ByteArray.size_append
      clear HTp htz hbr HS HMy HC hG HKy HF2 HN3 HD HD3 hx2 HM hWD hbw
      cases tg with
      | true =>
        go_wp2_with fail
        go_meet
        case rel => exact ⟨by unfold dTx; rw [if_pos rfl, ByteArray.append_assoc], hbD.setCell (p := ⟨D, 1, none⟩) (Nat.le_refl _) _, by simpa using hsD, block_setCell (j := 1) hD0⟩
      | false =>
        go_wp2_with fail
        go_meet
        case rel => exact ⟨by unfold dTx; rfl, hbD, hsD, hD0⟩
     case rest =>
      obtain ⟨rfl, hbV, hsV, hDV⟩ := hcut
      rename World => V1
      clear d1 f1 hbD hsD hD0
      have d0 : V1.cell? ⟨D, 0, none⟩ = some (.int .i64 (1 + (q : Int))) := cell_of_row _ _ 0 _ _ _ hDV
      have hwV1 := hbw.trans (hbV.mono (by rw [← hDe] at *; exact hbw.size))
      go_upto_region 15 with fail
      go_cut [71] from 19 to 134 (fun (x71 : Value) wx => ∃ bb : Bool, (bb = true → k < n2 ∧ q ≠ 5) ∧ x71 = .bool bb ∧ wx = V1)
      case first =>
       clear HTp htz hbr HS HMy HC hG HKy HF2 HN3 HD HD3 hx2 HM hWD hbw hwV1
       by_cases h2 : k < n2
       · have i3 : (k : Int) < (n2 : Int) := by omega
         by_cases h5 : q = 5
         · have e6 : ((1 + (q : Int)) != 6) = false := by simp; omega
           go_wp2_with fail
           go_meet
           case rel => exact ⟨false, (fun e => by cases e), rfl, rfl⟩
         · have e6 : ((1 + (q : Int)) != 6) = true := by simp; omega
           go_wp2_with fail
           go_meet
           case rel => exact ⟨true, fun _ => ⟨h2, h5⟩, rfl, rfl⟩
       · have i3 : ¬ (k : Int) < (n2 : Int) := by omega
         go_wp2_with fail
         go_meet
         case rel => exact ⟨false, (fun e => by cases e), rfl, rfl⟩
      case rest =>
       obtain ⟨bb, hbb, rfl, rfl⟩ := hcut
       rename World => V1
       clear d0
       go_upto_if 71 with fail
       go_cut [10] from 19 to 134 (fun (x10 : Value) wx => ∃ m : Nat, 1 ≤ m ∧ m ≤ 3 ∧ (q = 5 → m = 1) ∧ x10 = .int .i64 (m : Int) ∧ wx = V1)
       case first =>
        clear HTp htz hbr HS HMy HC hG HKy HD HD3 HM hWD hbw
        cases bb with
        | true =>
          obtain ⟨h2, h5⟩ := hbb rfl
          obtain ⟨b2, off2, rfl, hcell2⟩ := hx2.out k h2
          have s0 := far_cell hwV1 hcell2
          have hwf2 := HF2.out k
          generalize ss.getD k 0 = y at s0 hwf2
          obtain ⟨q3, hq3, hcl3⟩ := HN3.out y hwf2
          have HC3 := Lib.hid hcl3
          clear hcl3 hx2 hcell2 HF2 HN3 hwf2
          have i3 : (k : Int) < (n2 : Int) := by omega
          go_wp2_with (first | (go_at_call 9; (with_reducible refine (HC3.out _).mono ?_); rintro e w9 ⟨rfl, rfl⟩))
          go_meet
          case rel => exact ⟨1 + q3, by omega, by omega, fun e => absurd e h5, by rw [show ((1 + q3 : Nat) : Int) = 1 + (q3 : Int) by omega], rfl⟩
        | false =>
          go_wp2_with fail
          go_meet
          case rel => exact ⟨1, by omega, by omega, fun _ => rfl, rfl, rfl⟩
       case rest =>
        obtain ⟨m, hm1, hm3, hq5m, rfl, rfl⟩ := hcut
        rename World => V1
        clear hbb HF2 HN3 hx2
        go_wp2_with fail
        go_loopw [5, 11] (fun x5 x11 V => ∃ (j : Nat) (sv : Value) (ys : List Value), j ≤ m ∧ x5 = .string (t ++ dTx q k tg j) ∧ x11 = .int .i64 (j : Int) ∧ Below D W V ∧ D + 1 ≤ V.heap.size ∧ V.heap[D]? = some (.cells #[.int .i64 (1 + (q : Int)), .string (tgB tg), sv, .int .i64 0] 51 (0, 0)) ∧ GrowL (D + 1) 40 4 smR (fun _ => False) V sv ys ((List.range j).map (mkSm q k))) (fun _ x11 _ => m - (intOf x11).toNat)
        case atStart => exact ⟨0, .slice none 0 0, [], Nat.zero_le _, rfl, rfl, hbV, hsV, hDV, GrowL.nil _ _ _ _ _⟩
        case round =>
         clear hbV hsV hDV hwV1
         obtain ⟨j, sv, ys, hj, rfl, rfl, hbV, hsV, hDV, hg⟩ := hrel
         rename World => V
         have htj : (t ++ dTx q k tg j).size ≤ 500 := by
          have h1 := dTx_small ⟨q, hq⟩ ⟨k, hlt8⟩ tg ⟨j, by omega⟩
          have h2 : (t ++ dTx q k tg j).size = t.size + (dTx q k tg j).size := ByteArray.size_append
          simp only at h1
          omega
         by_cases hjm : j < m
         · have hj3 : j < 4 := by omega
           have HDj := Lib.hid (HD.out j hj3 V)
           obtain ⟨_, hdz⟩ := nm_small ⟨j, hj3⟩
           simp only at hdz
           have HTn : Hid (t ++ dTx q k tg (j + 1) = t ++ dTx q k tg j ++ smTx q k j) := Lib.hid (by show t ++ (dTx q k tg j ++ smTx q k j) = _; rw [ByteArray.append_assoc])
           have Hrg : Hid ((List.range (j + 1)).map (mkSm q k) = (List.range j).map (mkSm q k) ++ [mkSm q k j]) := Lib.hid (by rw [List.range_succ, List.map_append]; rfl)
           have hnb : Hid (nmB j = ⟨#[110]⟩ ++ numT (j : Int)) := Lib.hid rfl
           have HQD := Lib.hid (HD3.out k hlt8)
           have hqs := num_small ⟨k, hlt8⟩
           simp only at hqs
           generalize (List.range j).map (mkSm q k) = acc at hg Hrg
           generalize t ++ dTx q k tg j = tj at htj HTn ⊢
           generalize numT (j : Int) = dg at HDj hdz hnb
           have hs1 : ((⟨#[110]⟩ : ByteArray) ++ dg).size = 1 + dg.size := ByteArray.size_append
           have i4 : (j : Int) < (m : Int) := by omega
           have hacc : acc.length ≤ 3 := by have := congrArg List.length Hrg.out; simp at this; omega
           clear HD HD3 HTp htz
           go_upto_region 21 with (first | (go_at_call 10; (with_reducible refine HDj.out.mono ?_); rintro e V2 ⟨rfl, hv2⟩))
           have hX0 := heap_made V2 #[.string (⟨#[110]⟩ ++ dg), .bool false, .int .i64 0, .int .i64 0] 40 _ rfl
           have hDX := heap_keep V2 (.cells #[.string (⟨#[110]⟩ ++ dg), .bool false, .int .i64 0, .int .i64 0] 40) (block_below hDV hv2 (by omega))
           have hvX := hv2.alloc hv2.size (.cells #[.string (⟨#[110]⟩ ++ dg), .bool false, .int .i64 0, .int .i64 0] 40)
           have hsX : V2.heap.size < (V2.alloc (.cells #[.string (⟨#[110]⟩ ++ dg), .bool false, .int .i64 0, .int .i64 0] 40)).heap.size := by simp
           have hgX := hg.below hvX
           have hbX := hbV.trans (hvX.mono (by omega))
           have hXV : V.heap.size ≤ V2.heap.size := hv2.size
           have HXo : Hid (∀ b, sv.ownBlock = some b → b ≠ V2.heap.size) := Lib.hid (fun b hb => by have := (hg.own.lt b hb).2; omega)
           generalize V2.alloc (.cells #[.string (⟨#[110]⟩ ++ dg), .bool false, .int .i64 0, .int .i64 0] 40) = V3 at hX0 hDX hvX hsX hgX hbX ⊢
           generalize V2.heap.size = X at hX0 hsX hXV HXo ⊢
           have hDlX : D < X := by omega
           clear hbV hDV hg hv2 hvX hsV HDj
           have d0 : V3.cell? ⟨D, 0, none⟩ = some (.int .i64 (1 + (q : Int))) := cell_of_row _ _ 0 _ _ _ hDX
           by_cases hj1 : j = 1
           · have jb1 : ((j : Int) == 1) = true := by rw [beq_iff_eq]; omega
             have jb2 : ((j : Int) == 2) = false := by rw [beq_eq_false_iff_ne]; omega
             by_cases hq4' : q < 4
             · have hl5 : (1 + (q : Int)) < 5 := by omega
               have hz : mkSm q k j = ⟨plusB, true, 0, 0⟩ := by unfold mkSm; rw [if_pos ⟨hj1, hq4'⟩]
               have hsm : smTx q k j = ⟨#[32, 39, 43, 39]⟩ := by unfold smTx; rw [if_pos ⟨hj1, hq4'⟩]
               have xf0 : V3.frozen? ⟨X, 0, none⟩ = false := free_of_block hX0
               have xf1 : V3.frozen? ⟨X, 1, none⟩ = false := free_of_block hX0
               have xf2 : V3.frozen? ⟨X, 2, none⟩ = false := free_of_block hX0
               have xf3 : V3.frozen? ⟨X, 3, none⟩ = false := free_of_block hX0
               have xc0 : V3.cell? ⟨X, 0, none⟩ = some (.string (⟨#[110]⟩ ++ dg)) := cell_of_row _ _ 0 _ _ _ hX0
               have xc1 : V3.cell? ⟨X, 1, none⟩ = some (.bool false) := cell_of_row _ _ 1 _ _ _ hX0
               have xc2 : V3.cell? ⟨X, 2, none⟩ = some (.int .i64 0) := cell_of_row _ _ 2 _ _ _ hX0
               have xc3 : V3.cell? ⟨X, 3, none⟩ = some (.int .i64 0) := cell_of_row _ _ 3 _ _ _ hX0
               go_upto_region 25 with fail
               have hother : ∀ b, b ≠ X → ((((V3.setCell ⟨X, 0, none⟩ (.string ⟨#[43]⟩)).setCell ⟨X, 1, none⟩ (.bool true)).setCell ⟨X, 2, none⟩ (.int .i64 0)).setCell ⟨X, 3, none⟩ (.int .i64 0)).heap[b]? = V3.heap[b]? := fun b hb => (Below.heap_setCell _ _ _ _ hb).trans ((Below.heap_setCell _ _ _ _ hb).trans ((Below.heap_setCell _ _ _ _ hb).trans (Below.heap_setCell _ _ _ _ hb)))
               have hXU : ((((V3.setCell ⟨X, 0, none⟩ (.string ⟨#[43]⟩)).setCell ⟨X, 1, none⟩ (.bool true)).setCell ⟨X, 2, none⟩ (.int .i64 0)).setCell ⟨X, 3, none⟩ (.int .i64 0)).heap[X]? = some (.cells #[.string ⟨#[43]⟩, .bool true, .int .i64 (0), .int .i64 0] 40 (0, 0)) := block_setCell (j := 3) (block_setCell (j := 2) (block_setCell (j := 1) (block_setCell (j := 0) hX0)))
               have hDU := (hother D (Nat.ne_of_lt hDlX)).trans hDX
               have hgU : GrowL (D + 1) 40 4 smR (fun _ => False) ((((V3.setCell ⟨X, 0, none⟩ (.string ⟨#[43]⟩)).setCell ⟨X, 1, none⟩ (.bool true)).setCell ⟨X, 2, none⟩ (.int .i64 0)).setCell ⟨X, 3, none⟩ (.int .i64 0)) sv ys acc := hgX.keep (fun b hb => hother b (by rcases hb with hb | hb; exact hb.elim; exact HXo.out b hb))
               have hbU : Below D W ((((V3.setCell ⟨X, 0, none⟩ (.string ⟨#[43]⟩)).setCell ⟨X, 1, none⟩ (.bool true)).setCell ⟨X, 2, none⟩ (.int .i64 0)).setCell ⟨X, 3, none⟩ (.int .i64 0)) := (((hbX.setCell (p := ⟨X, 0, none⟩) (Nat.le_of_lt hDlX) _).setCell (p := ⟨X, 1, none⟩) (Nat.le_of_lt hDlX) _).setCell (p := ⟨X, 2, none⟩) (Nat.le_of_lt hDlX) _).setCell (p := ⟨X, 3, none⟩) (Nat.le_of_lt hDlX) _
               have hsU : X < ((((V3.setCell ⟨X, 0, none⟩ (.string ⟨#[43]⟩)).setCell ⟨X, 1, none⟩ (.bool true)).setCell ⟨X, 2, none⟩ (.int .i64 0)).setCell ⟨X, 3, none⟩ (.int .i64 0)).heap.size := by simpa using hsX
               generalize ((((V3.setCell ⟨X, 0, none⟩ (.string ⟨#[43]⟩)).setCell ⟨X, 1, none⟩ (.bool true)).setCell ⟨X, 2, none⟩ (.int .i64 0)).setCell ⟨X, 3, none⟩ (.int .i64 0)) = V4 at hXU hDU hgU hbU hsU ⊢
               clear hother hX0 hDX hgX hbX hsX d0 xf0 xf1 xf2 xf3 xc0 xc1 xc2 xc3
               have d2 : V4.cell? ⟨D, 2, none⟩ = some sv := cell_of_row _ _ 2 _ _ _ hDU
               have x0 := cell_of_row V4 _ 0 _ _ _ hXU
               have x1 := cell_of_row V4 _ 1 _ _ _ hXU
               have x2 := cell_of_row V4 _ 2 _ _ _ hXU
               have x3 := cell_of_row V4 _ 3 _ _ _ hXU
               have hown := hgU.own
               have hob := fun g (h : sv.ownBlock = some g) => own_base hown (Nat.le_refl _) g h
               have hne : some D ≠ sv.ownBlock := fun h => by have := hob D h.symm; omega
               have hneX : some X ≠ sv.ownBlock := fun h => HXo.out X h.symm rfl
               obtain ⟨i0, hi, iz0, iz1, iz2⟩ := rd_info rdInfoSym
               have a2 := rdCell_alloc d2 (.cells #[.string ⟨#[43]⟩, .bool true, .int .i64 (0), .int .i64 0] 40)
               have fr2 := free_of_block (j := 2) (heap_keep _ (.cells #[.string ⟨#[43]⟩, .bool true, .int .i64 (0), .int .i64 0] 40) hDU)
               go_upto_region 26 with (first | (refine wpList_append_lies _ (by rfl) _ _ _ (by rfl) (D + 1) 40 i0 (.agg #[.string ByteArray.empty, .bool false, .int .i64 0, .int .i64 0]) 4 40 Tryd.underlying49 hi iz0 iz1 iz2 rfl (by omega) sv acc.length ys (by rfl) (hown.alloc _) ⟨V4.heap.size, 0, none⟩ 1 1 [.string ⟨#[43]⟩, .bool true, .int .i64 (0), .int .i64 0] (by rfl) (by rfl) (rd_news V4 _ _) (by simp [Value.oneCell']) (by omega) (by unfold maxLen; omega) (by omega) (by simp; omega) (V4.heap.size + 1) (by simp) ?_; intro gg cap w9 hown9 hgrow9 hat hlt9; have f9 : w9.cell? ⟨D, 2, none⟩ = some sv := hgrow9.cell a2 hne; have r9 := (hgrow9.frozen_far ⟨D, 2, none⟩ (show D < (V4.alloc _).heap.size from by simp; omega) hne).trans fr2))
               have k9 := (Below.refl V4.heap.size V4).alloc (Nat.le_refl _) (.cells #[.string ⟨#[43]⟩, .bool true, .int .i64 (0), .int .i64 0] 40)
               have hpu := hgU.box0 (j := 2) (x := mkSm q k j) (cs := [.string ⟨#[43]⟩, .bool true, .int .i64 (0), .int .i64 0]) k9 hown9 hgrow9 (own_new hat (by simp)) rfl (fun X => by rw [hz]; exact rfl) (Nat.lt_succ_self D) hDU
               rw [← Hrg.out] at hpu
               have hqD := hpu.2.2.1 D (Nat.le_refl _)
               have hX9 : (w9.setCell ⟨D, 2, none⟩ (.slice (some ⟨gg, 0, none⟩) (acc.length + 1) cap)).heap[X]? = some (.cells #[.string ⟨#[43]⟩, .bool true, .int .i64 (0), .int .i64 0] 40 (0, 0)) := (Below.heap_setCell _ _ _ _ (Nat.ne_of_gt hDlX)).trans ((hgrow9.block X (by simp; omega) hneX).trans (heap_keep _ _ hXU))
               have hb9 := hbU.trans ((k9.mono (by omega)).trans hqD)
               have hs9 : D + 1 ≤ (w9.setCell ⟨D, 2, none⟩ (.slice (some ⟨gg, 0, none⟩) (acc.length + 1) cap)).heap.size := by have := hqD.size; simp at this ⊢; omega
               clear hqD k9 d2 x0 x1 x2 x3 hown hob hne a2 fr2 f9 r9 hown9 hgrow9 hXU hDU hgU hbU hsU
               generalize w9.setCell ⟨D, 2, none⟩ (.slice (some ⟨gg, 0, none⟩) (acc.length + 1) cap) = V5 at hpu hX9 hb9 hs9 ⊢
               have x0 := cell_of_row V5 _ 0 _ _ _ hX9
               have x1 := cell_of_row V5 _ 1 _ _ _ hX9
               have x2 := cell_of_row V5 _ 2 _ _ _ hX9
               have q1 : (tj ++ (⟨#[32, 39, 43, 39]⟩ : ByteArray)).size = tj.size + 4 := ByteArray.size_append
               go_wp2_with fail
               go_round
               case rel => exact ⟨j + 1, _, _, by omega, congrArg Value.string (Eq.symm (by rw [HTn.out, hsm])), by go_num, hb9, hs9, hpu.2.1, hpu.1⟩
               case measure => simp [intOf]; omega
             · have hl5 : ¬ (1 + (q : Int)) < 5 := by omega
               have hz : mkSm q k j = ⟨nmB j, false, 0, 0⟩ := by unfold mkSm; rw [if_neg (by omega), if_neg (by omega)]
               have hsm : smTx q k j = ⟨#[32]⟩ ++ nmB j := by unfold smTx; rw [if_neg (by omega), if_neg (by omega)]
               go_upto_region 25 with fail
               have hXU := hX0
               have hDU := hDX
               have hgU := hgX
               have hbU := hbX
               have hsU := hsX
               generalize V3 = V4 at hXU hDU hgU hbU hsU ⊢
               clear hX0 hDX hgX hbX hsX d0
               have d2 : V4.cell? ⟨D, 2, none⟩ = some sv := cell_of_row _ _ 2 _ _ _ hDU
               have x0 := cell_of_row V4 _ 0 _ _ _ hXU
               have x1 := cell_of_row V4 _ 1 _ _ _ hXU
               have x2 := cell_of_row V4 _ 2 _ _ _ hXU
               have x3 := cell_of_row V4 _ 3 _ _ _ hXU
               have hown := hgU.own
               have hob := fun g (h : sv.ownBlock = some g) => own_base hown (Nat.le_refl _) g h
               have hne : some D ≠ sv.ownBlock := fun h => by have := hob D h.symm; omega
               have hneX : some X ≠ sv.ownBlock := fun h => HXo.out X h.symm rfl
               obtain ⟨i0, hi, iz0, iz1, iz2⟩ := rd_info rdInfoSym
               have a2 := rdCell_alloc d2 (.cells #[.string (⟨#[110]⟩ ++ dg), .bool false, .int .i64 (0), .int .i64 0] 40)
               have fr2 := free_of_block (j := 2) (heap_keep _ (.cells #[.string (⟨#[110]⟩ ++ dg), .bool false, .int .i64 (0), .int .i64 0] 40) hDU)
               go_upto_region 26 with (first | (refine wpList_append_lies _ (by rfl) _ _ _ (by rfl) (D + 1) 40 i0 (.agg #[.string ByteArray.empty, .bool false, .int .i64 0, .int .i64 0]) 4 40 Tryd.underlying49 hi iz0 iz1 iz2 rfl (by omega) sv acc.length ys (by rfl) (hown.alloc _) ⟨V4.heap.size, 0, none⟩ 1 1 [.string (⟨#[110]⟩ ++ dg), .bool false, .int .i64 (0), .int .i64 0] (by rfl) (by rfl) (rd_news V4 _ _) (by simp [Value.oneCell']) (by omega) (by unfold maxLen; omega) (by omega) (by simp; omega) (V4.heap.size + 1) (by simp) ?_; intro gg cap w9 hown9 hgrow9 hat hlt9; have f9 : w9.cell? ⟨D, 2, none⟩ = some sv := hgrow9.cell a2 hne; have r9 := (hgrow9.frozen_far ⟨D, 2, none⟩ (show D < (V4.alloc _).heap.size from by simp; omega) hne).trans fr2))
               have k9 := (Below.refl V4.heap.size V4).alloc (Nat.le_refl _) (.cells #[.string (⟨#[110]⟩ ++ dg), .bool false, .int .i64 (0), .int .i64 0] 40)
               have hpu := hgU.box0 (j := 2) (x := mkSm q k j) (cs := [.string (⟨#[110]⟩ ++ dg), .bool false, .int .i64 (0), .int .i64 0]) k9 hown9 hgrow9 (own_new hat (by simp)) rfl (fun X => by rw [hz]; unfold smR; rw [show (⟨nmB j, false, 0, 0⟩ : Sm).name = (⟨#[110]⟩ : ByteArray) ++ dg from hnb.out]) (Nat.lt_succ_self D) hDU
               rw [← Hrg.out] at hpu
               have hqD := hpu.2.2.1 D (Nat.le_refl _)
               have hX9 : (w9.setCell ⟨D, 2, none⟩ (.slice (some ⟨gg, 0, none⟩) (acc.length + 1) cap)).heap[X]? = some (.cells #[.string (⟨#[110]⟩ ++ dg), .bool false, .int .i64 (0), .int .i64 0] 40 (0, 0)) := (Below.heap_setCell _ _ _ _ (Nat.ne_of_gt hDlX)).trans ((hgrow9.block X (by simp; omega) hneX).trans (heap_keep _ _ hXU))
               have hb9 := hbU.trans ((k9.mono (by omega)).trans hqD)
               have hs9 : D + 1 ≤ (w9.setCell ⟨D, 2, none⟩ (.slice (some ⟨gg, 0, none⟩) (acc.length + 1) cap)).heap.size := by have := hqD.size; simp at this ⊢; omega
               clear hqD k9 d2 x0 x1 x2 x3 hown hob hne a2 fr2 f9 r9 hown9 hgrow9 hXU hDU hgU hbU hsU
               generalize w9.setCell ⟨D, 2, none⟩ (.slice (some ⟨gg, 0, none⟩) (acc.length + 1) cap) = V5 at hpu hX9 hb9 hs9 ⊢
               have x0 := cell_of_row V5 _ 0 _ _ _ hX9
               have x1 := cell_of_row V5 _ 1 _ _ _ hX9
               have x2 := cell_of_row V5 _ 2 _ _ _ hX9
               have q1 : (tj ++ (⟨#[32]⟩ : ByteArray)).size = tj.size + 1 := ByteArray.size_append
               have q2 : (tj ++ (⟨#[32]⟩ : ByteArray) ++ (⟨#[110]⟩ ++ dg)).size = tj.size + 1 + (1 + dg.size) := by rw [ByteArray.size_append, q1, hs1]
               go_wp2_with fail
               go_round
               case rel => exact ⟨j + 1, _, _, by omega, congrArg Value.string (Eq.symm (by rw [HTn.out, hsm, hnb.out]; simp only [ByteArray.append_assoc])), by go_num, hb9, hs9, hpu.2.1, hpu.1⟩
               case measure => simp [intOf]; omega
           · have jb1 : ((j : Int) == 1) = false := by rw [beq_eq_false_iff_ne]; omega
             by_cases hj2 : j = 2
             · have jb2 : ((j : Int) == 2) = true := by rw [beq_iff_eq]; omega
               by_cases hq0 : q = 0
               · have qb : ((1 + (q : Int)) == 1) = true := by rw [beq_iff_eq]; omega
                 have hz : mkSm q k j = ⟨nmB j, false, 300 + (k : Int), 0⟩ := by unfold mkSm; rw [if_neg (by omega), if_pos ⟨hj2, hq0⟩]
                 have hsm : smTx q k j = ⟨#[32]⟩ ++ nmB j ++ ⟨#[32]⟩ ++ numT (300 + (k : Int)) := by unfold smTx; rw [if_neg (by omega), if_pos ⟨hj2, hq0⟩]
                 have xf2 : V3.frozen? ⟨X, 2, none⟩ = false := free_of_block hX0
                 have xc2 : V3.cell? ⟨X, 2, none⟩ = some (.int .i64 0) := cell_of_row _ _ 2 _ _ _ hX0
                 go_upto_region 25 with fail
                 have hother : ∀ b, b ≠ X → (V3.setCell ⟨X, 2, none⟩ (.int .i64 (300 + (k : Int)))).heap[b]? = V3.heap[b]? := fun b hb => Below.heap_setCell _ _ _ _ hb
                 have hXU : (V3.setCell ⟨X, 2, none⟩ (.int .i64 (300 + (k : Int)))).heap[X]? = some (.cells #[.string (⟨#[110]⟩ ++ dg), .bool false, .int .i64 (300 + (k : Int)), .int .i64 0] 40 (0, 0)) := block_setCell (j := 2) hX0
                 have hDU := (hother D (Nat.ne_of_lt hDlX)).trans hDX
                 have hgU : GrowL (D + 1) 40 4 smR (fun _ => False) (V3.setCell ⟨X, 2, none⟩ (.int .i64 (300 + (k : Int)))) sv ys acc := hgX.keep (fun b hb => hother b (by rcases hb with hb | hb; exact hb.elim; exact HXo.out b hb))
                 have hbU : Below D W (V3.setCell ⟨X, 2, none⟩ (.int .i64 (300 + (k : Int)))) := hbX.setCell (p := ⟨X, 2, none⟩) (Nat.le_of_lt hDlX) _
                 have hsU : X < (V3.setCell ⟨X, 2, none⟩ (.int .i64 (300 + (k : Int)))).heap.size := by simpa using hsX
                 generalize (V3.setCell ⟨X, 2, none⟩ (.int .i64 (300 + (k : Int)))) = V4 at hXU hDU hgU hbU hsU ⊢
                 clear hother hX0 hDX hgX hbX hsX d0 xf2 xc2
                 have d2 : V4.cell? ⟨D, 2, none⟩ = some sv := cell_of_row _ _ 2 _ _ _ hDU
                 have x0 := cell_of_row V4 _ 0 _ _ _ hXU
                 have x1 := cell_of_row V4 _ 1 _ _ _ hXU
                 have x2 := cell_of_row V4 _ 2 _ _ _ hXU
                 have x3 := cell_of_row V4 _ 3 _ _ _ hXU
                 have hown := hgU.own
                 have hob := fun g (h : sv.ownBlock = some g) => own_base hown (Nat.le_refl _) g h
                 have hne : some D ≠ sv.ownBlock := fun h => by have := hob D h.symm; omega
                 have hneX : some X ≠ sv.ownBlock := fun h => HXo.out X h.symm rfl
                 obtain ⟨i0, hi, iz0, iz1, iz2⟩ := rd_info rdInfoSym
                 have a2 := rdCell_alloc d2 (.cells #[.string (⟨#[110]⟩ ++ dg), .bool false, .int .i64 (300 + (k : Int)), .int .i64 0] 40)
                 have fr2 := free_of_block (j := 2) (heap_keep _ (.cells #[.string (⟨#[110]⟩ ++ dg), .bool false, .int .i64 (300 + (k : Int)), .int .i64 0] 40) hDU)
                 go_upto_region 26 with (first | (refine wpList_append_lies _ (by rfl) _ _ _ (by rfl) (D + 1) 40 i0 (.agg #[.string ByteArray.empty, .bool false, .int .i64 0, .int .i64 0]) 4 40 Tryd.underlying49 hi iz0 iz1 iz2 rfl (by omega) sv acc.length ys (by rfl) (hown.alloc _) ⟨V4.heap.size, 0, none⟩ 1 1 [.string (⟨#[110]⟩ ++ dg), .bool false, .int .i64 (300 + (k : Int)), .int .i64 0] (by rfl) (by rfl) (rd_news V4 _ _) (by simp [Value.oneCell']) (by omega) (by unfold maxLen; omega) (by omega) (by simp; omega) (V4.heap.size + 1) (by simp) ?_; intro gg cap w9 hown9 hgrow9 hat hlt9; have f9 : w9.cell? ⟨D, 2, none⟩ = some sv := hgrow9.cell a2 hne; have r9 := (hgrow9.frozen_far ⟨D, 2, none⟩ (show D < (V4.alloc _).heap.size from by simp; omega) hne).trans fr2))
                 have k9 := (Below.refl V4.heap.size V4).alloc (Nat.le_refl _) (.cells #[.string (⟨#[110]⟩ ++ dg), .bool false, .int .i64 (300 + (k : Int)), .int .i64 0] 40)
                 have hpu := hgU.box0 (j := 2) (x := mkSm q k j) (cs := [.string (⟨#[110]⟩ ++ dg), .bool false, .int .i64 (300 + (k : Int)), .int .i64 0]) k9 hown9 hgrow9 (own_new hat (by simp)) rfl (fun X => by rw [hz]; unfold smR; rw [show (⟨nmB j, false, 300 + (k : Int), 0⟩ : Sm).name = (⟨#[110]⟩ : ByteArray) ++ dg from hnb.out]) (Nat.lt_succ_self D) hDU
                 rw [← Hrg.out] at hpu
                 have hqD := hpu.2.2.1 D (Nat.le_refl _)
                 have hX9 : (w9.setCell ⟨D, 2, none⟩ (.slice (some ⟨gg, 0, none⟩) (acc.length + 1) cap)).heap[X]? = some (.cells #[.string (⟨#[110]⟩ ++ dg), .bool false, .int .i64 (300 + (k : Int)), .int .i64 0] 40 (0, 0)) := (Below.heap_setCell _ _ _ _ (Nat.ne_of_gt hDlX)).trans ((hgrow9.block X (by simp; omega) hneX).trans (heap_keep _ _ hXU))
                 have hb9 := hbU.trans ((k9.mono (by omega)).trans hqD)
                 have hs9 : D + 1 ≤ (w9.setCell ⟨D, 2, none⟩ (.slice (some ⟨gg, 0, none⟩) (acc.length + 1) cap)).heap.size := by have := hqD.size; simp at this ⊢; omega
                 clear hqD k9 d2 x0 x1 x2 x3 hown hob hne a2 fr2 f9 r9 hown9 hgrow9 hXU hDU hgU hbU hsU
                 generalize w9.setCell ⟨D, 2, none⟩ (.slice (some ⟨gg, 0, none⟩) (acc.length + 1) cap) = V5 at hpu hX9 hb9 hs9 ⊢
                 have x0 := cell_of_row V5 _ 0 _ _ _ hX9
                 have x1 := cell_of_row V5 _ 1 _ _ _ hX9
                 have x2 := cell_of_row V5 _ 2 _ _ _ hX9
                 have HQV := Lib.hid (HQD.out V5)
                 generalize numT (300 + (k : Int)) = dn at HQV hqs hsm
                 have q1 : (tj ++ (⟨#[32]⟩ : ByteArray)).size = tj.size + 1 := ByteArray.size_append
                 have q2 : (tj ++ (⟨#[32]⟩ : ByteArray) ++ (⟨#[110]⟩ ++ dg)).size = tj.size + 1 + (1 + dg.size) := by rw [ByteArray.size_append, q1, hs1]
                 have q3 : (tj ++ (⟨#[32]⟩ : ByteArray) ++ (⟨#[110]⟩ ++ dg) ++ (⟨#[32]⟩ : ByteArray)).size = tj.size + 1 + (1 + dg.size) + 1 := by rw [ByteArray.size_append, q2]; rfl
                 have i7 : (300 + (k : Int)) > 0 := by omega
                 go_wp2_with (first | (go_at_call 10; (with_reducible refine HQV.out.mono ?_); rintro e V6 ⟨rfl, hv6⟩))
                 go_round
                 case rel => exact ⟨j + 1, _, _, by omega, congrArg Value.string (Eq.symm (by rw [HTn.out, hsm, hnb.out]; simp only [ByteArray.append_assoc])), by go_num, hb9.trans (hv6.mono (by omega)), Nat.le_trans hs9 hv6.size, block_below hpu.2.1 hv6 (by omega), hpu.1.below hv6⟩
                 case measure => simp [intOf]; omega
               · have qb : ((1 + (q : Int)) == 1) = false := by rw [beq_eq_false_iff_ne]; omega
                 have hz : mkSm q k j = ⟨nmB j, false, 0, 0⟩ := by unfold mkSm; rw [if_neg (by omega), if_neg (by omega)]
                 have hsm : smTx q k j = ⟨#[32]⟩ ++ nmB j := by unfold smTx; rw [if_neg (by omega), if_neg (by omega)]
                 go_upto_region 25 with fail
                 have hXU := hX0
                 have hDU := hDX
                 have hgU := hgX
                 have hbU := hbX
                 have hsU := hsX
                 generalize V3 = V4 at hXU hDU hgU hbU hsU ⊢
                 clear hX0 hDX hgX hbX hsX d0
                 have d2 : V4.cell? ⟨D, 2, none⟩ = some sv := cell_of_row _ _ 2 _ _ _ hDU
                 have x0 := cell_of_row V4 _ 0 _ _ _ hXU
                 have x1 := cell_of_row V4 _ 1 _ _ _ hXU
                 have x2 := cell_of_row V4 _ 2 _ _ _ hXU
                 have x3 := cell_of_row V4 _ 3 _ _ _ hXU
                 have hown := hgU.own
                 have hob := fun g (h : sv.ownBlock = some g) => own_base hown (Nat.le_refl _) g h
                 have hne : some D ≠ sv.ownBlock := fun h => by have := hob D h.symm; omega
                 have hneX : some X ≠ sv.ownBlock := fun h => HXo.out X h.symm rfl
                 obtain ⟨i0, hi, iz0, iz1, iz2⟩ := rd_info rdInfoSym
                 have a2 := rdCell_alloc d2 (.cells #[.string (⟨#[110]⟩ ++ dg), .bool false, .int .i64 (0), .int .i64 0] 40)
                 have fr2 := free_of_block (j := 2) (heap_keep _ (.cells #[.string (⟨#[110]⟩ ++ dg), .bool false, .int .i64 (0), .int .i64 0] 40) hDU)
                 go_upto_region 26 with (first | (refine wpList_append_lies _ (by rfl) _ _ _ (by rfl) (D + 1) 40 i0 (.agg #[.string ByteArray.empty, .bool false, .int .i64 0, .int .i64 0]) 4 40 Tryd.underlying49 hi iz0 iz1 iz2 rfl (by omega) sv acc.length ys (by rfl) (hown.alloc _) ⟨V4.heap.size, 0, none⟩ 1 1 [.string (⟨#[110]⟩ ++ dg), .bool false, .int .i64 (0), .int .i64 0] (by rfl) (by rfl) (rd_news V4 _ _) (by simp [Value.oneCell']) (by omega) (by unfold maxLen; omega) (by omega) (by simp; omega) (V4.heap.size + 1) (by simp) ?_; intro gg cap w9 hown9 hgrow9 hat hlt9; have f9 : w9.cell? ⟨D, 2, none⟩ = some sv := hgrow9.cell a2 hne; have r9 := (hgrow9.frozen_far ⟨D, 2, none⟩ (show D < (V4.alloc _).heap.size from by simp; omega) hne).trans fr2))
                 have k9 := (Below.refl V4.heap.size V4).alloc (Nat.le_refl _) (.cells #[.string (⟨#[110]⟩ ++ dg), .bool false, .int .i64 (0), .int .i64 0] 40)
                 have hpu := hgU.box0 (j := 2) (x := mkSm q k j) (cs := [.string (⟨#[110]⟩ ++ dg), .bool false, .int .i64 (0), .int .i64 0]) k9 hown9 hgrow9 (own_new hat (by simp)) rfl (fun X => by rw [hz]; unfold smR; rw [show (⟨nmB j, false, 0, 0⟩ : Sm).name = (⟨#[110]⟩ : ByteArray) ++ dg from hnb.out]) (Nat.lt_succ_self D) hDU
                 rw [← Hrg.out] at hpu
                 have hqD := hpu.2.2.1 D (Nat.le_refl _)
                 have hX9 : (w9.setCell ⟨D, 2, none⟩ (.slice (some ⟨gg, 0, none⟩) (acc.length + 1) cap)).heap[X]? = some (.cells #[.string (⟨#[110]⟩ ++ dg), .bool false, .int .i64 (0), .int .i64 0] 40 (0, 0)) := (Below.heap_setCell _ _ _ _ (Nat.ne_of_gt hDlX)).trans ((hgrow9.block X (by simp; omega) hneX).trans (heap_keep _ _ hXU))
                 have hb9 := hbU.trans ((k9.mono (by omega)).trans hqD)
                 have hs9 : D + 1 ≤ (w9.setCell ⟨D, 2, none⟩ (.slice (some ⟨gg, 0, none⟩) (acc.length + 1) cap)).heap.size := by have := hqD.size; simp at this ⊢; omega
                 clear hqD k9 d2 x0 x1 x2 x3 hown hob hne a2 fr2 f9 r9 hown9 hgrow9 hXU hDU hgU hbU hsU
                 generalize w9.setCell ⟨D, 2, none⟩ (.slice (some ⟨gg, 0, none⟩) (acc.length + 1) cap) = V5 at hpu hX9 hb9 hs9 ⊢
                 have x0 := cell_of_row V5 _ 0 _ _ _ hX9
                 have x1 := cell_of_row V5 _ 1 _ _ _ hX9
                 have x2 := cell_of_row V5 _ 2 _ _ _ hX9
                 have q1 : (tj ++ (⟨#[32]⟩ : ByteArray)).size = tj.size + 1 := ByteArray.size_append
                 have q2 : (tj ++ (⟨#[32]⟩ : ByteArray) ++ (⟨#[110]⟩ ++ dg)).size = tj.size + 1 + (1 + dg.size) := by rw [ByteArray.size_append, q1, hs1]
                 go_wp2_with fail
                 go_round
                 case rel => exact ⟨j + 1, _, _, by omega, congrArg Value.string (Eq.symm (by rw [HTn.out, hsm, hnb.out]; simp only [ByteArray.append_assoc])), by go_num, hb9, hs9, hpu.2.1, hpu.1⟩
                 case measure => simp [intOf]; omega
             · have jb2 : ((j : Int) == 2) = false := by rw [beq_eq_false_iff_ne]; omega
               have hz : mkSm q k j = ⟨nmB j, false, 0, 0⟩ := by unfold mkSm; rw [if_neg (by omega), if_neg (by omega)]
               have hsm : smTx q k j = ⟨#[32]⟩ ++ nmB j := by unfold smTx; rw [if_neg (by omega), if_neg (by omega)]
               go_upto_region 25 with fail
               have hXU := hX0
               have hDU := hDX
               have hgU := hgX
               have hbU := hbX
               have hsU := hsX
               generalize V3 = V4 at hXU hDU hgU hbU hsU ⊢
               clear hX0 hDX hgX hbX hsX d0
               have d2 : V4.cell? ⟨D, 2, none⟩ = some sv := cell_of_row _ _ 2 _ _ _ hDU
               have x0 := cell_of_row V4 _ 0 _ _ _ hXU
               have x1 := cell_of_row V4 _ 1 _ _ _ hXU
               have x2 := cell_of_row V4 _ 2 _ _ _ hXU
               have x3 := cell_of_row V4 _ 3 _ _ _ hXU
               have hown := hgU.own
               have hob := fun g (h : sv.ownBlock = some g) => own_base hown (Nat.le_refl _) g h
               have hne : some D ≠ sv.ownBlock := fun h => by have := hob D h.symm; omega
               have hneX : some X ≠ sv.ownBlock := fun h => HXo.out X h.symm rfl
               obtain ⟨i0, hi, iz0, iz1, iz2⟩ := rd_info rdInfoSym
               have a2 := rdCell_alloc d2 (.cells #[.string (⟨#[110]⟩ ++ dg), .bool false, .int .i64 (0), .int .i64 0] 40)
               have fr2 := free_of_block (j := 2) (heap_keep _ (.cells #[.string (⟨#[110]⟩ ++ dg), .bool false, .int .i64 (0), .int .i64 0] 40) hDU)
               go_upto_region 26 with (first | (refine wpList_append_lies _ (by rfl) _ _ _ (by rfl) (D + 1) 40 i0 (.agg #[.string ByteArray.empty, .bool false, .int .i64 0, .int .i64 0]) 4 40 Tryd.underlying49 hi iz0 iz1 iz2 rfl (by omega) sv acc.length ys (by rfl) (hown.alloc _) ⟨V4.heap.size, 0, none⟩ 1 1 [.string (⟨#[110]⟩ ++ dg), .bool false, .int .i64 (0), .int .i64 0] (by rfl) (by rfl) (rd_news V4 _ _) (by simp [Value.oneCell']) (by omega) (by unfold maxLen; omega) (by omega) (by simp; omega) (V4.heap.size + 1) (by simp) ?_; intro gg cap w9 hown9 hgrow9 hat hlt9; have f9 : w9.cell? ⟨D, 2, none⟩ = some sv := hgrow9.cell a2 hne; have r9 := (hgrow9.frozen_far ⟨D, 2, none⟩ (show D < (V4.alloc _).heap.size from by simp; omega) hne).trans fr2))
               have k9 := (Below.refl V4.heap.size V4).alloc (Nat.le_refl _) (.cells #[.string (⟨#[110]⟩ ++ dg), .bool false, .int .i64 (0), .int .i64 0] 40)
               have hpu := hgU.box0 (j := 2) (x := mkSm q k j) (cs := [.string (⟨#[110]⟩ ++ dg), .bool false, .int .i64 (0), .int .i64 0]) k9 hown9 hgrow9 (own_new hat (by simp)) rfl (fun X => by rw [hz]; unfold smR; rw [show (⟨nmB j, false, 0, 0⟩ : Sm).name = (⟨#[110]⟩ : ByteArray) ++ dg from hnb.out]) (Nat.lt_succ_self D) hDU
               rw [← Hrg.out] at hpu
               have hqD := hpu.2.2.1 D (Nat.le_refl _)
               have hX9 : (w9.setCell ⟨D, 2, none⟩ (.slice (some ⟨gg, 0, none⟩) (acc.length + 1) cap)).heap[X]? = some (.cells #[.string (⟨#[110]⟩ ++ dg), .bool false, .int .i64 (0), .int .i64 0] 40 (0, 0)) := (Below.heap_setCell _ _ _ _ (Nat.ne_of_gt hDlX)).trans ((hgrow9.block X (by simp; omega) hneX).trans (heap_keep _ _ hXU))
               have hb9 := hbU.trans ((k9.mono (by omega)).trans hqD)
               have hs9 : D + 1 ≤ (w9.setCell ⟨D, 2, none⟩ (.slice (some ⟨gg, 0, none⟩) (acc.length + 1) cap)).heap.size := by have := hqD.size; simp at this ⊢; omega
               clear hqD k9 d2 x0 x1 x2 x3 hown hob hne a2 fr2 f9 r9 hown9 hgrow9 hXU hDU hgU hbU hsU
               generalize w9.setCell ⟨D, 2, none⟩ (.slice (some ⟨gg, 0, none⟩) (acc.length + 1) cap) = V5 at hpu hX9 hb9 hs9 ⊢
               have x0 := cell_of_row V5 _ 0 _ _ _ hX9
               have x1 := cell_of_row V5 _ 1 _ _ _ hX9
               have x2 := cell_of_row V5 _ 2 _ _ _ hX9
               have q1 : (tj ++ (⟨#[32]⟩ : ByteArray)).size = tj.size + 1 := ByteArray.size_append
               have q2 : (tj ++ (⟨#[32]⟩ : ByteArray) ++ (⟨#[110]⟩ ++ dg)).size = tj.size + 1 + (1 + dg.size) := by rw [ByteArray.size_append, q1, hs1]
               go_wp2_with fail
               go_round
               case rel => exact ⟨j + 1, _, _, by omega, congrArg Value.string (Eq.symm (by rw [HTn.out, hsm, hnb.out]; simp only [ByteArray.append_assoc])), by go_num, hb9, hs9, hpu.2.1, hpu.1⟩
               case measure => simp [intOf]; omega
         · obtain rfl : j = m := by omega
           have hds := dc_all ⟨q, hq⟩ ⟨k, hlt8⟩ tg ⟨j, by omega⟩ (by
            unfold okQ
            simp only [Bool.and_eq_true, decide_eq_true_iff, Bool.or_eq_true, Bool.not_eq_true', beq_iff_eq, beq_eq_false_iff_ne]
            refine ⟨⟨⟨⟨hm1, hm3⟩, hq⟩, ?_⟩, ?_⟩
            · by_cases h : q = 4
              · exact .inr (hq4 h)
              · exact .inl h
            · by_cases h : q = 5
              · exact .inr ⟨hq5 h, hq5m h⟩
              · exact .inl h)
           simp only [Bool.and_eq_true, beq_iff_eq] at hds
           obtain ⟨hmay, htx⟩ := hds
           have HTx := Lib.hid (HTp.out _ _ htx)
           have hdz := dTx_small ⟨q, hq⟩ ⟨k, hlt8⟩ tg ⟨j, by omega⟩
           simp only at hdz
           have htz2 : (t ++ dTx q k tg j).size = t.size + (dTx q k tg j).size := ByteArray.size_append
           have htz3 : (t ++ dTx q k tg j ++ (⟨#[10]⟩ : ByteArray)).size = t.size + (dTx q k tg j).size + 1 := by rw [ByteArray.size_append, htz2]; rfl
           have HMy2 : Hid (∀ d ∈ ds ++ [mkDc q k tg j], mayDc d = true) := Lib.hid (fun d hd => by
            rcases List.mem_append.1 hd with hd | hd
            · exact HMy.out d hd
            · rw [List.mem_singleton.1 hd]; exact hmay)
           have hsyms : (mkDc q k tg j).syms = (List.range j).map (mkSm q k) := rfl
           have hdc : ∀ (w' : World) (cs : List Value), (∃ v, cs = [.int .i64 (1 + (q : Int)), .string (tgB tg), v, .int .i64 0] ∧ ListV 4 smR w' v ((List.range j).map (mkSm q k))) → dcR w' cs (mkDc q k tg j) := fun w' cs h => h
           generalize mkDc q k tg j = dn at HTx HMy2 hdc
           generalize (List.range j).map (mkSm q k) = acc at hg hdc
           generalize dTx q k tg j = tj at HTx hdz htz2 htz3 ⊢
           clear HTp HD HD3 hmay htx HMy hsyms
           obtain ⟨sa, sc, hsv⟩ := rd_slice hg.own
           have hsn : acc.length = acc.length := rfl
           generalize acc.length = sn at hsv
           subst hsv
           have hbV' : Below W.heap.size W V := by rw [hDe]; exact hbV
           have hGV := hG.below hbV'
           have hown := hGV.own
           have d0 := cell_of_row V _ 0 _ _ _ hDV
           have d1 := cell_of_row V _ 1 _ _ _ hDV
           have d2 := cell_of_row V _ 2 _ _ _ hDV
           have d3 := cell_of_row V _ 3 _ _ _ hDV
           obtain ⟨i0, hi, iz0, iz1, iz2⟩ := rd_info rdInfoDecl
           have hBW : w2.heap.size ≤ W.heap.size := hbr.size
           have i4 : ¬ (j : Int) < (j : Int) := by omega
           have hxo : ∀ b, u6.ownBlock = some b → b < D := fun b hb => by have := (hG.own.lt b hb).2; omega
           go_upto_region 32 with (first | (refine wpList_append_lies _ (by rfl) _ _ _ (by rfl) w2.heap.size 51 i0 (.agg #[.int .i64 0, .string ByteArray.empty, .slice none 0 0, .int .i64 0]) 4 56 Tryd.underlying26 hi iz0 iz1 iz2 rfl (by omega) u6 ds.length xs (by rfl) (hown.alloc _) ⟨V.heap.size, 0, none⟩ 1 1 [.int .i64 (1 + (q : Int)), .string (tgB tg), .slice sa sn sc, .int .i64 0] (by rfl) (by rfl) (rd_news V _ _) (by simp [Value.oneCell']) (by omega) (by unfold maxLen; omega) (by omega) (by simp; omega) (V.heap.size + 1) (by simp) ?_; intro gg cap w9 hown9 hgrow9 hat hlt9))
           have k9 := (Below.refl V.heap.size V).alloc (Nat.le_refl _) (.cells #[.int .i64 (1 + (q : Int)), .string (tgB tg), .slice sa sn sc, .int .i64 0] 51)
           have hp9 := (hGV.below k9).push (x := dn) (cs := [.int .i64 (1 + (q : Int)), .string (tgB tg), .slice sa sn sc, .int .i64 0]) hown9 hgrow9 (own_new hat (by simp)) rfl (Firm.imp ((hg.firm (by omega)).below k9) (fun w' h => hdc w' _ ⟨_, rfl, h⟩)) (fun b hb hS => by
            have h1 := hxo b hb
            rcases hS with hS | hS
            · exact hS
            · have := own_base hg.own (Nat.le_refl _) b hS
              omega)
           have hbV2 : Below w2.heap.size w2 V := hbr.trans (hbV'.mono hbr.size)
           have hb9 : Below w2.heap.size w2 w9 := (hbV2.trans (k9.mono hbV2.size)).grown hgrow9 (by simp; have := hbV2.size; omega) (fun b hb => (hG.own.lt b hb).1)
           have HS9 : Hid (∀ b, (S b ∨ (False ∨ (Value.slice sa sn sc).ownBlock = some b)) → w2.heap.size ≤ b) := Lib.hid (fun b hb => by
            rcases hb with hb | hb | hb
            · exact HS.out b hb
            · exact hb.elim
            · have := own_base hg.own (Nat.le_refl _) b hb
              omega)
           rw [hl] at hp9
           clear hown9 hgrow9 k9 d0 d1 d2 d3 hown hGV hg hDV hbV2 hbV' hbV
           go_wp2_with fail
           go_round
           case rel => exact ⟨k + 1, ds ++ [dn], _, _, by omega, by omega, by simp [hl], congrArg Value.string HTx.out, by rw [← HTx.out, htz3]; omega, by go_num, hb9, hp9, HS9, HMy2⟩
           case measure => simp [intOf]; omega
  · have hdsl : DcsV W u6 ds := hG.list (by omega)
    obtain ⟨ua, uc, hu6⟩ := rd_slice hG.own
    clear hG
    generalize ds.length = dl at hu6
    subst hu6
    have hbw := hb2.trans (hbr.mono hb2.size)
    have hend := T8_end ds
    have hsz9 : (T8 ds ++ (⟨#[37, 37, 32, 97, 32, 58, 32, 59]⟩ : ByteArray)).size = (T8 ds).size + 8 := ByteArray.size_append
    obtain ⟨y, hy, hsame⟩ := dcs_back HMy.out (by rw [← hend, hsz9]; omega)
    have HL := Lib.hid (readL_any (T8 ds ++ (⟨#[37, 37, 32, 97, 32, 58, 32, 59]⟩ : ByteArray)) W (by omega) (HM.out _ hbw))
    rw [hend, hy] at HL
    rw [hend] at hsz9
    unfold ReadGo at HL
    simp only at HL
    rw [← hend] at HL hsz9
    have htz4 : (T8 ds).size ≤ 400 := by omega
    generalize T8 ds = t at HL hsz9 htz4 ⊢
    clear hend hy htz HMy HS hx hx2 HF1 HF2 HN6 HN3 HD HD3 HKy HM
    by_cases hkn : k < n
    all_goals
     go_upto_region 34 with (first | (go_at_call 11; (with_reducible refine HL.out.mono ?_); rintro r w4 ⟨d, g, n1, c1, m2, k2, S1, rfl, hF1, hS1, hb4⟩))
     have hb5 : Below w4.heap.size w4 ((w4.alloc (.cells #[.string y.pro, .slice d n1 c1, .slice g m2 k2, .string y.tail] 29)).alloc (.cells #[.int .i64 0, .int .i64 0, .string ByteArray.empty] 32)) := ((Below.refl w4.heap.size w4).alloc (Nat.le_refl _) _).alloc (by simp) _
     have HC2 : Hid (∀ W, Below ((w4.alloc (.cells #[.string y.pro, .slice d n1 c1, .slice g m2 k2, .string y.tail] 29)).alloc (.cells #[.int .i64 0, .int .i64 0, .string ByteArray.empty] 32)).heap.size ((w4.alloc (.cells #[.string y.pro, .slice d n1 c1, .slice g m2 k2, .string y.tail] 29)).alloc (.cells #[.int .i64 0, .int .i64 0, .string ByteArray.empty] 32)) W → (∀ i u, (#[.string y.pro, .slice d n1 c1, .slice g m2 k2, .string y.tail] : Array Value)[i]? = some u → W.cell? ⟨w4.heap.size, i, none⟩ = some u) ∧ (∀ i u, (#[.int .i64 0, .int .i64 0, .string ByteArray.empty] : Array Value)[i]? = some u → W.cell? ⟨w4.heap.size + 1, i, none⟩ = some u)) := Lib.hid (fun W h => boxes2 h)
     have HV : Hid (∀ W, Below w4.heap.size w4 W → SoV W (.agg #[.string y.pro, .slice d n1 c1, .slice g m2 k2, .string y.tail]) y) := Lib.hid (fun W h => far_firm hF1 h)
     have hW5 := hb4.trans (hb5.mono hb4.size)
     generalize ((w4.alloc (.cells #[.string y.pro, .slice d n1 c1, .slice g m2 k2, .string y.tail] 29)).alloc (.cells #[.int .i64 0, .int .i64 0, .string ByteArray.empty] 32)) = w5 at hb5 HC2 hW5 ⊢
     generalize hB4 : w4.heap.size = B4 at HC2 ⊢
     have hq5 : Below w5.heap.size w5 ((w5.alloc (.cells #[.slice none 0 0, .string ⟨#[]⟩, .bool false, .int .i64 0, .int .i64 0, .int .i64 0] 42)).alloc (.cells #[.string ⟨#[97]⟩, .slice (some ⟨w5.heap.size, 0, none⟩) 1 1, .int .i64 0] 37)) := ((Below.refl w5.heap.size w5).alloc (Nat.le_refl _) _).alloc (by simp) _
     have hA := heap_keep (w5.alloc (.cells #[.slice none 0 0, .string ⟨#[]⟩, .bool false, .int .i64 0, .int .i64 0, .int .i64 0] 42)) (.cells #[.string ⟨#[97]⟩, .slice (some ⟨w5.heap.size, 0, none⟩) 1 1, .int .i64 0] 37) (heap_made w5 #[.slice none 0 0, .string ⟨#[]⟩, .bool false, .int .i64 0, .int .i64 0, .int .i64 0] 42 _ rfl)
     have hR := heap_made (w5.alloc (.cells #[.slice none 0 0, .string ⟨#[]⟩, .bool false, .int .i64 0, .int .i64 0, .int .i64 0] 42)) #[.string ⟨#[97]⟩, .slice (some ⟨w5.heap.size, 0, none⟩) 1 1, .int .i64 0] 37 (w5.heap.size + 1) (by simp)
     go_upto_region 35 with fail
     have hW6 := hW5.trans (hq5.mono hW5.size)
     have hv1 := HV.out _ (hb5.trans (hq5.mono hb5.size))
     obtain ⟨a0, a1, a2', a3⟩ : _ ∧ _ ∧ _ ∧ _ := ⟨(HC2.out _ hq5).1 0 _ rfl, (HC2.out _ hq5).1 1 _ rfl, (HC2.out _ hq5).1 2 _ rfl, (HC2.out _ hq5).1 3 _ rfl⟩
     have e0 := (HC2.out _ hq5).2 0 _ rfl
     generalize ((w5.alloc (.cells #[.slice none 0 0, .string ⟨#[]⟩, .bool false, .int .i64 0, .int .i64 0, .int .i64 0] 42)).alloc (.cells #[.string ⟨#[97]⟩, .slice (some ⟨w5.heap.size, 0, none⟩) 1 1, .int .i64 0] 37)) = w6 at hA hR hW6 hv1 a0 a1 a2' a3 e0 ⊢
     have hv2 : SoV w6 (.agg #[.string ⟨#[]⟩, .slice ua dl uc, .slice (some ⟨w5.heap.size + 1, 0, none⟩) 1 1, .string ⟨#[]⟩]) (declsSo ds) := ⟨_, _, rfl, hdsl.below hW6, list_one1 hR rfl ⟨_, rfl, list_one1 hA rfl ⟨_, rfl, ListV.nil _ _ _⟩⟩⟩
     have HQ := Lib.hid (rsame_any _ _ y (declsSo ds) w6 hv1 hv2)
     rw [hsame] at HQ
     clear hv1 hv2 hA hR HV HC2 hF1 hS1 HL hdsl
     go_wp2_with (first | (go_at_call 13; (with_reducible refine HQ.out.mono ?_); rintro e w7 ⟨rfl, hb7⟩))
     go_ret
     have hbx := hbw.trans (hW6.mono hbw.size)
     exact ⟨rfl, hbx.trans (hb7.mono hbx.size)⟩
end Go.Proofs.YtnoppoifepbchaaDoor
