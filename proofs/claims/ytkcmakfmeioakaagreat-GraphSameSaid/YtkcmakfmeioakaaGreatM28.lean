/-
  GtP; GtB: texts of one kind in one file; each part says what it holds.
-/
import Derived.Test.YtkcmakfmeioakaaGreatM27

/-! Package graph: slices.EqualFunc of two rows, given what its function answers of each pair. Nothing that was there turns. -/
namespace Go.Proofs.YtkcmakfmeioakaaGreat
open Go.RowKit

set_option maxHeartbeats 3200000 in
set_option maxRecDepth 100000 in
theorem eqf_P (us vs : List (List Value)) (ao bo : Option Addr) (ca cb : Nat) (w : World) (hU : CRow 6 w ao us) (hV : CRow 6 w bo vs)
    (hX : ∀ (i : Nat) (h : i < us.length), Fm6 us[i]) (hY : ∀ (i : Nat) (h : i < vs.length), Fm6 vs[i]) (f : Nat → Bool)
    (hf : ∀ (i : Nat) (h : i < us.length) (h' : i < vs.length) (w' : World), Fuw w w' → Calls Tryz.prog 45 #[.agg us[i].toArray, .agg vs[i].toArray] w' (FwB w' (f i))) :
    Calls Tryz.prog 44 #[.slice ao us.length ca, .slice bo vs.length cb, .func (.func 45) #[] #[]] w (FwB w (decide (us.length = vs.length) && (List.range us.length).all f)) := by
  have lu := hU.len
  have lv := hV.len
  have HU := Lib.hid hU
  have HV := Lib.hid hV
  have HX := Lib.hid hX
  have HY := Lib.hid hY
  have HF := Lib.hid hf
  clear hU hV hf hX hY
  by_cases hl : us.length = vs.length
  · have HR := Lib.hid (show (decide (us.length = vs.length) && (List.range us.length).all f) = (List.range us.length).all f by rw [decide_eq_true hl, Bool.true_and])
    rw [HR.out]
    have HL := Lib.hid hl
    have hq : ((us.length : Int) != (vs.length : Int)) = false := by rw [hl]; simp
    clear hl
    obtain ⟨ans, hA⟩ : ∃ ans, ans = (List.range us.length).all f := ⟨_, rfl⟩
    rw [← hA]
    have HA0 := Lib.hid hA
    clear hA HR
    go_enter Tryz.func44, Tryz.ntmps44
    go_wp2
    clear hq
    go_loopw [17] (fun iv wr => ∃ i : Nat, iv = .int .i64 i ∧ i ≤ us.length ∧ Hid ((List.range i).all f = true) ∧ Hid (Fuw w wr)) (fun iv _ => us.length - (RowKit.intOf iv).toNat)
    case atStart => exact ⟨0, rfl, Nat.zero_le _, rfl, Fuw.refl _⟩
    case round =>
      obtain ⟨i, rfl, hi, HA, hg⟩ := hrel
      by_cases hlt : i < us.length
      · have hlv : i < vs.length := by have := HL.out; omega
        have hlt2 : (i : Int) < (us.length : Int) := by omega
        have hlv2 : (i : Int) < (vs.length : Int) := by omega
        obtain ⟨b, o, rfl, hc⟩ := (HU.out.on hg.out).at_ (by omega)
        obtain ⟨b', o', rfl, hd⟩ := (HV.out.on hg.out).at_ (by omega)
        have hci := hc i hlt
        have hdi := hd i hlv
        have hs1 := HX.out i hlt
        have hs2 := HY.out i hlv
        have HC := Lib.hid (fun w' (h : Fuw wr w') => HF.out i hlt hlv w' (hg.out.trans h))
        have HS1 := Lib.hid (all_range f i)
        have HS2 := Lib.hid (fun (h : f i = false) => HA0.out.trans (all_false hlt h))
        clear hc hd
        generalize us[i] = u at *
        generalize vs[i] = v at *
        obtain ⟨s0, a0, b0, c0, t0, r0, n0, k0, rfl⟩ := hs1
        obtain ⟨s1, a1, b1, c1, t1, r1, n1, k1, rfl⟩ := hs2
        have ec0 : wr.cell? ⟨b, o + i * 6, none⟩ = some (.string s0) := hci 0 (by decide)
        have ed0 : (wr.alloc (.cells #[.string s0, .int .i64 a0, .int .i64 b0, .int .i64 c0, .string t0, .slice r0 n0 k0] 57)).cell? ⟨b', o' + i * 6, none⟩ = some (.string s1) := cellOnw (fuwA wr _) (hdi 0 (by decide))
        have ec1 : wr.cell? ⟨b, o + i * 6 + 1, none⟩ = some (.int .i64 a0) := hci 1 (by decide)
        have ed1 : (wr.alloc (.cells #[.string s0, .int .i64 a0, .int .i64 b0, .int .i64 c0, .string t0, .slice r0 n0 k0] 57)).cell? ⟨b', o' + i * 6 + 1, none⟩ = some (.int .i64 a1) := cellOnw (fuwA wr _) (hdi 1 (by decide))
        have ec2 : wr.cell? ⟨b, o + i * 6 + 2, none⟩ = some (.int .i64 b0) := hci 2 (by decide)
        have ed2 : (wr.alloc (.cells #[.string s0, .int .i64 a0, .int .i64 b0, .int .i64 c0, .string t0, .slice r0 n0 k0] 57)).cell? ⟨b', o' + i * 6 + 2, none⟩ = some (.int .i64 b1) := cellOnw (fuwA wr _) (hdi 2 (by decide))
        have ec3 : wr.cell? ⟨b, o + i * 6 + 3, none⟩ = some (.int .i64 c0) := hci 3 (by decide)
        have ed3 : (wr.alloc (.cells #[.string s0, .int .i64 a0, .int .i64 b0, .int .i64 c0, .string t0, .slice r0 n0 k0] 57)).cell? ⟨b', o' + i * 6 + 3, none⟩ = some (.int .i64 c1) := cellOnw (fuwA wr _) (hdi 3 (by decide))
        have ec4 : wr.cell? ⟨b, o + i * 6 + 4, none⟩ = some (.string t0) := hci 4 (by decide)
        have ed4 : (wr.alloc (.cells #[.string s0, .int .i64 a0, .int .i64 b0, .int .i64 c0, .string t0, .slice r0 n0 k0] 57)).cell? ⟨b', o' + i * 6 + 4, none⟩ = some (.string t1) := cellOnw (fuwA wr _) (hdi 4 (by decide))
        have ec5 : wr.cell? ⟨b, o + i * 6 + 5, none⟩ = some (.slice r0 n0 k0) := hci 5 (by decide)
        have ed5 : (wr.alloc (.cells #[.string s0, .int .i64 a0, .int .i64 b0, .int .i64 c0, .string t0, .slice r0 n0 k0] 57)).cell? ⟨b', o' + i * 6 + 5, none⟩ = some (.slice r1 n1 k1) := cellOnw (fuwA wr _) (hdi 5 (by decide))
        have HC2 : Hid (∀ w', Fuw wr w' → Calls Tryz.prog 45 #[.agg #[.string s0, .int .i64 a0, .int .i64 b0, .int .i64 c0, .string t0, .slice r0 n0 k0], .agg #[.string s1, .int .i64 a1, .int .i64 b1, .int .i64 c1, .string t1, .slice r1 n1 k1]] w' (FwB w' (f i))) := HC
        clear HC hci hdi
        obtain ⟨r, hr⟩ : ∃ r, r = f i := ⟨_, rfl⟩
        rw [← hr] at HC2 HS1 HS2
        have HRR := Lib.hid hr
        clear hr
        have f0 : Fuw wr ((wr.alloc (.cells #[.string s0, .int .i64 a0, .int .i64 b0, .int .i64 c0, .string t0, .slice r0 n0 k0] 57)).alloc (.cells #[.string s1, .int .i64 a1, .int .i64 b1, .int .i64 c1, .string t1, .slice r1 n1 k1] 57)) := (fuwA wr _).trans (fuwA _ _)
        have P0 : Bk ((wr.alloc (.cells #[.string s0, .int .i64 a0, .int .i64 b0, .int .i64 c0, .string t0, .slice r0 n0 k0] 57)).alloc (.cells #[.string s1, .int .i64 a1, .int .i64 b1, .int .i64 c1, .string t1, .slice r1 n1 k1] 57)) wr.heap.size #[.string s0, .int .i64 a0, .int .i64 b0, .int .i64 c0, .string t0, .slice r0 n0 k0] 57 := (Bk.new wr _ _).on (fuwA _ _)
        have P1 : Bk ((wr.alloc (.cells #[.string s0, .int .i64 a0, .int .i64 b0, .int .i64 c0, .string t0, .slice r0 n0 k0] 57)).alloc (.cells #[.string s1, .int .i64 a1, .int .i64 b1, .int .i64 c1, .string t1, .slice r1 n1 k1] 57)) (wr.heap.size + 1) #[.string s1, .int .i64 a1, .int .i64 b1, .int .i64 c1, .string t1, .slice r1 n1 k1] 57 := by
          have := Bk.new (wr.alloc (.cells #[.string s0, .int .i64 a0, .int .i64 b0, .int .i64 c0, .string t0, .slice r0 n0 k0] 57)) #[.string s1, .int .i64 a1, .int .i64 b1, .int .i64 c1, .string t1, .slice r1 n1 k1] 57
          rwa [show (wr.alloc (.cells #[.string s0, .int .i64 a0, .int .i64 b0, .int .i64 c0, .string t0, .slice r0 n0 k0] 57)).heap.size = wr.heap.size + 1 by simp] at this
        have F0 := Lib.hid f0
        have em0 : ((wr.alloc (.cells #[.string s0, .int .i64 a0, .int .i64 b0, .int .i64 c0, .string t0, .slice r0 n0 k0] 57)).alloc (.cells #[.string s1, .int .i64 a1, .int .i64 b1, .int .i64 c1, .string t1, .slice r1 n1 k1] 57)).cell? ⟨wr.heap.size, 0, none⟩ = some (.string s0) := P0.c 0
        have en0 : ((wr.alloc (.cells #[.string s0, .int .i64 a0, .int .i64 b0, .int .i64 c0, .string t0, .slice r0 n0 k0] 57)).alloc (.cells #[.string s1, .int .i64 a1, .int .i64 b1, .int .i64 c1, .string t1, .slice r1 n1 k1] 57)).cell? ⟨wr.heap.size + 1, 0, none⟩ = some (.string s1) := P1.c 0
        have em1 : ((wr.alloc (.cells #[.string s0, .int .i64 a0, .int .i64 b0, .int .i64 c0, .string t0, .slice r0 n0 k0] 57)).alloc (.cells #[.string s1, .int .i64 a1, .int .i64 b1, .int .i64 c1, .string t1, .slice r1 n1 k1] 57)).cell? ⟨wr.heap.size, 1, none⟩ = some (.int .i64 a0) := P0.c 1
        have en1 : ((wr.alloc (.cells #[.string s0, .int .i64 a0, .int .i64 b0, .int .i64 c0, .string t0, .slice r0 n0 k0] 57)).alloc (.cells #[.string s1, .int .i64 a1, .int .i64 b1, .int .i64 c1, .string t1, .slice r1 n1 k1] 57)).cell? ⟨wr.heap.size + 1, 1, none⟩ = some (.int .i64 a1) := P1.c 1
        have em2 : ((wr.alloc (.cells #[.string s0, .int .i64 a0, .int .i64 b0, .int .i64 c0, .string t0, .slice r0 n0 k0] 57)).alloc (.cells #[.string s1, .int .i64 a1, .int .i64 b1, .int .i64 c1, .string t1, .slice r1 n1 k1] 57)).cell? ⟨wr.heap.size, 2, none⟩ = some (.int .i64 b0) := P0.c 2
        have en2 : ((wr.alloc (.cells #[.string s0, .int .i64 a0, .int .i64 b0, .int .i64 c0, .string t0, .slice r0 n0 k0] 57)).alloc (.cells #[.string s1, .int .i64 a1, .int .i64 b1, .int .i64 c1, .string t1, .slice r1 n1 k1] 57)).cell? ⟨wr.heap.size + 1, 2, none⟩ = some (.int .i64 b1) := P1.c 2
        have em3 : ((wr.alloc (.cells #[.string s0, .int .i64 a0, .int .i64 b0, .int .i64 c0, .string t0, .slice r0 n0 k0] 57)).alloc (.cells #[.string s1, .int .i64 a1, .int .i64 b1, .int .i64 c1, .string t1, .slice r1 n1 k1] 57)).cell? ⟨wr.heap.size, 3, none⟩ = some (.int .i64 c0) := P0.c 3
        have en3 : ((wr.alloc (.cells #[.string s0, .int .i64 a0, .int .i64 b0, .int .i64 c0, .string t0, .slice r0 n0 k0] 57)).alloc (.cells #[.string s1, .int .i64 a1, .int .i64 b1, .int .i64 c1, .string t1, .slice r1 n1 k1] 57)).cell? ⟨wr.heap.size + 1, 3, none⟩ = some (.int .i64 c1) := P1.c 3
        have em4 : ((wr.alloc (.cells #[.string s0, .int .i64 a0, .int .i64 b0, .int .i64 c0, .string t0, .slice r0 n0 k0] 57)).alloc (.cells #[.string s1, .int .i64 a1, .int .i64 b1, .int .i64 c1, .string t1, .slice r1 n1 k1] 57)).cell? ⟨wr.heap.size, 4, none⟩ = some (.string t0) := P0.c 4
        have en4 : ((wr.alloc (.cells #[.string s0, .int .i64 a0, .int .i64 b0, .int .i64 c0, .string t0, .slice r0 n0 k0] 57)).alloc (.cells #[.string s1, .int .i64 a1, .int .i64 b1, .int .i64 c1, .string t1, .slice r1 n1 k1] 57)).cell? ⟨wr.heap.size + 1, 4, none⟩ = some (.string t1) := P1.c 4
        have em5 : ((wr.alloc (.cells #[.string s0, .int .i64 a0, .int .i64 b0, .int .i64 c0, .string t0, .slice r0 n0 k0] 57)).alloc (.cells #[.string s1, .int .i64 a1, .int .i64 b1, .int .i64 c1, .string t1, .slice r1 n1 k1] 57)).cell? ⟨wr.heap.size, 5, none⟩ = some (.slice r0 n0 k0) := P0.c 5
        have en5 : ((wr.alloc (.cells #[.string s0, .int .i64 a0, .int .i64 b0, .int .i64 c0, .string t0, .slice r0 n0 k0] 57)).alloc (.cells #[.string s1, .int .i64 a1, .int .i64 b1, .int .i64 c1, .string t1, .slice r1 n1 k1] 57)).cell? ⟨wr.heap.size + 1, 5, none⟩ = some (.slice r1 n1 k1) := P1.c 5
        clear f0 P0 P1
        go_wp2_with fail
        go_at_call 45; refine (HC2.out _ F0.out).mono ?_; rintro e1 w1 ⟨rfl, f1⟩
        have HG := Lib.hid (hg.out.trans (F0.out.trans f1))
        clear f1 ec0 ed0 em0 en0 ec1 ed1 em1 en1 ec2 ed2 em2 en2 ec3 ed3 em3 en3 ec4 ed4 em4 en4 ec5 ed5 em5 en5
        cases r with
        | true =>
          have HN := Lib.hid (show (List.range (i + 1)).all f = true by rw [HS1.out, HA.out]; rfl)
          go_wp2
          go_roundw
          case rel => exact ⟨i + 1, by go_num, by omega, HN, HG⟩
          case measure => simp [RowKit.intOf]; omega
        | false =>
          have HN := Lib.hid (HS2.out rfl)
          go_wp2
          go_ret
          exact ⟨ret_bool HN.out.symm, HG.out⟩
      · have HN := Lib.hid (show ans = true by have := HA.out; rw [HA0.out]; rwa [show i = us.length by omega] at this)
        go_wp2
        go_ret
        exact ⟨ret_bool HN.out.symm, hg.out⟩
  · have HR := Lib.hid (show (decide (us.length = vs.length) && (List.range us.length).all f) = false by rw [decide_eq_false hl, Bool.false_and])
    have hq : ((us.length : Int) != (vs.length : Int)) = true := by rw [bne_iff_ne]; omega
    rw [HR.out]
    clear hl HR
    go_enter Tryz.func44, Tryz.ntmps44
    go_wp2
    go_ret
    exact ⟨rfl, Fuw.refl _⟩
end Go.Proofs.YtkcmakfmeioakaaGreat

/-! Package graph: whether two properties, two rows of properties, two rows of strings are equal. Nothing that was there turns. -/
namespace Go.Proofs.YtkcmakfmeioakaaGreat
open Go.RowKit

def at2 {α β : Type} (f : α → β → Bool) (a : List α) (b : List β) (i : Nat) : Bool := match a[i]?, b[i]? with
  | some x, some y => f x y
  | _, _ => false
theorem at2_at {α β : Type} (f : α → β → Bool) (a : List α) (b : List β) (i : Nat) (h : i < a.length) (h' : i < b.length) : at2 f a b i = f a[i] b[i] := by
  unfold at2
  rw [List.getElem?_eq_getElem h, List.getElem?_eq_getElem h']
theorem al2_all {α β : Type} (f : α → β → Bool) : ∀ (a : List α) (b : List β), al2 f a b = (decide (a.length = b.length) && (List.range a.length).all (at2 f a b))
  | [], [] => rfl
  | [], y :: t => by simp [al2]
  | x :: r, [] => by simp [al2]
  | x :: r, y :: t => by
    rw [show al2 f (x :: r) (y :: t) = (f x y && al2 f r t) from rfl, al2_all f r t, List.length_cons, List.length_cons, List.range_succ_eq_map, List.all_cons, List.all_map]
    rw [show at2 f (x :: r) (y :: t) 0 = f x y from rfl, show (at2 f (x :: r) (y :: t) ∘ Nat.succ) = at2 f r t from rfl]
    rw [show decide (r.length + 1 = t.length + 1) = decide (r.length = t.length) by simp]
    cases f x y <;> simp
theorem al2_eq : ∀ (a b : List (List UInt8)), al2 (fun x y => x == y) a b = decide (a = b)
  | [], [] => rfl
  | [], y :: t => by simp [al2]
  | x :: r, [] => by simp [al2]
  | x :: r, y :: t => by
    rw [show al2 (fun x y => x == y) (x :: r) (y :: t) = (x == y && al2 (fun x y => x == y) r t) from rfl, al2_eq r t]
    by_cases e : x = y
    · subst e; simp
    · simp [e]
theorem bs_one {x y : List UInt8} (h : bs x = bs y) : x = y := by
  have k := congrArg (fun z : ByteArray => z.data.toList) h
  simpa [bs_data] using k
theorem map_bs {a b : List (List UInt8)} : a.map bs = b.map bs ↔ a = b :=
  ⟨fun h => (List.map_inj_right (fun _ _ e => bs_one e)).1 h, fun h => h ▸ rfl⟩
theorem bkw2 (w : World) (o : Obj) (cs : Array Value) (t : TypeId) : Bk ((w.alloc o).alloc (.cells cs t)) (w.heap.size + 1) cs t := by
  have k := Bk.new (w.alloc o) cs t
  rwa [show (w.alloc o).heap.size = w.heap.size + 1 by simp] at k
set_option maxHeartbeats 3200000 in
set_option maxRecDepth 100000 in
theorem lsp_any (p q : Pp) (a1 a2 : Option Addr) (k1 k2 : Nat) (w : World) (hi : Vin p.v) (hi' : Vin q.v) (hs : SlV w a1 p.v.ll k1) (hs' : SlV w a2 q.v.ll k2) :
    Calls Tryz.prog 45 #[.agg #[.string (bs p.k), .int .i64 p.v.kd, .int .i64 p.v.nn, .int .i64 p.v.dd, .string (bs p.v.ss), .slice a1 p.v.ll.length k1], .agg #[.string (bs q.k), .int .i64 q.v.kd, .int .i64 q.v.nn, .int .i64 q.v.dd, .string (bs q.v.ss), .slice a2 q.v.ll.length k2]] w (FwB w (samP p q)) := by
  have p0 : Bk ((w.alloc (.cells #[.string (bs p.k), .int .i64 p.v.kd, .int .i64 p.v.nn, .int .i64 p.v.dd, .string (bs p.v.ss), .slice a1 p.v.ll.length k1] 57)).alloc (.cells #[.string (bs q.k), .int .i64 q.v.kd, .int .i64 q.v.nn, .int .i64 q.v.dd, .string (bs q.v.ss), .slice a2 q.v.ll.length k2] 57)) w.heap.size #[.string (bs p.k), .int .i64 p.v.kd, .int .i64 p.v.nn, .int .i64 p.v.dd, .string (bs p.v.ss), .slice a1 p.v.ll.length k1] 57 := (Bk.new w _ _).on (fuwA _ _)
  have p1 : Bk ((w.alloc (.cells #[.string (bs p.k), .int .i64 p.v.kd, .int .i64 p.v.nn, .int .i64 p.v.dd, .string (bs p.v.ss), .slice a1 p.v.ll.length k1] 57)).alloc (.cells #[.string (bs q.k), .int .i64 q.v.kd, .int .i64 q.v.nn, .int .i64 q.v.dd, .string (bs q.v.ss), .slice a2 q.v.ll.length k2] 57)) (w.heap.size + 1) #[.string (bs q.k), .int .i64 q.v.kd, .int .i64 q.v.nn, .int .i64 q.v.dd, .string (bs q.v.ss), .slice a2 q.v.ll.length k2] 57 := bkw2 _ _ _ _
  have f0 : Fuw w ((w.alloc (.cells #[.string (bs p.k), .int .i64 p.v.kd, .int .i64 p.v.nn, .int .i64 p.v.dd, .string (bs p.v.ss), .slice a1 p.v.ll.length k1] 57)).alloc (.cells #[.string (bs q.k), .int .i64 q.v.kd, .int .i64 q.v.nn, .int .i64 q.v.dd, .string (bs q.v.ss), .slice a2 q.v.ll.length k2] 57)) := (fuwA w _).trans (fuwA _ _)
  have HR := Lib.hid (show samP p q = ((p.k == q.k) && (ordV p.v q.v == 0)) from rfl)
  have HC := Lib.hid (fun w' (hf : Fuw w w') => lo_all p.v q.v a1 a2 k1 k2 w' hi hi' (hs.onw hf) (hs'.onw hf))
  unfold vlv at HC
  obtain ⟨R, hR⟩ : ∃ R, R = samP p q := ⟨_, rfl⟩
  rw [← hR] at HR ⊢
  clear hR hs hs' hi hi'
  obtain ⟨W, hW⟩ : ∃ W, ((w.alloc (.cells #[.string (bs p.k), .int .i64 p.v.kd, .int .i64 p.v.nn, .int .i64 p.v.dd, .string (bs p.v.ss), .slice a1 p.v.ll.length k1] 57)).alloc (.cells #[.string (bs q.k), .int .i64 q.v.kd, .int .i64 q.v.nn, .int .i64 q.v.dd, .string (bs q.v.ss), .slice a2 q.v.ll.length k2] 57)) = W := ⟨_, rfl⟩
  rw [hW] at p0 p1 f0
  generalize ordV p.v q.v = d at *
  generalize p.v = x at *
  generalize p.k = key at *
  generalize q.v = y at *
  generalize q.k = key' at *
  go_enter Tryz.func45, Tryz.ntmps45
  go_upto_region 1 with fail
  clear hW
  have c0 : W.cell? ⟨w.heap.size, 0, none⟩ = some (.string (bs key)) := p0.c 0
  have d0 : W.cell? ⟨w.heap.size + 1, 0, none⟩ = some (.string (bs key')) := p1.c 0
  have c1 : W.cell? ⟨w.heap.size, 1, none⟩ = some (.int .i64 x.kd) := p0.c 1
  have d1 : W.cell? ⟨w.heap.size + 1, 1, none⟩ = some (.int .i64 y.kd) := p1.c 1
  have c2 : W.cell? ⟨w.heap.size, 2, none⟩ = some (.int .i64 x.nn) := p0.c 2
  have d2 : W.cell? ⟨w.heap.size + 1, 2, none⟩ = some (.int .i64 y.nn) := p1.c 2
  have c3 : W.cell? ⟨w.heap.size, 3, none⟩ = some (.int .i64 x.dd) := p0.c 3
  have d3 : W.cell? ⟨w.heap.size + 1, 3, none⟩ = some (.int .i64 y.dd) := p1.c 3
  have c4 : W.cell? ⟨w.heap.size, 4, none⟩ = some (.string (bs x.ss)) := p0.c 4
  have d4 : W.cell? ⟨w.heap.size + 1, 4, none⟩ = some (.string (bs y.ss)) := p1.c 4
  have c5 : W.cell? ⟨w.heap.size, 5, none⟩ = some (.slice a1 x.ll.length k1) := p0.c 5
  have d5 : W.cell? ⟨w.heap.size + 1, 5, none⟩ = some (.slice a2 y.ll.length k2) := p1.c 5
  have F0 := Lib.hid f0
  clear p0 p1 f0
  cases hr : ((bs key).toList == (bs key').toList) with
  | false =>
    have HZ := Lib.hid (show R = false by
      rw [bs_eq] at hr
      rw [HR.out, hr]; rfl)
    go_wp2
    go_ret
    exact ⟨ret_bool HZ.out.symm, F0.out⟩
  | true =>
    have HE := Lib.hid (show R = (d == 0) by
      rw [bs_eq] at hr
      rw [HR.out, hr]; rfl)
    go_wp2_with fail
    go_at_call 46; refine (HC.out _ F0.out).mono ?_; rintro e w4 ⟨rfl, f4⟩
    have HF := Lib.hid (F0.out.trans f4.w)
    clear f4
    go_wp2
    go_ret
    exact ⟨ret_bool HE.out.symm, HF.out⟩
/-- A property's cells. -/
def QP (w : World) (p : Pp) (u : List Value) : Prop := ∃ a1 k1, u = [.string (bs p.k), .int .i64 p.v.kd, .int .i64 p.v.nn, .int .i64 p.v.dd, .string (bs p.v.ss), .slice a1 p.v.ll.length k1] ∧ Vin p.v ∧ SlV w a1 p.v.ll k1
theorem qp_of {w : World} (x : Pp) (b o : Nat) (h : PC w x b o) : ∃ u : List Value, u.length = 6 ∧ (∀ j, j < 6 → w.cell? ⟨b, o + j, none⟩ = u[j]?) ∧ QP w x u := by
  obtain ⟨-, k0, hv⟩ := h
  obtain ⟨hy, c0, c1, c2, c3, a1, k1, c4, hs⟩ := VC_of hv
  refine ⟨_, rfl, fun j hj => ?_, a1, k1, rfl, hy, hs⟩
  match j, hj with
  | 0, _ => exact k0
  | 1, _ => exact c0
  | 2, _ => exact c1
  | 3, _ => exact c2
  | 4, _ => exact c3
  | 5, _ => exact c4
set_option maxRecDepth 100000 in
theorem lpe_any (a l : List Pp) (ao bo : Option Addr) (ca cb : Nat) (w : World) (ha : SlP w ao a ca) (hb : SlP w bo l cb) :
    Calls Tryz.prog 44 #[.slice ao a.length ca, .slice bo l.length cb, .func (.func 45) #[] #[]] w (FwB w (al2 samP a l)) := by
  obtain ⟨us, hul, hU, hQ⟩ := crow_of (Q := QP w) ha qp_of
  obtain ⟨vs, hvl, hV, hK⟩ := crow_of (Q := QP w) hb qp_of
  have H := eqf_P us vs ao bo ca cb w hU hV (fun i h => by obtain ⟨a1, k1, e, -⟩ := hQ i (hul ▸ h) h; exact ⟨_, _, _, _, _, _, _, _, e⟩) (fun i h => by obtain ⟨a1, k1, e, -⟩ := hK i (hvl ▸ h) h; exact ⟨_, _, _, _, _, _, _, _, e⟩) (at2 samP a l) (fun i h h' w' hf => by
    obtain ⟨a1, k1, e, v1, s1⟩ := hQ i (hul ▸ h) h
    obtain ⟨a2, k2, e2, v2, s2⟩ := hK i (hvl ▸ h') h'
    rw [at2_at samP a l i (hul ▸ h) (hvl ▸ h'), e, e2]
    exact lsp_any a[i] l[i] a1 a2 k1 k2 w' v1 v2 (s1.onw hf) (s2.onw hf))
  rw [hul, hvl, ← al2_all] at H
  exact H
set_option maxRecDepth 100000 in
theorem lsps_any (a l : List Pp) (ao bo : Option Addr) (ca cb : Nat) (w : World) (ha : SlP w ao a ca) (hb : SlP w bo l cb) :
    Calls Tryz.prog 34 #[.slice ao a.length ca, .slice bo l.length cb] w (FwB w (al2 samP a l)) := by
  have HC := Lib.hid (fun w' (hf : Fuw w w') => lpe_any a l ao bo ca cb w' (slP_on hf ha) (slP_on hf hb))
  clear ha hb
  generalize al2 samP a l = R at *
  go_enter Tryz.func34, Tryz.ntmps34
  go_wp2_with fail
  go_at_call 44; refine (HC.out _ (Fuw.refl _)).mono ?_; rintro e w4 ⟨rfl, f4⟩
  go_wp2
  go_ret
  exact ⟨rfl, f4⟩
theorem lseq_any (a b : List (List UInt8)) (ao bo : Option Addr) (ca cb : Nat) (w : World) (ha : SlS w ao a ca) (hb : SlS w bo b cb) :
    Calls Tryz.prog 33 #[.slice ao a.length ca, .slice bo b.length cb] w (FwB w (al2 (fun x y => x == y) a b)) := by
  by_cases hl : a.length = b.length
  · rcases Nat.eq_zero_or_pos a.length with h0 | h0
    · have e1 : a = [] := List.eq_nil_of_length_eq_zero h0
      have e2 : b = [] := List.eq_nil_of_length_eq_zero (by omega)
      subst e1 e2
      exact (Tryz.slices_Equal_string_empty ao bo ca 0 cb w (by decide)).mono fun e w' ⟨he, hw⟩ => ⟨by rw [he]; rfl, hw ▸ Fuw.refl _⟩
    · obtain ⟨g, o, rfl, hc⟩ := ha.at_ h0
      obtain ⟨g', o', rfl, hd⟩ := hb.at_ (by omega)
      refine (Tryz.slices_Equal_string g o a.length ca g' o' b.length cb (a.map bs) (b.map bs) w (by simp) (by simp) ha.len hb.len (fun j hj => ?_) (fun j hj => ?_)).mono fun e w' ⟨he, k, hw⟩ => ⟨?_, hw ▸ fuw_dr w k⟩
      · rw [List.length_map] at hj
        have := (hc j hj).2
        rw [Nat.mul_one] at this
        rw [this]; simp [List.getD, hj]
      · rw [List.length_map] at hj
        have := (hd j hj).2
        rw [Nat.mul_one] at this
        rw [this]; simp [List.getD, hj]
      · rw [he, List.take_of_length_le (by simp), List.take_of_length_le (by simp), al2_eq]
        congr 2
        exact decide_eq_decide.2 map_bs
  · exact (Tryz.slices_Equal_string_lens ao bo a.length ca b.length cb w hl).mono fun e w' ⟨he, hw⟩ => ⟨by rw [he, al2_len _ _ _ hl], hw ▸ Fuw.refl _⟩
end Go.Proofs.YtkcmakfmeioakaaGreat
