/- crossings of the program, by its contract; CrossTotal, CrossBeams, CrossRounds. -/
import Derived.Test.YtonhnmpgikmlpaaBunQ
import Derived.Test.YtonhnmpgikmlpaaBunR
import Derived.Test.YtonhnmpgikmlpaaContains
import Derived.Test.YtonhnmpgikmlpaaBunA
import Derived.Test.YtonhnmpgikmlpaaBunJ
namespace Go.Proofs.Ytonhnmpgikmlpaa
open Go.RowKit Go.Shelf
attribute [local go_sem] Oper.semAt_some

/-- Two different paths cross at the cell, so many of them being rounds as the list tells. -/
def crossC (n m : Nat) (t : Int → Int → UInt8) (lst : List Int) (c : Nat) : Bool := emptyC m t c && (!selfB n m t (placeN m c).i (placeN m c).k && decide (((atN n m t c : Nat) : Int) ∈ lst))
def crossR (lst : List Int) (n m : Nat) (t : Int → Int → UInt8) : Int × Bool := ((((List.range (n * m)).countP (crossC n m t lst) : Nat) : Int), true)
def crsW {K : Nat} (g : Nat → Bool) (pre : List (Fin K)) : Nat := pre.countP fun x => g x.val
theorem crsW_snoc {K : Nat} (g : Nat → Bool) (pre : List (Fin K)) (x : Fin K) : crsW g (pre ++ [x]) = crsW g pre + (if g x.val = true then 1 else 0) := by
  simp [crsW, List.countP_append, List.countP_cons]
theorem crsW_le {K : Nat} (g : Nat → Bool) (pre : List (Fin K)) : crsW g pre ≤ pre.length := List.countP_le_length
theorem crsW_all (K : Nat) (g : Nat → Bool) : crsW g (List.finRange K) = (List.range K).countP g := by
  unfold crsW
  have e := upto_val (N := K) (k := K) (Nat.le_refl _)
  rw [upto_all] at e
  rw [← e, List.countP_map]
  rfl
theorem lett_place' {m c : Nat} (ls : List UInt8) : lett m ls ((c / m : Nat) : Int) ((c % m : Nat) : Int) = ls.getD c 0 := by
  unfold lett
  rw [show ((c / m : Nat) : Int) * (m : Int) + ((c % m : Nat) : Int) = ((c : Nat) : Int) by
    rw [← Int.natCast_mul, ← Int.natCast_add, Nat.mul_comm, Nat.div_add_mod], Int.toNat_natCast]
theorem empty_at (m c : Nat) (ls : List UInt8) : emptyC m (lett m ls) c = (((ls.getD c 0).toNat : Int) == 46) := by
  unfold emptyC
  rw [lett_place']
  generalize ls.getD c 0 = b
  rw [Bool.eq_iff_iff, beq_iff_eq, beq_iff_eq]
  constructor
  · rintro rfl; rfl
  · intro e
    have : b.toNat = 46 := by omega
    exact UInt8.toNat_inj.1 this

set_option maxRecDepth 100000 in
set_option maxHeartbeats 4000000 in
theorem crossings_any (A : Option Addr) (c : Nat) (ss : List ByteArray) (R : Option Addr) (rc : Nat) (lst : List Int) (w : World) (h : Strs w w.heap.size A ss) (hi : Ints w w.heap.size R lst) (hl : lst.length ≤ 10) (hn : ss.length ≤ 1048576) (hs : ∀ s ∈ ss, s.size ≤ 1048576) :
    Calls Try.prog 73 #[.slice A ss.length c, .slice R lst.length rc] w fun e w' => Below w.heap.size w w' ∧ ∃ x ok, e = .returned (.tuple #[.int .i64 x, .bool ok]) ∧ GridOut (crossR lst) ss x ok := by
  have HR := hid (fun w' (hb : Below w.heap.size w w') => readGrid_any A c ss w' ((h.below hb (Nat.le_refl _)).more hb.size) hn hs)
  have HCON := hid (fun (x : Int) w' (hb : Below w.heap.size w w') => contains_any R rc w.heap.size lst x w' (hi.below hb (Nat.le_refl _)) (by omega))
  clear h hs hi
  have Q0 := hid (heap_new0 w (.cells #[.slice R lst.length rc] 32))
  have QB := hid ((Below.refl w.heap.size w).alloc (Nat.le_refl _) (.cells #[.slice R lst.length rc] 32))
  refine (callsIn_wide (n := 3)).1 ?_
  refine callsIn_of_wp_marks Try.func73 rfl trivial ?_ rfl
  simp only [Try.ntmps73, List.size_toArray, List.length_cons, List.length_nil, Nat.reduceAdd, Nat.reduceSub, Array.replicate_succ, Array.replicate_zero, List.push_toArray, List.append_toArray, List.nil_append, List.cons_append]
  gi_wp2_with fail
  generalize World.alloc w _ = w0 at Q0 QB ⊢
  refine ⟨trivial, callsIn_wide.2 ((HR.out w0 QB.out).mono ?_)⟩
  rintro e w1 ⟨hbel0, hcase⟩
  have hbel := QB.out.trans (hbel0.mono QB.out.size)
  have Q1 := hid ((hbel0.block _ (lt_of_block Q0.out)).trans Q0.out)
  clear hbel0
  rcases hcase with ⟨n, m, hg, rfl⟩ | ⟨hno, rfl⟩
  · have HB := hid hbel
    have HGr := hid hg
    have hn5 := hg.2.2.1
    have hm1 := hg.2.2.2.1
    have hm5 := hg.2.2.2.2.1
    have h25 := hg.le25
    have hpl := hg.plen
    have HS := hid (show (Try.prog.info? 63).map (·.size) = some (gcells n m (pad (flat ss))).size by rw [hg.csize]; exact Try.size_grid)
    have HZ := hid (show zeroG.size = (gcells n m (pad (flat ss))).size by rw [hg.csize]; rfl)
    have HL := hid (setRow_heap (w1.alloc (.cells zeroG 63)) w1.heap.size zeroG (gcells n m (pad (flat ss))) 63 (0, 0) (heap_new0 w1 _))
    have HW := hid (HB.out.trans (below_setRow' ((Below.refl _ w1).alloc HB.out.size (.cells zeroG 63)) HB.out.size (gcells n m (pad (flat ss)))))
    have HQ := hid (show ((w1.alloc (.cells zeroG 63)).setRow w1.heap.size (gcells n m (pad (flat ss)))).heap[w.heap.size]? = some (.cells #[.slice R lst.length rc] 32 (0, 0)) by
      rw [setRow_other _ _ _ _ (by have := lt_of_block Q1.out; omega), Below.heap_alloc _ _ _ (lt_of_block Q1.out)]; exact Q1.out)
    obtain ⟨K, hK⟩ : ∃ K, n * m = K := ⟨_, rfl⟩
    obtain ⟨N, hN⟩ : ∃ N, 4 * K = N := ⟨_, rfl⟩
    have HNC := hid (fun w' => newChart_any n m N K (pad (flat ss)) w' hg.plen hn5 hm1 hm5 hK hN)
    have HAT := hid (fun g x w' (hx : x < K) hst => roundsAt_any n m g N x (pad (flat ss)) w' hg.plen hn5 hm5 (by rw [hK]; exact hN) (by rw [hK]; exact hx) hst)
    have HSA := hid (fun g x w' (hx : x < K) hst => selfAt_any n m g N x (pad (flat ss)) w' hg.plen hn5 hm5 (by rw [hK]; exact hN) (by rw [hK]; exact hx) hst)
    have HCST := hid (fun Bg w' h => cells_stops 2 Bg n m K hK.symm (pad (flat ss)) hg.plen hn5 hm1 hm5 w' h)
    have HCS := hid (fun g => show (Try.prog.info? 91).map (·.size) = some (chartC (gcells n m (pad (flat ss))) g N).size by rw [chartC_size hg.csize]; exact Try.size_chart)
    have HCO := hid (fun g => chartC_one (gcells_one n m (pad (flat ss))) g N)
    have HCZ := hid (fun g => show zeroK.size = (chartC (gcells n m (pad (flat ss))) g N).size by rw [chartC_size hg.csize]; rfl)
    have HKK := hid hK
    have HONE := hid (gcells_one n m (pad (flat ss)))
    have HEM := hid (fun x => empty_at m x (pad (flat ss)))
    have hK25 : K ≤ 25 := by omega
    generalize gcells n m (pad (flat ss)) = gc at *
    generalize hlet : lett m (pad (flat ss)) = t at *
    have HLET := hid hlet
    have HCR := hid (show ∀ x, crossC n m t lst x = (emptyC m t x && (!selfB n m t (placeN m x).i (placeN m x).k && decide (((atN n m t x : Nat) : Int) ∈ lst))) from fun _ => rfl)
    have HRX := hid (show ∀ K', n * m = K' → ((((List.range K').countP (crossC n m t lst) : Nat) : Int), true) = crossR lst n m t from fun K' h => by rw [← h]; rfl)
    clear hbel hg hlet hpl hN h25
    generalize crossC n m t lst = cr at *
    gi_wp2_with (first
      | refine wpListIn_store_row (Open.wide _) rfl 63 _ _ rfl w1.heap.size gc rfl rfl 63 zeroG (heap_new0 w1 _) HS.out HZ.out HONE.out ?_
      | refine wpListIn_load_row (Open.wide _) rfl 63 _ rfl w1.heap.size rfl 63 gc (0, 0) _ HL.out Try.underlying63 rfl HS.out ?_)
    generalize World.setRow (w1.alloc (.cells zeroG 63)) w1.heap.size gc = V at HL HW HQ ⊢
    refine ⟨trivial, callsIn_wide.2 ((HNC.out _).mono ?_)⟩
    rintro e w2 ⟨g, hgl, rfl, hst, hb2⟩
    have HB2 := hid (HW.out.trans (hb2.mono HW.out.size))
    have HL2 := hid ((hb2.block _ (lt_of_block HL.out)).trans HL.out)
    have HQ2 := hid ((hb2.block _ (lt_of_block HQ.out)).trans HQ.out)
    have HST2 := hid hst
    clear hb2 hst hgl
    have X0 := setRow_heap (w2.alloc (.cells zeroK 91)) w2.heap.size zeroK (chartC gc g N) 91 (0, 0) (heap_new0 w2 _)
    have hch := fun (k : Nat) (hk : k < w2.heap.size) => show ((w2.alloc (.cells zeroK 91)).setRow w2.heap.size (chartC gc g N)).heap[k]? = w2.heap[k]? by
      rw [setRow_other _ _ _ _ (by omega)]; exact Below.heap_alloc _ _ _ hk
    have XB := HB2.out.trans (below_setRow' ((Below.refl _ w2).alloc HB2.out.size (.cells zeroK 91)) HB2.out.size (chartC gc g N))
    have XL := (hch _ (lt_of_block HL2.out)).trans HL2.out
    have XQ := (hch _ (lt_of_block HQ2.out)).trans HQ2.out
    have XS := HST2.out.keep (hch _ HST2.out.lt)
    have XZ : ((w2.alloc (.cells zeroK 91)).setRow w2.heap.size (chartC gc g N)).heap.size = w2.heap.size + 1 := by simp
    generalize hX : World.setRow (w2.alloc (.cells zeroK 91)) w2.heap.size (chartC gc g N) = X at X0 XB XL XS XZ XQ
    have HX := hid hX
    have Y0 := hid ((Below.heap_alloc X (.cells #[.int .i64 0] 3) _ (lt_of_block X0)).trans X0)
    have YL := hid ((Below.heap_alloc X (.cells #[.int .i64 0] 3) _ (lt_of_block XL)).trans XL)
    have YQ := hid ((Below.heap_alloc X (.cells #[.int .i64 0] 3) _ (lt_of_block XQ)).trans XQ)
    have YS := hid (XS.keep (Below.heap_alloc X (.cells #[.int .i64 0] 3) _ XS.lt))
    have YB := hid (XB.alloc XB.size (.cells #[.int .i64 0] 3))
    have YT := hid (Boxed.new X 3 (.int .i64 0))
    have YZ := hid (show (X.alloc (.cells #[.int .i64 0] 3)).heap.size = w2.heap.size + 2 by rw [World.size_alloc, XZ])
    have HXZ := hid XZ
    have HZN := hid (heap_new0 w2 (.cells zeroK 91))
    clear X0 hch XB XL XS hX XQ
    clear XZ
    gi_wp2_with (first
      | (refine wpListIn_store_row (Open.wide _) rfl 91 _ _ rfl w2.heap.size (chartC gc g N) rfl rfl 91 zeroK HZN.out (HCS.out g) (HCZ.out g) (HCO.out g) ?_; rw [HX.out])
      | refine wpListIn_load_row (Open.wide _) rfl 63 _ rfl w1.heap.size rfl 63 gc (0, 0) _ YL.out Try.underlying63 rfl HS.out ?_)
    refine ⟨trivial, callsIn_wide.2 ((cells_any gc _).mono ?_)⟩
    generalize World.alloc X (.cells #[.int .i64 0] 3) = Y at Y0 YL YS YB YT YZ YQ
    rintro e w3 ⟨rfl, hw3⟩
    have K0 := hid (show w3.heap[w2.heap.size]? = some (.cells (chartC gc g N) 91 (0, 0)) by rw [hw3]; exact (Below.heap_alloc _ _ _ (lt_of_block Y0.out)).trans Y0.out)
    have KQ := hid (show w3.heap[w.heap.size]? = some (.cells #[.slice R lst.length rc] 32 (0, 0)) by rw [hw3]; exact (Below.heap_alloc _ _ _ (lt_of_block YQ.out)).trans YQ.out)
    have KS := hid (show StepsM w3 g n m t (fun _ => True) N by rw [hw3]; exact YS.out.below ((Below.refl _ _).alloc (Nat.le_refl _) _))
    have KB := hid (show Below w.heap.size w w3 by rw [hw3]; exact YB.out.alloc YB.out.size _)
    have KT := hid (show Boxed w3 X.heap.size 3 (.int .i64 ((crsW cr ([] : List (Fin K)) : Nat) : Int)) by rw [hw3]; exact YT.out.alloc _)
    have K3 := hid (show w3.heap[Y.heap.size]? = some (.cells gc 63 (0, 0)) by rw [hw3]; exact heap_new0 Y _)
    have KZ := hid (show w3.heap.size = w2.heap.size + 3 by rw [hw3, World.size_alloc, YZ.out])
    have KY := hid YZ.out
    have KX := hid HXZ.out
    have KWL := hid (show w.heap.size < w2.heap.size from lt_of_block HQ2.out)
    obtain ⟨bT, hbT⟩ : ∃ bT, X.heap.size = bT := ⟨_, rfl⟩
    rw [hbT] at KT KX ⊢
    clear hw3 hbT
    gi_wp2
    refine wpIn_rangeFunc_ownH rfl (by omega) (gf := 139) (lb := #[.pointer (some ⟨Y.heap.size, 0, none⟩)]) rfl trivial (enters_of Try.func139 (by kernel_rfl) rfl)
      (HCST.out Y.heap.size w3 K3.out) KeepsAt.trans (keepsAt_b (lt_of_block K3.out)) (Below.refl _ _) (fun _ => rfl)
      (fun pre W => (((W.heap[w2.heap.size]? = some (.cells (chartC gc g N) 91 (0, 0)) ∧ W.heap[w.heap.size]? = some (.cells #[.slice R lst.length rc] 32 (0, 0))) ∧ Boxed W bT 3 (.int .i64 ((crsW cr pre : Nat) : Int))) ∧ StepsM W g n m t (fun _ => True) N) ∧ Below w.heap.size w3 W)
      (fun _ _ _ => False)
      (OwnFrom.and (OwnFrom.and (OwnFrom.and (OwnFrom.and (ownFrom_heap _ _ (fun _ => _) (fun _ => rfl)) (ownFrom_heap _ _ (fun _ => _) (fun _ => rfl))) (Own.from (boxed_own _ _ (fun pre => .int .i64 ((crsW cr pre : Nat) : Int))) _)) (ownFrom_steps _ g n m t (fun _ _ => True) N)) (ownFrom_below KB.out.size KB.out.size))
      (fun _ _ _ _ _ hs _ _ => hs)
      ⟨⟨⟨⟨K0.out, KQ.out⟩, KT.out⟩, KS.out⟩, Below.refl _ _⟩
      (fun x a' W => ∃ Bx, w2.heap.size + 3 ≤ Bx ∧ W.heap[Bx]? = some (.cells #[.int .i64 (placeN m x.val).i, .int .i64 (placeN m x.val).k] 97 (0, 0)) ∧ ∃ u0 u1 u2 u4 u5 u6 u7 u12 u13 u14 u15 u16 u17 u18 u19 u20 u21 u22 u23 u24 u25 u26 u27 u28 u29 u30 u31 u32 u33 u34 u35 u36 u37 u38 u39 u40 u41 u42 : Value,
        a' = { tmps := #[u0, u1, u2, .pointer (some ⟨w.heap.size, 0, none⟩), u4, u5, u6, u7, .pointer (some ⟨w2.heap.size, 0, none⟩), .pointer (some ⟨bT, 0, none⟩), .pointer (some ⟨Bx, 0, none⟩), .int .u8 (((pad (flat ss)).getD x.val 0).toNat : Int), u12, u13, u14, u15, u16, u17, u18, u19, u20, u21, u22, u23, u24, u25, u26, u27, u28, u29, u30, u31, u32, u33, u34, u35, u36, u37, u38, u39, u40, u41, u42], defers := [] })
      (fun x a' _ X Y row hs hg hr => by
        obtain ⟨Bx, h1, h2, h3⟩ := hs
        exact ⟨Bx, h1, ownFrom_heap _ Bx (fun (_ : Unit) => Obj.cells #[.int .i64 (placeN m x.val).i, .int .i64 (placeN m x.val).k] 97 (0, 0)) (fun _ => rfl) () X Y row h2 hg hr, h3⟩)
      ?assign ?body ?done ?stop
    case assign =>
      rintro l pre x W Kk ⟨⟨⟨⟨i0, i4⟩, i1⟩, i2⟩, i3⟩ hK
      have J0 := hid i0
      have J4 := hid i4
      have J1 := hid i1
      have J2 := hid i2
      have J3 := hid i3
      have JK := hid hK
      clear i0 i1 i2 i3 i4 hK
      unfold encs
      obtain ⟨qv, hqv⟩ : ∃ qv : Int, ((x.val / m : Nat) : Int) = qv := ⟨_, rfl⟩
      obtain ⟨rv, hrv⟩ : ∃ rv : Int, ((x.val % m : Nat) : Int) = rv := ⟨_, rfl⟩
      obtain ⟨bv, hbv⟩ : ∃ bv : Int, (((pad (flat ss)).getD x.val 0).toNat : Int) = bv := ⟨_, rfl⟩
      rw [show (placeN m x.val).i = ((x.val / m : Nat) : Int) from rfl, show (placeN m x.val).k = ((x.val % m : Nat) : Int) from rfl] at JK
      rw [hqv, hrv, hbv] at JK
      rw [hqv, hrv, hbv]
      have hsz : w2.heap.size + 3 ≤ W.heap.size := by rw [← KZ.out]; exact J3.out.size
      have JY := hid KY.out
      gi_wp2
      exact JK.out _ _ ((KeepsOthers.alloc _ _).from _) ⟨by simp, Below.heap_alloc _ _ _ (by have := JY.out; omega)⟩
        ⟨⟨⟨⟨(Below.heap_alloc _ _ _ (lt_of_block J0.out)).trans J0.out, (Below.heap_alloc _ _ _ (lt_of_block J4.out)).trans J4.out⟩, J1.out.alloc _⟩, J2.out.below ((Below.refl _ _).alloc (Nat.le_refl _) _)⟩, J3.out.alloc (by have := HB2.out.size; omega) _⟩
        ⟨W.heap.size, hsz, heap_new0 W _, _, _, _, _, _, _, _, _, _, _, _, _, _, _, _, _, _, _, _, _, _, _, _, _, _, _, _, _, _, _, _, _, _, _, _, _, _, _, rfl⟩
    case body =>
      rintro l pre x a' W hlw ⟨r, hr⟩ ⟨⟨⟨⟨i0, i4⟩, i1⟩, i2⟩, i3⟩ ⟨Bx, hBx, hXx, u0, u1, u2, u4, u5, u6, u7, u12, u13, u14, u15, u16, u17, u18, u19, u20, u21, u22, u23, u24, u25, u26, u27, u28, u29, u30, u31, u32, u33, u34, u35, u36, u37, u38, u39, u40, u41, u42, rfl⟩ hlt
      have HSE := hid (fun w' (hw : Cls W w') => HSA.out g x.val w' x.isLt (i2.below hw))
      have HAE := hid (fun w' (hw : Cls W w') => HAT.out g x.val w' x.isLt (i2.below hw))
      have HCE := hid (fun v w' (hw : Cls W w') => HCON.out v w' (KB.out.trans (i3.trans (hw.mono (Nat.le_trans KB.out.size i3.size)))))
      have hcrx := HCR.out x.val
      have hle := crsW_le cr pre
      have hsn := crsW_snoc cr pre x
      have hem := HEM.out x.val
      rw [hem] at hcrx
      rw [show ((x.val / m : Nat) : Int) = (placeN m x.val).i from rfl, show ((x.val % m : Nat) : Int) = (placeN m x.val).k from rfl] at HAE
      generalize selfB n m t (placeN m x.val).i (placeN m x.val).k = sb at *
      obtain ⟨av, hav⟩ : ∃ av, ((atN n m t x.val : Nat) : Int) = av := ⟨_, rfl⟩
      obtain ⟨qv, hqv⟩ : ∃ qv : Int, (placeN m x.val).i = qv := ⟨_, rfl⟩
      obtain ⟨rv, hrv⟩ : ∃ rv : Int, (placeN m x.val).k = rv := ⟨_, rfl⟩
      obtain ⟨bv, hbv⟩ : ∃ bv : Int, (((pad (flat ss)).getD x.val 0).toNat : Int) = bv := ⟨_, rfl⟩
      rw [hqv, hrv] at hXx HSE HAE
      rw [hav] at HAE hcrx
      rw [hbv] at hcrx ⊢
      have HCE2 := hid (HCE.out av)
      obtain ⟨dm, hdm⟩ : ∃ dm, decide (av ∈ lst) = dm := ⟨_, rfl⟩
      rw [hdm] at hcrx HCE2
      obtain ⟨cv, hcv⟩ : ∃ cv, crsW cr pre = cv := ⟨_, rfl⟩
      rw [hcv] at i1 hle hsn
      have J0 := hid i0
      have J4 := hid i4
      have J1 := hid i1
      have J2 := hid i2
      have J3 := hid i3
      have JX := hid hXx
      have HSN := hid hsn
      have HCRX := hid hcrx
      have hc25 : (cv : Int) ≤ 25 := by omega
      have hc0 : (0 : Int) ≤ (cv : Int) := by omega
      have JY := hid (show Y.heap.size < W.heap.size by have h1 := i3.size; have := KZ.out; have := KY.out; omega)
      clear i0 i1 i2 i3 i4 hXx hqv hrv hav hcv hr hsn hle hlt hdm hbv hem hcrx HCE
      have C0 := hid (show ∀ w', Cls W w' → w'.cell? ⟨w.heap.size, 0, none⟩ = some (.slice R lst.length rc) from fun w' hw => by rw [cell_of_row _ _ _ _ _ _ ((hw.block _ (lt_of_block J4.out)).trans J4.out)]; rfl)
      gi_wp2
      cases h46 : (bv == 46) with
      | false =>
        rw [h46] at HCRX
        refine wpIn_region_quiet_tail (Open.round _ l) 14 (Cls W) (by kernel_rfl) (by kernel_rfl) (Below.refl _ W).drew ?_
        simp only [List.take_succ_cons, List.take_zero, List.drop_succ_cons, List.drop_zero]
        quiet_step ((intro _; rfl))
        quiet_step ((intro _; rfl))
        refine wpQuiet_value_skipsF 4 ({ tmps := #[u0, u1, u2, .pointer (some ⟨w.heap.size, 0, none⟩), u4, u5, u6, u7, .pointer (some ⟨w2.heap.size, 0, none⟩), .pointer (some ⟨bT, 0, none⟩), .pointer (some ⟨Bx, 0, none⟩), .int .u8 bv, u12, u13, u14, u15, u16, u17, u18, u19, u20, u21, u22, u23, u24, .int .u8 bv, .bool false, .bool false, undef, undef, undef, undef, u32, u33, u34, u35, u36, u37, u38, u39, u40, u41, u42], defers := [] }) rfl (.bool false) (fun w _ => by go_simp) (by kernel_rfl) ?_
        simp only [List.drop_succ_cons, List.drop_zero]
        quiet_step ((intro _; rfl))
        refine wpQuiet_value_skipsF 5 ({ tmps := #[u0, u1, u2, .pointer (some ⟨w.heap.size, 0, none⟩), u4, u5, u6, u7, .pointer (some ⟨w2.heap.size, 0, none⟩), .pointer (some ⟨bT, 0, none⟩), .pointer (some ⟨Bx, 0, none⟩), .int .u8 bv, u12, u13, u14, u15, u16, u17, u18, u19, u20, u21, u22, u23, u24, .int .u8 bv, .bool false, .bool false, undef, undef, undef, undef, .bool false, .bool false, undef, undef, undef, undef, undef, u39, u40, u41, u42], defers := [] }) rfl (.bool false) (fun w _ => by go_simp) (by kernel_rfl) ?_
        simp only [List.drop_succ_cons, List.drop_zero]
        refine wpQuiet_nil ?_
        intro w4 hb4
        have L0 := hid ((hb4.block _ (lt_of_block J0.out)).trans J0.out)
        have L4 := hid ((hb4.block _ (lt_of_block J4.out)).trans J4.out)
        have L1 := hid (show Boxed w4 bT 3 (.int .i64 (cv : Int)) from (hb4.block _ (lt_of_block J1.out)).trans J1.out)
        have L2 := hid (J2.out.below hb4)
        have L3 := hid (J3.out.trans (hb4.mono (Nat.le_trans KB.out.size J3.out.size)))
        have LK := hid (keeps_below hb4)
        have LA := hid (show KeepsAt Y.heap.size W w4 from ⟨hb4.size, hb4.block _ JY.out⟩)
        clear hb4
        have hcx : cr x.val = false := by rw [HCRX.out]; rfl
        have HX := hid (show crsW cr (pre ++ [x]) = cv by rw [HSN.out, if_neg (by rw [hcx]; decide), Nat.add_zero])
        clear hcx
        gi_wp2
        refine ⟨LK.out.from _, LA.out, ⟨⟨⟨L0.out, L4.out⟩, ?_⟩, L2.out⟩, L3.out⟩
        rw [HX.out]
        exact L1.out
      | true =>
        rw [h46] at HCRX
        cases sb with
        | true =>
          refine wpIn_region_quiet_tail (Open.round _ l) 14 (Cls W) (by kernel_rfl) (by kernel_rfl) (Below.refl _ W).drew ?_
          simp only [List.take_succ_cons, List.take_zero, List.drop_succ_cons, List.drop_zero]
          quiet_step ((intro _; rfl))
          quiet_step ((intro _; rfl))
          quiet_step ((intro _; rfl))
          refine wpQuiet_load_rowW (by go_simp) 91 _ rfl w2.heap.size rfl 91 (chartC gc g N) (0, 0) _ (fun w' hw => (hw.block _ (lt_of_block J0.out)).trans J0.out) Try.underlying91 rfl (HCS.out g) ?_
          refine wpQuiet_load_rowW (by go_simp) 97 _ rfl Bx rfl 97 #[.int .i64 qv, .int .i64 rv] (0, 0) _ (fun w' hw => (hw.block _ (lt_of_block JX.out)).trans JX.out) Try.underlying97 rfl Try.size_place ?_
          refine wpQuiet_callW (by go_simp) 128 #[.agg (chartC gc g N), .agg #[.int .i64 qv, .int .i64 rv]] (.bool true) (fun w _ => by go_simp) (fun w' hw => (HSE.out w' hw).mono fun e w'' ⟨he, hb'⟩ => ⟨he, hw.trans (hb'.mono hw.size)⟩) ?_
          quiet_step ((intro _; rfl))
          quiet_step ((intro _; rfl))
          refine wpQuiet_value_skipsF 5 ({ tmps := #[u0, u1, u2, .pointer (some ⟨w.heap.size, 0, none⟩), u4, u5, u6, u7, .pointer (some ⟨w2.heap.size, 0, none⟩), .pointer (some ⟨bT, 0, none⟩), .pointer (some ⟨Bx, 0, none⟩), .int .u8 bv, u12, u13, u14, u15, u16, u17, u18, u19, u20, u21, u22, u23, u24, .int .u8 bv, .bool true, .bool true, .agg (chartC gc g N), .agg #[.int .i64 qv, .int .i64 rv], .bool true, .bool false, .bool false, .bool false, undef, undef, undef, undef, undef, u39, u40, u41, u42], defers := [] }) rfl (.bool false) (fun w _ => by go_simp) (by kernel_rfl) ?_
          simp only [List.drop_succ_cons, List.drop_zero]
          refine wpQuiet_nil ?_
          intro w4 hb4
          have L0 := hid ((hb4.block _ (lt_of_block J0.out)).trans J0.out)
          have L4 := hid ((hb4.block _ (lt_of_block J4.out)).trans J4.out)
          have L1 := hid (show Boxed w4 bT 3 (.int .i64 (cv : Int)) from (hb4.block _ (lt_of_block J1.out)).trans J1.out)
          have L2 := hid (J2.out.below hb4)
          have L3 := hid (J3.out.trans (hb4.mono (Nat.le_trans KB.out.size J3.out.size)))
          have LK := hid (keeps_below hb4)
          have LA := hid (show KeepsAt Y.heap.size W w4 from ⟨hb4.size, hb4.block _ JY.out⟩)
          clear hb4
          have hcx : cr x.val = false := by rw [HCRX.out]; rfl
          have HX := hid (show crsW cr (pre ++ [x]) = cv by rw [HSN.out, if_neg (by rw [hcx]; decide), Nat.add_zero])
          clear hcx
          gi_wp2
          refine ⟨LK.out.from _, LA.out, ⟨⟨⟨L0.out, L4.out⟩, ?_⟩, L2.out⟩, L3.out⟩
          rw [HX.out]
          exact L1.out
        | false =>
          refine wpIn_region_quiet_tail (Open.round _ l) 14 (Cls W) (by kernel_rfl) (by kernel_rfl) (Below.refl _ W).drew ?_
          simp only [List.take_succ_cons, List.take_zero, List.drop_succ_cons, List.drop_zero]
          quiet_step ((intro _; rfl))
          quiet_step ((intro _; rfl))
          quiet_step ((intro _; rfl))
          refine wpQuiet_load_rowW (by go_simp) 91 _ rfl w2.heap.size rfl 91 (chartC gc g N) (0, 0) _ (fun w' hw => (hw.block _ (lt_of_block J0.out)).trans J0.out) Try.underlying91 rfl (HCS.out g) ?_
          refine wpQuiet_load_rowW (by go_simp) 97 _ rfl Bx rfl 97 #[.int .i64 qv, .int .i64 rv] (0, 0) _ (fun w' hw => (hw.block _ (lt_of_block JX.out)).trans JX.out) Try.underlying97 rfl Try.size_place ?_
          refine wpQuiet_callW (by go_simp) 128 #[.agg (chartC gc g N), .agg #[.int .i64 qv, .int .i64 rv]] (.bool false) (fun w _ => by go_simp) (fun w' hw => (HSE.out w' hw).mono fun e w'' ⟨he, hb'⟩ => ⟨he, hw.trans (hb'.mono hw.size)⟩) ?_
          quiet_step ((intro _; rfl))
          quiet_step ((intro _; rfl))
          quiet_step ((intro _; rfl))
          refine wpQuiet_valueW (by go_simp) (.slice R lst.length rc) (fun w' hw => by have hc := C0.out w' hw; go_simp) ?_
          refine wpQuiet_load_rowW (by go_simp) 91 _ rfl w2.heap.size rfl 91 (chartC gc g N) (0, 0) _ (fun w' hw => (hw.block _ (lt_of_block J0.out)).trans J0.out) Try.underlying91 rfl (HCS.out g) ?_
          refine wpQuiet_load_rowW (by go_simp) 97 _ rfl Bx rfl 97 #[.int .i64 qv, .int .i64 rv] (0, 0) _ (fun w' hw => (hw.block _ (lt_of_block JX.out)).trans JX.out) Try.underlying97 rfl Try.size_place ?_
          refine wpQuiet_callW (by go_simp) 89 #[.agg (chartC gc g N), .agg #[.int .i64 qv, .int .i64 rv]] (.int .i64 av) (fun w _ => by go_simp) (fun w' hw => (HAE.out w' hw).mono fun e w'' ⟨he, hb'⟩ => ⟨he, hw.trans (hb'.mono hw.size)⟩) ?_
          refine wpQuiet_callW (by go_simp) 129 #[.slice R lst.length rc, .int .i64 av] (.bool dm) (fun w _ => by go_simp) (fun w' hw => (HCE2.out w' hw).mono fun e w'' ⟨he, hb'⟩ => ⟨he, hw.trans (hb'.mono hw.size)⟩) ?_
          refine wpQuiet_nil ?_
          intro w4 hb4
          have L0 := hid ((hb4.block _ (lt_of_block J0.out)).trans J0.out)
          have L4 := hid ((hb4.block _ (lt_of_block J4.out)).trans J4.out)
          have L1 := hid (show Boxed w4 bT 3 (.int .i64 (cv : Int)) from (hb4.block _ (lt_of_block J1.out)).trans J1.out)
          have L2 := hid (J2.out.below hb4)
          have L3 := hid (J3.out.trans (hb4.mono (Nat.le_trans KB.out.size J3.out.size)))
          have LK := hid (keeps_below hb4)
          have LA := hid (show KeepsAt Y.heap.size W w4 from ⟨hb4.size, hb4.block _ JY.out⟩)
          clear hb4
          cases dm with
          | false =>
            have hcx : cr x.val = false := by rw [HCRX.out]; rfl
            have HX := hid (show crsW cr (pre ++ [x]) = cv by rw [HSN.out, if_neg (by rw [hcx]; decide), Nat.add_zero])
            clear hcx
            gi_wp2
            refine ⟨LK.out.from _, LA.out, ⟨⟨⟨L0.out, L4.out⟩, ?_⟩, L2.out⟩, L3.out⟩
            rw [HX.out]
            exact L1.out
          | true =>
            have hcx : cr x.val = true := by rw [HCRX.out]; rfl
            have HXX := hid (show crsW cr (pre ++ [x]) = cv + 1 by rw [HSN.out, if_pos hcx])
            have hcell := L1.out.cell
            have hfr := L1.out.frozen
            clear hcx
            gi_wp2
            refine ⟨(LK.out.trans (KeepsOthers.setCell _ _ _)).from _, LA.out.trans ⟨by simp, Below.heap_setCell _ _ _ _ (show Y.heap.size ≠ bT by have := KX.out; have := KY.out; omega)⟩, ⟨⟨⟨?_, ?_⟩, ?_⟩, ?_⟩, ?_⟩
            · exact (Below.heap_setCell _ _ _ _ (show w2.heap.size ≠ bT by have := KX.out; omega)).trans L0.out
            · exact (Below.heap_setCell _ _ _ _ (show w.heap.size ≠ bT by have := KX.out; have := KWL.out; omega)).trans L4.out
            · rw [HXX.out, Int.natCast_add]
              exact L1.out.set _
            · refine L2.out.keep (Below.heap_setCell _ _ _ _ ?_)
              rintro rfl
              obtain ⟨cs, h1, _⟩ := L2.out
              have h3 := L1.out
              unfold Boxed at h3
              rw [h1] at h3
              simp at h3
            · exact L3.out.setCell (p := ⟨bT, 0, none⟩) (by have := KX.out; have := HB2.out.size; show w.heap.size ≤ bT; omega) _
    case done =>
      rintro D xs W hD rfl ⟨⟨⟨⟨i0, i4⟩, i1⟩, i2⟩, i3⟩ hK
      rw [crsW_all] at i1
      have hcell := i1.cell
      have J3 := hid i3
      have JK := hid hK
      clear i0 i1 i2 i3 i4 hK
      gi_wp2
      refine ⟨by simp, .inl ⟨_, _, rfl, run_takeDeferred JK.out, ?_⟩⟩
      refine ⟨_, results_tmp2 rfl _ _ _, ?_, _, true, rfl, .inl ⟨n, m, HGr.out, ?_⟩⟩
      · exact (KB.out.trans J3.out).trans (belowK_b (w := w) (Nat.le_refl _) _ D _ _ (by have := KZ.out; have := HB2.out.size; omega) JK.out rfl rfl)
      · rw [HLET.out]
        exact HRX.out K HKK.out
    case stop =>
      rintro D c pre W _ _ h _
      exact h.elim
  · have HB := hid hbel
    have HGr := hid hno
    clear hbel hno
    gi_wp2_with (refine wpListIn_store_row (Open.wide _) rfl 63 _ _ rfl w1.heap.size zeroG rfl rfl 63 zeroG (heap_new0 w1 _) Try.size_grid rfl (gcells_one 0 0 (pad [])) ?_)
    refine ⟨_, results_tmp2 rfl _ _ _, ?_, 0, false, rfl, .inr ⟨HGr.out, rfl, rfl⟩⟩
    exact HB.out.trans (below_setRow' ((Below.refl _ w1).alloc HB.out.size _) HB.out.size _)
end Go.Proofs.Ytonhnmpgikmlpaa
