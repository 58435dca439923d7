/- My own work: the walk of scan.Node: what is found in a node. -/
import Derived.Test.YtpkbfljoakodoaaDoorSTx
import Derived.Maps.OwnIn
namespace Go.Proofs.YtpkbfljoakodoaaDoor
open Go.RowKit Go.Shelf Go.Sort Go.ChangeMaps
open S2 (bl bl_len splitB Tab NTab)
attribute [local go_sem] Oper.semAt_some

/-- The paths whose signs occur in texts. -/
def foundP (ts : List ByteArray) (ps : List ByteArray) : List ByteArray := ps.filter fun p => splitB (bl p) && ts.any fun t => occ (sgn p) (bl t)
/-- What is still sought behind some texts. -/
def left (ps ts : List ByteArray) (k : List UInt8) : Bool := signsS ps k && !(ts.any fun t => occ k (bl t))
theorem signsS_self {ps : List ByteArray} {p : ByteArray} (h : p ∈ ps) (hs : splitB (bl p) = true) : signsS ps (sgn p) = true := by
  unfold signsS
  exact List.any_eq_true.2 ⟨p, h, by simp [hs]⟩
theorem hits_left (ps ts : List ByteArray) : hits (left ps ts) ps = foundP ts ps := by
  unfold hits foundP
  refine List.filter_congr fun p hp => ?_
  cases hs : splitB (bl p) with
  | false => rfl
  | true =>
    unfold left
    rw [signsS_self hp hs]
    simp
theorem left_snoc (ps ts : List ByteArray) (t : ByteArray) (k : List UInt8) : left ps (ts ++ [t]) k = (left ps ts k && !occ k (bl t)) := by
  unfold left
  rw [List.any_append]
  cases signsS ps k <;> simp
theorem left_none {ps : List ByteArray} {pre ts : List ByteArray} (hp : pre <+: ts) (h : ∀ k, left ps pre k = false) (k : List UInt8) : left ps pre k = left ps ts k := by
  rw [h k]
  have h1 := h k
  unfold left at h1 ⊢
  cases hs : signsS ps k with
  | false => rfl
  | true =>
    rw [hs] at h1
    have h2 : pre.any (fun t => occ k (bl t)) = true := by simpa using h1
    obtain ⟨t, ht, ho⟩ := List.any_eq_true.1 h2
    have h3 : ts.any (fun t => occ k (bl t)) = true := List.any_eq_true.2 ⟨t, hp.subset ht, ho⟩
    rw [h3]
    rfl
theorem KeepC.turned {n₀ : Nat} {A B : World} {g : Nat} (h : A.mapTurned B g) : KeepC n₀ A B := by
  obtain ⟨es, ck, es', ck', hb, rfl⟩ := h
  intro k C t fr _ e
  have hne : g ≠ k := fun e1 => by
    subst e1
    rw [hb] at e
    cases e
  simp [setBlock, hne, e]
theorem own_base {w : World} {B B' n : Nat} {v : Value} {xs : List Value} {e : TypeId} {s : Nat} (h : w.ownsRow B e s v n xs) (hB : B' ≤ B) : w.ownsRow B' e s v n xs := by
  obtain ⟨h1, h2⟩ := h
  refine ⟨h1, ?_⟩
  rcases h2 with h2 | ⟨g, cap, cur, e0, hb1, h3⟩
  · exact .inl h2
  · exact .inr ⟨g, cap, cur, e0, Nat.le_trans hB hb1, h3⟩
theorem loadIn {F : Fence} {nF : Nat} {ops : Array Oper} {rest : List Oper} {o : Oper} {a : Act} {w : World} {Q : Exit → Act → World → Prop} (hgd : o.guard = none) (x : Operand) (ho : o.op = .load 26 x) (g : Nat) (hx : a.eval x = .pointer (some ⟨g, 0, none⟩)) (t : TypeId) (C : Array Value)
    (hg : Row w g C t) (hi : (Tryd.prog.info? 26).map (·.size) = some C.size)
    (hK : wpListIn F nF Tryd.prog ops Q rest (a.put o.dst (.agg C)) w) : wpListIn F nF Tryd.prog ops Q (o :: rest) a w := by
  refine wpListIn_plain hgd fun K' hK' => ?_
  unfold Oper.wpIn
  refine ⟨by simp [Oper.about, ho], ?_⟩
  rw [Oper.semAt_plain F _ _ (by rw [ho]; intro c hc'; cases hc')]
  unfold execOp
  simp only [ho, hx, Instr.loadAt, Instr.sureAddr, Sem.run_bind, Sem.run_pure, Result.andThen_ok, run_loadVar_row w g t 26 C (0, 0) _ hg Tryd.underlying26 rfl hi]
  exact hK' _ _ hK
set_option maxRecDepth 100000 in
set_option maxHeartbeats 4000000 in
/-- scan.Node: the paths whose signs occur in a node's texts, rising, each once. -/
theorem node_ok (n : Nd) (a : Option Addr) (ps : List ByteArray) (c : Nat) (w : World) (C : Array Value) (h : NodeAt w n C) (h6 : n.count ≤ 16000) (hP : StrsAt w a ps c) (hT : Tab w) (hNT : NTab w) :
    Calls Tryd.prog 9 #[.agg C, .slice a ps.length c] w fun e w' => ∃ v, e = .returned v ∧ w'.ownsRow w.heap.size 9 1 v (uniq ((foundP (textsOf n) ps).map bl)).length ((uniq ((foundP (textsOf n) ps).map bl)).map encStr) ∧ Below w.heap.size w w' := by
  refine (callsIn_wide (n := 5)).1 ?_
  have hb0 : Below w.heap.size w (w.alloc (.cells C 26)) := (Below.refl _ _).alloc (Nat.le_refl _) _
  have HR : Hid (Row (w.alloc (.cells C 26)) w.heap.size C 26) := Row.new w _ _
  have hsg := signsOf_ok a ps c _ (hP.keep hb0) (hT.below hb0 hT.pos) (NTab.keep hNT hb0)
  have hsi : (Tryd.prog.info? 26).map (·.size) = some C.size := by rw [infoN, h.size]
  have HN : Hid (NodeAt w n C) := h
  have HP : Hid (StrsAt w a ps c) := hP
  have HT : Hid (Tab w) := hT
  have HNT : Hid (NTab w) := hNT
  have HB : Hid _ := hb0
  clear h hP hT hNT hb0
  refine callsIn_of_wp_marks Tryd.func9 rfl trivial ?_ rfl
  simp only [Tryd.ntmps9, List.size_toArray, List.length_cons, List.length_nil, Nat.reduceAdd, Nat.reduceSub, Array.replicate_succ, Array.replicate_zero, List.push_toArray, List.append_toArray, List.nil_append, List.cons_append]
  generalize hwB : w.alloc (.cells C 26) = wB at *
  gi_wp2_with (first
    | (refine ⟨trivial, ?_⟩; gi_at_call 22; refine (callsIn_wide.2 hsg).mono ?_; rintro e w1 ⟨rfl, ⟨D1, hS1⟩, hb1⟩
       have hb2 : Below w1.heap.size w1 (w1.alloc (.cells #[.map (some wB.heap.size)] 55)) := (Below.refl _ _).alloc (Nat.le_refl _) _
       have hB2 : Below wB.heap.size wB (w1.alloc (.cells #[.map (some wB.heap.size)] 55)) := hb1.trans (hb2.mono hb1.size)
       have hB2' : Below w.heap.size w (w1.alloc (.cells #[.map (some wB.heap.size)] 55)) := HB.out.trans (hB2.mono HB.out.size)
       have HB2 : Hid (Below w.heap.size w (w1.alloc (.cells #[.map (some wB.heap.size)] 55)) ∧ wB.heap.size < w1.heap.size) := ⟨hB2', hS1.own.lt⟩
       have HS2 : Hid (SetAt (w1.alloc (.cells #[.map (some wB.heap.size)] 55)) wB.heap.size ps.length (signsS ps) D1) := hS1.keep hb2
       have HR2 : Hid (Row (w1.alloc (.cells #[.map (some wB.heap.size)] 55)) w.heap.size C 26) := Row.below HR.out hB2 (Row.lt HR.out)
       have HR3 : Hid (Row (w1.alloc (.cells #[.map (some wB.heap.size)] 55)) w1.heap.size #[.map (some wB.heap.size)] 55) := Row.new w1 _ _
       have htx := stexts_ok n (w1.alloc (.cells #[.map (some wB.heap.size)] 55)) C (HN.out.keep hB2') h6
       clear hsg hb1 hS1 hb2 hB2 hB2')
    | (refine loadIn rfl _ rfl w.heap.size rfl 26 C HR2.out hsi ?_)
    | (refine ⟨trivial, ?_⟩; gi_at_call 15; refine (callsIn_wide.2 htx).mono ?_; rintro e w3 ⟨Bs, sv, zs, rfl, hBs, hcB, hzs, hTx, hb3, hzl⟩; clear htx))
  have hsz := HB2.out.2
  have hBw3 : Below w.heap.size w w3 := HB2.out.1.trans (hb3.mono HB2.out.1.size)
  have hlt3 : w1.heap.size < w3.heap.size := by have := hb3.size; simp at this; omega
  have hgw : w.heap.size ≤ wB.heap.size := HB.out.size
  have h0 : (w3.cell? ⟨w1.heap.size, 0, none⟩ = some (.map (some wB.heap.size)) ∧ ∃ D, SetAt w3 wB.heap.size ps.length (left ps []) D) ∧ Below w.heap.size w w3 :=
    ⟨⟨(Row.cell (Row.below HR3.out hb3 (Row.lt HR3.out)) 0).trans rfl, D1, (HS2.out.keep hb3).cong (fun k => by simp [left])⟩, hBw3⟩
  have HZ : Hid (zs.map (·.1) = textsOf n) := hzs
  clear hb3 hzs hBw3 HR2 HR3 HS2 HN HR
  have hst := values_stops Fence.wide (5 - 1) trivial rfl (by omega) Bs w3.heap.size sv zs (by omega) w3 hBs (Nat.le_refl _) hcB hTx
  refine wpIn_rangeFunc_ownG rfl (by omega) (gf := 47) (lb := #[.pointer (some ⟨Bs, 0, none⟩)]) rfl trivial (enters_of Tryd.func47 (by kernel_rfl) rfl)
    hst KeepC.trans (fun W l o o' _ h1 h2 _ => KeepC.putObj W l o o' h1 h2) (Below.refl _ _) (fun _ => rfl)
    (fun pre W => (W.cell? ⟨w1.heap.size, 0, none⟩ = some (.map (some wB.heap.size)) ∧ ∃ D, SetAt W wB.heap.size ps.length (left ps (pre.map (·.1))) D) ∧ Below w.heap.size w W)
    (fun c pre W => c = Code.exit 0 ∧ ((W.cell? ⟨w1.heap.size, 0, none⟩ = some (.map (some wB.heap.size)) ∧ ∃ D, SetAt W wB.heap.size ps.length (fun _ => false) D) ∧ Below w.heap.size w W) ∧ ∀ k, left ps (pre.map (·.1)) k = false)
    ?hI ?hIx h0
    (fun x => { tmps := #[.agg C, .slice a ps.length c, .pointer (some ⟨w.heap.size, 0, none⟩), undef, .slice none 0 0, .pointer (some ⟨w1.heap.size, 0, none⟩), .string x.1, .slice a ps.length c, .map (some wB.heap.size), .agg C, .func (.func 47) #[] #[.pointer (some ⟨Bs, 0, none⟩)], .string x.1, undef, undef, undef, undef, undef, undef, undef, undef, undef], defers := [] }) ?assign ?body ?done ?stop
  case hI =>
    refine OwnFrom.and (fun s A B row hs hg hr => ⟨Go.cell_kept hs.1 hg (fun r e => (hr r e).2), ?_⟩) (ownFrom_below (Nat.le_refl _) (by omega))
    obtain ⟨D, hD⟩ := hs.2
    exact ⟨D, hD.own.kept hg (fun e => by have := (hr _ e.symm).1; omega), hD.has⟩
  case hIx =>
    intro c'
    refine fun s A B row hs hg hr => ⟨hs.1, ⟨⟨Go.cell_kept hs.2.1.1.1 hg (fun r e => (hr r e).2), ?_⟩, ownFrom_below (β := Unit) (B := w3.heap.size) (Nat.le_refl _) (by omega) () A B row hs.2.1.2 hg hr⟩, hs.2.2⟩
    obtain ⟨D, hD⟩ := hs.2.1.1.2
    exact ⟨D, hD.own.kept hg (fun e => by have := (hr _ e.symm).1; omega), hD.has⟩
  case assign =>
    intro l x W K hK
    gi_wp2
    exact hK
  case body =>
    rintro l pre x W ⟨⟨hc, D, hS⟩, hB⟩ hlt
    have hle := hS.own.len (t := 55) Tryd.underlying55 3
    obtain ⟨z, hz⟩ : ∃ z, z = Maps.size D := ⟨_, rfl⟩
    rw [← hz] at hle
    have HZ0 : Hid _ := hz
    clear hz
    by_cases hz0 : z = 0
    · subst hz0
      gi_wp2
      have h0' := hS.none HZ0.out.symm
      exact ⟨KeepsFrom.of_grownBy (grown_refl W none) (fun j e => by cases e), rfl, ⟨⟨hc, D, hS.cong h0'⟩, hB⟩, fun k => by rw [List.map_append, List.map_cons, List.map_nil, left_snoc, h0' k]; rfl⟩
    · have hz1 : ¬ (z : Int) = 0 := by omega
      have hstr := strike_ok wB.heap.size ps.length _ D x.1 W hS x.2
      gi_wp2_with (refine ⟨trivial, ?_⟩; gi_at_call 23; refine (CallsIn.inRound l (callsIn_wide.2 hstr)).mono ?_; rintro e w5 ⟨⟨r, rfl⟩, ⟨D5, hS5⟩, ht5⟩; clear hstr)
      exact ⟨KeepsFrom.of_grownBy ht5.grown (fun j e => by cases e; omega), KeepC.turned ht5, ⟨(KeepC.turned (n₀ := w1.heap.size + 1) ht5).cell (by omega) hc, D5, hS5.cong (fun k => by rw [List.map_append, List.map_cons, List.map_nil, left_snoc])⟩, below_map hB ht5.grown hgw⟩
  case done =>
    rintro D ys W hD rfl ⟨⟨hc, D4, hS4⟩, hB4⟩ hK
    rw [HZ.out] at hS4
    have hfo := found_ok a ps c wB.heap.size ps.length _ D4 W (HP.out.keep hB4) hS4 (HT.out.below hB4 HT.out.pos) (NTab.keep HNT.out hB4)
    rw [hits_left] at hfo
    gi_wp2_with (refine ⟨trivial, ?_⟩; gi_at_call 24; refine (callsIn_wide.2 hfo).mono ?_; rintro e w6 ⟨v6, rfl, hO6, hb6⟩; clear hfo)
    have hK6 : w6.heap[D]? = some (.deferred (some [])) := (hb6.block D (Array.getElem?_eq_some_iff.1 hK).1).trans hK
    refine ⟨by simp, .inl ⟨_, _, rfl, run_takeDeferred hK6, ?_⟩⟩
    have hB6 := hB4.trans (hb6.mono hB4.size)
    exact ⟨_, results_tmp rfl _ _ _, _, rfl, own_base (ownsRow_putObj hO6 _ hK6 rfl) hB4.size, hB6.trans (belowK_b (w := w) (Nat.le_refl _) w6 D _ _ (by omega) hK6 rfl rfl)⟩
  case stop =>
    rintro D c' pre W hD hp ⟨rfl, ⟨⟨hc, D4, hS4⟩, hB4⟩, hk⟩ hK
    have hS5 : SetAt W wB.heap.size ps.length (left ps (textsOf n)) D4 := hS4.cong fun k => by
      rw [← HZ.out, ← left_none (hp.map _) hk k, hk k]
    have hfo := found_ok a ps c wB.heap.size ps.length _ D4 W (HP.out.keep hB4) hS5 (HT.out.below hB4 HT.out.pos) (NTab.keep HNT.out hB4)
    rw [hits_left] at hfo
    gi_wp2_with (refine ⟨trivial, ?_⟩; gi_at_call 24; refine (callsIn_wide.2 hfo).mono ?_; rintro e w6 ⟨v6, rfl, hO6, hb6⟩; clear hfo)
    have hK6 : w6.heap[D]? = some (.deferred (some [])) := (hb6.block D (Array.getElem?_eq_some_iff.1 hK).1).trans hK
    refine ⟨by simp, .inl ⟨_, _, rfl, run_takeDeferred hK6, ?_⟩⟩
    have hB6 := hB4.trans (hb6.mono hB4.size)
    exact ⟨_, results_tmp rfl _ _ _, _, rfl, own_base (ownsRow_putObj hO6 _ hK6 rfl) hB4.size, hB6.trans (belowK_b (w := w) (Nat.le_refl _) w6 D _ _ (by omega) hK6 rfl rfl)⟩
end Go.Proofs.YtpkbfljoakodoaaDoor
