/- The contract of the disk's Crash. No condition. What each call does to a disk, as lists; the program's calls by it. No condition but the widths. Names in a row  -/
import Derived.Test.YtedlibkkeegnaaaGreatRp22
import Derived.Deep.CutRange
import Derived.Test.YtedlibkkeegnaaaGreatRp20
namespace Go.Proofs.YtedlibkkeegnaaaGreat
open Go.RowKit Go.Maps Go.Sort
variable {w w' : World} {F : Nat -> Prop} {B room d : Nat}
theorem OwnS.form {v : Value} {ks : List Str} (h : OwnS w B v ks) : ∃ A c, v = .slice A ks.length c /\ ks.length <= c /\ c <= 9223372036854775807 /\ ∀ i, i < ks.length -> ∃ g, A = some ⟨g, 0, none⟩ /\ B <= g /\ g < w.heap.size /\ w.cell? ⟨g, i, none⟩ = some (encStr (ks.getD i [])) := by
 unfold OwnS at h;rcases h.2 with ⟨rfl, hn⟩ | ⟨g, cap, cur, rfl, hb, hg, h1, h2, _⟩
 ·exact ⟨none, 0, by rw [hn], by omega, by decide, fun i hi => by omega⟩
 ·refine ⟨_, cap, rfl, h1, by unfold maxLen at h2; omega, fun i hi => ⟨g, rfl, hb, heap_lt hg, ?_⟩⟩;rw [World.ownsRow.cellAt h i (by omega)];simp [hi]
theorem OwnS.turn {S : Nat -> Prop} {v : Value} {ks : List Str} (h : OwnS w B v ks) (t : Turn S w w') (ho : Off S v) : OwnS w' B v ks := by
 unfold OwnS at h ⊢;refine ⟨h.1, ?_⟩;rcases h.2 with hn | ⟨g, cap, cur, hv, h1, h2, r⟩
 ·exact .inl hn
 ·refine .inr ⟨g, cap, cur, hv, h1, ?_, r⟩;rw [t.block g (heap_lt h2) (ho g (by rw [hv]; rfl))];exact h2
theorem OwnS.lt {v : Value} {ks : List Str} (h : OwnS w B v ks) : ∀ g, v.ownBlock = some g -> B <= g /\ g < w.heap.size := World.ownsRow.lt h
theorem lookL {X : List (Str × Fil)} (h : Shell w F d room X) {k : Str} {a : Fil} (hk : k.length <= maxLen) (hg : getK k X = some a) : ∃ mv, w.cell? ⟨d, 2, none⟩ = some (.map mv) /\ (Instr.lookup 50 (.map mv) (encStr k) false).run Tryz.prog w = .ok (filV a) w := by
 obtain ⟨mv, hB, hm⟩ := h.cells;refine ⟨mv, hB.cell 2, ?_⟩;rcases hm with ⟨_, rfl⟩ | ⟨b, rfl, _, hm⟩
 ·cases hg
 ·have := look_val hm ⟨k.toArray⟩ (by simpa [ByteArray.size] using hk);have e : (⟨k.toArray⟩ : ByteArray).data.toList = k := by simp
  rw [e, hg] at this;exact this
theorem lay_name (F : Nat -> Prop) (d room : Nat) (X : List (Str × Fil)) (k : Str) (A : Option Addr) (n c l : Nat) (xs : List Nat) (w : World) (hS : Shell w F d room X) (hf : Files w F (delK k X)) (hs : k.length <= 64) (hn : xs.length = n) (hl : l <= n)
  (ho : Own w 0 (.slice A n c) xs) (hb : ∀ x ∈ xs, x < 256) (hF : ∀ g, (Value.slice A n c).ownBlock = some g -> F g /\ ∀ p ∈ delK k X, p.2.1.ownBlock ≠ some g)
  (hu : sumK filL (delK k X) + n <= room) (hfew : (getK k X).isSome = true \/ X.length < 256) :
  Calls Tryz.prog 29 #[.pointer (some ⟨d, 0, none⟩), encStr k, .agg #[.slice A n c, .int .i64 l]] w fun e w' => e = .returned (.tuple #[]) /\
   ∃ F', DiskAt w' F' d room (putK k (xs, l) (absX X)) /\ Next F w F' w' :=
 lay_disk F d room X ⟨k.toArray⟩ A n c l xs w hS hf hs hn hl ho hb hF hu hfew
set_option maxRecDepth 100000 in
set_option maxHeartbeats 3200000 in
theorem crash_core (F : Nat -> Prop) (d room : Nat) (L : DiskL) (z : Int) (draw : Nat) (w : World) (hD : DiskAt w F d room L) (hz : max z 0 = (draw : Int)) :
  Calls Tryz.prog 9 #[.pointer (some ⟨d, 0, none⟩), .int .i64 z] w fun e w' => e = .returned (.tuple #[]) /\ ∃ F', DiskAt w' F' d room (crashD draw L) /\ Next F w F' w' := by
 obtain ⟨hrise, hlen, hul, hr, hby, hkl⟩ := hD.facts;clear hul hby;have HL := hide (list_any F d room L w hD);have HD := hide hD;have HR := hide hrise;have HK := hide hkl;have HZ := hide hz;obtain ⟨ks, hks⟩ : ∃ ks, ks = L.map (·.1) := ⟨_, rfl⟩;rw [<- hks] at HL;obtain ⟨N, hN⟩ : ∃ N, N = ks.length := ⟨_, rfl⟩;have hNL : N = L.length := by rw [hN, hks, List.length_map]
 rw [<- hNL] at hlen;have HKS := hide hks;have HN := hide hN;have HNL := hide hNL;clear hD hrise hkl hN hks hNL;go_enter Tryz.func9, Tryz.ntmps9;go_wp2_with fail
 refine HL.out.mono ?_;rintro e w1 ⟨v, rfl, o1, k1⟩;obtain ⟨A1, c1, rfl, hc1, hc2, hcell1⟩ := o1.form;clear hcell1;rw [<- HN.out] at o1 hc1 ⊢;have D1 := hide (HD.out.below k1);have N1 := hide (Next.of_below F k1);have O1 : Hid (OwnS w1 w.heap.size (.slice A1 N c1) ks /\ ∀ g, (Value.slice A1 N c1).ownBlock = some g -> ¬ F g) := ⟨o1, fun g hg hf => by
  have h1 := (o1.lt g hg).1;have h2 := HD.out.low g hf;omega⟩
 clear o1 k1 HL;go_wp2_with fail
 go_loopw [13] (fun i wr => ∃ (j : Nat) (F' : Nat -> Prop), j <= N /\ i = .int .i64 (j : Int) /\ Hid (DiskAt wr F' d room (crashTo draw j L)) /\ Hid (Next F w F' wr) /\ Hid (OwnS wr w.heap.size (.slice A1 N c1) ks /\ ∀ g, (Value.slice A1 N c1).ownBlock = some g -> ¬ F' g)) (fun i _ => N - (intOf i).toNat)
 case atStart => exact ⟨0, F, Nat.zero_le _, rfl, by unfold Hid; rw [crashTo_zero]; exact D1.out, N1, O1⟩
 case round =>
  obtain ⟨j, F', hj, rfl, hDj, hNj, hOj⟩ := hrel;by_cases hlt : j < N
  ·obtain ⟨A2, c2, e2, _, _, hcell⟩ := hOj.out.1.form;have hjL : j < L.length := by rw [<- HNL.out]; exact hlt
   obtain ⟨g, rfl, hg1, hg2, hck⟩ := hcell j (by rw [<- HN.out]; exact hlt);obtain ⟨rfl, e2a, rfl⟩ : A1 = some ⟨g, 0, none⟩ /\ N = ks.length /\ c1 = c2 := by cases e2; exact ⟨rfl, rfl, rfl⟩
   clear e2 e2a;obtain ⟨k, hk⟩ : ∃ k, k = ks.getD j [] := ⟨_, rfl⟩;have hkL : L[j].1 = k := by rw [hk, HKS.out]; simp [hjL]
   rw [<- hk] at hck;obtain ⟨xs, l, hxl⟩ : ∃ xs l, L[j].2 = (xs, l) := ⟨_, _, rfl⟩;have hget := crashTo_get draw j L HR.out hjL;have hstep := crashTo_step draw j L HR.out hjL;rw [hkL, hxl] at hget hstep;obtain ⟨X, A, c, hX, hS, hf, hx, ho, hb, hl, hn30⟩ := disk_found hDj.out hget;obtain ⟨n, hn⟩ : ∃ n, n = xs.length := ⟨_, rfl⟩;rw [<- hn] at hx ho hl hn30;have hk64 : k.length <= 64 := hS.names _ (getK_mem hx);obtain ⟨mv, cm, hlook⟩ := lookL hS (by unfold maxLen; omega) hx;have hlook : (Instr.lookup 50 (.map mv) (encStr k) false).run Tryz.prog wr = .ok (.agg #[.slice A n c, .int .i64 (l : Int)]) wr := hlook;have hdl : d < wr.heap.size := hS.low d hS.own;have HX := hide hX;have HS := hide hS;have HF := hide hf;have HGX := hide hx;have HO := hide ho;have HB := hide hb;have HNX := hide hn;have HST := hide hstep;have HLK := hide hlook;clear hk hkL hxl hget hstep hX hS hf hx ho hb hn hlook hcell;go_wp2_with (at_lookup; refine halt ?_)
   refine ⟨?_⟩;refine wpList_lookup_run rfl _ _ _ _ rfl _ _ _ rfl rfl HLK.out ?_;obtain ⟨q1, hq1⟩ : ∃ q1, q1 = draw % (n - l + 1) := ⟨_, rfl⟩;obtain ⟨q2, hq2⟩ : ∃ q2, q2 = (q1 + j) % (n - l + 1) := ⟨_, rfl⟩;have hu1 : q1 < n - l + 1 := by rw [hq1]; exact Nat.mod_lt _ (by omega)
   have hu2 : q2 < n - l + 1 := by rw [hq2]; exact Nat.mod_lt _ (by omega)
   have eu : (n : Int) - (l : Int) + 1 = ((n - l + 1 : Nat) : Int) := by omega
   have r1 : (draw : Int).tmod ((n : Int) - (l : Int) + 1) = (q1 : Int) := by
    rw [eu, hq1, Int.tmod_eq_emod_of_nonneg (by omega)];exact (Int.natCast_emod _ _).symm
   have r2 : ((q1 : Int) + (j : Int)).tmod ((n : Int) - (l : Int) + 1) = (q2 : Int) := by
    rw [eu, hq2, Int.tmod_eq_emod_of_nonneg (by omega)];have e : (q1 : Int) + (j : Int) = ((q1 + j : Nat) : Int) := by omega
    rw [e];exact (Int.natCast_emod _ _).symm
   have hnz : ¬ ((n : Int) - (l : Int) + 1 = 0) := by omega
   obtain ⟨m, hm⟩ : ∃ m, m = l + q2 := ⟨_, rfl⟩;have HKK : Hid ((l : Int) + (q2 : Int) = (m : Int)) := by unfold Hid; omega
   have hmn : m <= n := by omega
   have hlm : l <= m := by omega
   have C1 : Hid (crash1 draw j (xs, l) = (xs.take m, m)) := by
    unfold Hid crash1;simp only;rw [<- HNX.out, <- hq1, <- hq2, <- hm]
   have hb1 : q1 <= 1073741824 := by omega
   have hb2 : q2 <= 1073741824 := by omega
   have hjb : j <= 256 := by omega
   have hw1 : IntKind.i64.wrap ((q1 : Int) + (j : Int)) = (q1 : Int) + (j : Int) := by rw [IntKind.wrap_i64]; omega
   have hw2 : IntKind.i64.wrap ((l : Int) + (q2 : Int)) = (l : Int) + (q2 : Int) := by rw [IntKind.wrap_i64]; omega
   clear hq1 hq2 eu hm;go_wp2_with fail
   have ka := below_alloc wr (.cells #[.slice A n c, .int .i64 (l : Int)] 74);have b2 := Blk.new (B := 0) wr 74 #[.slice A n c, .int .i64 (l : Int)] (Nat.zero_le _);have es : (wr.alloc (.cells #[.slice A n c, .int .i64 (l : Int)] 74)).heap.size = wr.heap.size + 1 := by simp
   obtain ⟨W2, hW2⟩ : ∃ W2, W2 = wr.alloc (.cells #[.slice A n c, .int .i64 (l : Int)] 74) := ⟨_, rfl⟩;rw [<- hW2] at ka b2 es ⊢;have f0 : W2.cell? ⟨wr.heap.size, 0, none⟩ = some (.slice A n c) := b2.cell 0;have f1 : W2.cell? ⟨wr.heap.size, 1, none⟩ = some (.int .i64 (l : Int)) := b2.cell 1;have B2 := hide b2;have KA := hide ka;have ES := hide es;have IO := hide (HO.out.isB.keep ka);clear ka b2 es hW2
   go_cut [] from 31 to 51 (fun wc => Hid (∃ A5 c5, Own wc W2.heap.size (.slice A5 m c5) (xs.take m) /\ Blk wc 0 74 wr.heap.size [.slice A5 m c5, .int .i64 (l : Int)] /\ W2.grownBy wc (some wr.heap.size)))
   case first =>
    go_region_with (go_at_call 28; rw [HKK.out]; refine (cutF_any A n c l m xs _ (by exact IO.out) HNX.out.symm (by omega) (by omega)).mono ?_; rintro e w5 ⟨A5, c5, rfl, o5, k5⟩; have K5 : Below W2.heap.size W2 w5 := ⟨k5.os, k5.tape, k5.output, k5.size, k5.block⟩; have B5 := B2.out.keep K5; have f05 : w5.cell? ⟨wr.heap.size, 0, none⟩ = some (.slice A n c) := B5.cell 0; have f15 : w5.cell? ⟨wr.heap.size, 1, none⟩ = some (.int .i64 (l : Int)) := B5.cell 1; have z0 := B5.frozen 0; have z1 := B5.frozen 1)
    all_goals
     have B7 := (B5.stored 0 (.slice A5 m c5)).stored 1 (.int .i64 (l : Int));have g7 : w5.grownBy ((w5.setCell ⟨wr.heap.size, 0, none⟩ (.slice A5 m c5)).setCell ⟨wr.heap.size, 1, none⟩ (.int .i64 (l : Int))) (some wr.heap.size) := (grown_set w5 _ 0 _).trans (grown_set _ _ 1 _);have o5' : Own w5 W2.heap.size (.slice A5 m c5) (xs.take m) := o5;have o7 : Own ((w5.setCell ⟨wr.heap.size, 0, none⟩ (.slice A5 m c5)).setCell ⟨wr.heap.size, 1, none⟩ (.int .i64 (l : Int))) W2.heap.size (.slice A5 m c5) (xs.take m) := by
      refine o5'.turn (Turn.of_grown g7) ?_;intro i hi e;have e : i = wr.heap.size := by simpa using e
      have h1 := (o5'.lt i hi).1;have h2 := ES.out;omega
     have G7 : W2.grownBy ((w5.setCell ⟨wr.heap.size, 0, none⟩ (.slice A5 m c5)).setCell ⟨wr.heap.size, 1, none⟩ (.int .i64 (l : Int))) (some wr.heap.size) := World.grownBy.trans ⟨K5.os, K5.tape, K5.output, K5.size, fun i hi _ => K5.block i hi⟩ g7;have KE := hide (And.intro o7 (And.intro B7 G7));clear B7 g7 o7 G7 o5 o5' k5 f05 f15 z0 z1;go_wp2_with fail
     go_meet
     case rel => exact ⟨A5, c5, KE.out.1, KE.out.2.1, KE.out.2.2⟩
   case rest =>
    clear f0 f1 r1 r2 hw1 hw2;obtain ⟨A5, c5, oc, bc, gc⟩ := hcut.out;have kc : Below wr.heap.size wr wc := KA.out.grown gc KA.out.size (fun i e => by cases e; exact Nat.le_refl _);have x0 : wc.cell? ⟨wr.heap.size, 0, none⟩ = some (.slice A5 m c5) := bc.cell 0;have x1 : wc.cell? ⟨wr.heap.size, 1, none⟩ = some (.int .i64 (l : Int)) := bc.cell 1;have y1 := bc.frozen 1;have g8 := grown_set wc wr.heap.size 1 (.int .i64 (m : Int));have k8 : Below wr.heap.size wr (wc.setCell ⟨wr.heap.size, 1, none⟩ (.int .i64 (m : Int))) := kc.grown g8 kc.size (fun i e => by cases e; exact Nat.le_refl _);have o8 : Own (wc.setCell ⟨wr.heap.size, 1, none⟩ (.int .i64 (m : Int))) W2.heap.size (.slice A5 m c5) (xs.take m) := oc.turn (Turn.of_grown g8) (fun i hi e => by
     have e : i = wr.heap.size := by simpa using e
     have h1 := (oc.lt i hi).1;have h2 := ES.out;omega)
    have o8' : Own (wc.setCell ⟨wr.heap.size, 1, none⟩ (.int .i64 (m : Int))) wr.heap.size (.slice A5 m c5) (xs.take m) := o8.down KA.out.size;have OO := hide (off_others (k := k) HF.out HS.out.low o8');have S8 := hide ((HS.out.below k8).more (F' := fun g => F' g \/ (Value.slice A5 m c5).ownBlock = some g) (fun g => .inl) (fun g hg => by
     rcases hg with h | h
     ·exact Nat.lt_of_lt_of_le (HS.out.low g h) k8.size
     ·exact (o8.lt g h).2))
    have F8 := hide (((HF.out.turn (S := fun _ => False) (Turn.of_below _ k8) (fun _ _ => id)).sub (fun p (hp : p ∈ delK k X) => (mem_delK.1 hp).1)).u8 (U8.refl _) (F' := fun g => F' g \/ (Value.slice A5 m c5).ownBlock = some g) (fun g => .inl));have HG : Hid (∀ g, (F' g \/ (Value.slice A5 m c5).ownBlock = some g) -> F' g \/ wr.heap.size <= g) := fun g hg => by
     rcases hg with h | h
     ·exact .inl h
     ·exact .inr (o8'.lt g h).1
    have O8 := hide (o8.down (Nat.zero_le _));have K8 := hide k8;have HT : Hid ((xs.take m).length = m) := by unfold Hid; rw [List.length_take, <- HNX.out]; omega
    have HU : Hid (sumK filL (delK k X) + m <= room) := by
     have h1 := sumK_del filL k HS.out.rise;rw [HGX.out] at h1;have h4 : ((some ((Value.slice A n c, xs, l) : Fil)).map filL).getD 0 = xs.length := rfl;rw [h4, <- HNX.out] at h1;have h2 := HS.out.used;unfold Hid;omega
    clear oc bc gc kc g8 k8 o8 o8' hcut;go_wp2_with fail
    clear x0 x1 y1;refine (lay_name _ d room X k A5 m c5 m (xs.take m) _ S8.out F8.out hk64 HT.out (Nat.le_refl _) O8.out (fun x hx => HB.out x (List.mem_of_mem_take hx)) (fun g hg => ⟨.inr hg, OO.out g hg⟩) HU.out (.inl (by rw [HGX.out]; rfl))).mono ?_;rintro e w9 ⟨rfl, F9, d9, n9⟩;have n9' : Next F' wr F9 w9 := Next.of_more (Turn.of_below F' K8.out) n9 HG.out;rw [<- HX.out, <- C1.out, HST.out] at d9;have o9 : OwnS w9 w.heap.size (.slice (some ⟨g, 0, none⟩) N c1) ks := hOj.out.1.turn n9'.turn (fun i hi hf => hOj.out.2 i hi hf);have D9 := hide d9;have N9 := hide (hNj.out.trans n9');have O9 : Hid (OwnS w9 w.heap.size (.slice (some ⟨g, 0, none⟩) N c1) ks /\ ∀ i, (Value.slice (some ⟨g, 0, none⟩) N c1).ownBlock = some i -> ¬ F9 i) := ⟨o9, fun i hi hf => by
     rcases n9'.foot i hf with h | h
     ·exact hOj.out.2 i hi h
     ·have := (hOj.out.1.lt i hi).2;omega⟩
    clear d9 n9 n9' o9;go_wp2_with fail
    go_roundw
    case rel => exact ⟨j + 1, F9, by omega, by go_num, D9, N9, O9⟩
    case measure => simp [intOf]; omega
  ·obtain rfl : j = N := by omega
   have d9 := hDj.out;rw [HNL.out, crashTo_all] at d9;have KE := hide (And.intro d9 hNj.out);clear d9;go_wp2_with fail
   go_end0;exact ⟨rfl, F', KE.out⟩
theorem crash_any (F : Nat -> Prop) (d room : Nat) (L : DiskL) (z : Int) (w : World) (hD : DiskAt w F d room L) :
  Calls Tryz.prog 9 #[.pointer (some ⟨d, 0, none⟩), .int .i64 z] w fun e w' => e = .returned (.tuple #[]) /\ ∃ F', DiskAt w' F' d room (crashD z.toNat L) /\ Next F w F' w' :=
 crash_core F d room L z z.toNat w hD (by omega)
end Go.Proofs.YtedlibkkeegnaaaGreat
namespace Go.Proofs.YtedlibkkeegnaaaGreat
open Go.RowKit Go.Maps
section
variable (F : Nat -> Prop) (d room : Nat) (L : DiskL) (s : ByteArray) (w : World) (hD : DiskAt w F d room L) (hs : s.size <= 1099511627776)
include hD hs
theorem sync_any : Calls Tryz.prog 70 #[.pointer (some ⟨d, 0, none⟩), .string s] w fun e w' => e = .returned (.int .i64 ((syncL s.data.toList L).2 : Nat)) /\ ∃ F', DiskAt w' F' d room (syncL s.data.toList L).1 /\ Next F w F' w' := by
 unfold syncL;rcases hg : getK s.data.toList L with _ | ⟨xs, l⟩
 ·refine (sync_none F d room L s w hD hs hg).mono ?_;rintro e w' ⟨rfl, k⟩;exact ⟨rfl, F, hD.below k, Next.of_below F k⟩
 ·exact sync_some F d room L s xs l w hD hs hg
theorem remove_any : Calls Tryz.prog 91 #[.pointer (some ⟨d, 0, none⟩), .string s] w fun e w' => e = .returned (.int .i64 ((remL s.data.toList L).2 : Nat)) /\ ∃ F', DiskAt w' F' d room (remL s.data.toList L).1 /\ Next F w F' w' := by
 unfold remL;rcases hg : getK s.data.toList L with _ | a
 ·refine (remove_none F d room L s w hD hs hg).mono ?_;rintro e w' ⟨rfl, k⟩;exact ⟨rfl, F, hD.below k, Next.of_below F k⟩
 ·refine (remove_some F d room L s a w hD hs hg).mono ?_;rintro e w' ⟨rfl, h, k⟩;exact ⟨rfl, F, h, k⟩
theorem cutD_any (z : Int) : Calls Tryz.prog 93 #[.pointer (some ⟨d, 0, none⟩), .string s, .int .i64 z] w fun e w' => e = .returned (.int .i64 ((cutL s.data.toList z L).2 : Nat)) /\ ∃ F', DiskAt w' F' d room (cutL s.data.toList z L).1 /\ Next F w F' w' := by
 unfold cutL;rcases hg : getK s.data.toList L with _ | ⟨xs, l⟩
 ·refine (cutD_none F d room L s z w hD hs hg).mono ?_;rintro e w' ⟨rfl, k⟩;exact ⟨rfl, F, hD.below k, Next.of_below F k⟩
 ·dsimp only;by_cases hz : z < 0 \/ (xs.length : Int) < z
  ·rw [if_pos hz];refine (cutD_arg F d room L s xs l z w hD hs hg hz).mono ?_;rintro e w' ⟨rfl, k⟩;exact ⟨rfl, F, hD.below k, Next.of_below F k⟩
  ·rw [if_neg hz];obtain ⟨k, rfl⟩ : ∃ k : Nat, z = (k : Int) := ⟨z.toNat, by omega⟩;exact cutD_ok F d room L s xs l k w hD hs hg (by omega)
theorem read_any : Calls Tryz.prog 62 #[.pointer (some ⟨d, 0, none⟩), .string s] w fun e w' => ∃ v, e = .returned (.tuple #[v, .int .i64 ((readL s.data.toList L).2 : Nat)]) /\ Own w' w.heap.size v (readL s.data.toList L).1 /\ Below w.heap.size w w' := by
 unfold readL;rcases hg : getK s.data.toList L with _ | ⟨xs, l⟩
 ·refine (read_none F d room L s w hD hs hg).mono ?_;rintro e w' ⟨rfl, k⟩;exact ⟨_, rfl, World.ownsRow_nil _ _ _ _, k⟩
 ·exact read_some F d room L s xs l w hD hs hg
end
end Go.Proofs.YtedlibkkeegnaaaGreat
namespace Go.Proofs.YtedlibkkeegnaaaGreat
open Go.RowKit
variable {w : World} {B n : Nat}
theorem str_at (k : Str) : ∃ s : ByteArray, encStr k = .string s /\ s.data.toList = k := ⟨⟨k.toArray⟩, rfl, by simp⟩
theorem OwnS.rows {v : Value} {ks : List Str} (h : OwnS w B v ks) (hn : ks.length = n) : ∃ A c, v = .slice A n c /\ n <= c /\ c <= 9223372036854775807 /\ ∀ i, i < n -> ∃ g, A = some ⟨g, 0, none⟩ /\ w.cell? ⟨g, i, none⟩ = some (encStr (ks.getD i [])) := by
 subst hn;obtain ⟨A, c, e, h1, h2, h3⟩ := h.form;exact ⟨A, c, e, h1, h2, fun i hi => by
  obtain ⟨g, e, _, _, q⟩ := h3 i hi;exact ⟨g, e, q⟩⟩
end Go.Proofs.YtedlibkkeegnaaaGreat
namespace Go.Proofs.YtedlibkkeegnaaaGreat
open Go.RowKit Go.Maps
section
variable (F : Nat -> Prop) (d room : Nat) (L : DiskL) (s : ByteArray) (w : World) (hD : DiskAt w F d room L) (hs : s.size <= 1099511627776)
include hD hs
theorem rename_any (t : ByteArray) (ht : t.size <= 1099511627776) : Calls Tryz.prog 121 #[.pointer (some ⟨d, 0, none⟩), .string s, .string t] w fun e w' => e = .returned (.int .i64 ((renL s.data.toList t.data.toList L).2 : Nat)) /\ ∃ F', DiskAt w' F' d room (renL s.data.toList t.data.toList L).1 /\ Next F w F' w' := by
 have hl : t.data.toList.length = t.size := rfl;by_cases hn : 1 <= t.size /\ t.size <= 64
 ·have e : renL s.data.toList t.data.toList L = (match getK s.data.toList L with | none => (L, 7) | some a => (putK t.data.toList a (delK s.data.toList L), 0)) := by unfold renL; rw [if_neg (fun h => h (by rw [hl]; exact hn))] <;> rfl
  rw [e];rcases hg : getK s.data.toList L with _ | ⟨xs, l⟩
  ·refine (rename_none F d room L s t w hD hs hn hg).mono ?_;rintro e w' ⟨rfl, k⟩;exact ⟨rfl, F, hD.below k, Next.of_below F k⟩
  ·exact rename_ok F d room L s t xs l w hD hs hn hg
 ·have e : renL s.data.toList t.data.toList L = (L, 1) := by unfold renL; rw [if_pos (by rw [hl]; exact hn)]
  rw [e];refine (rename_arg d s t w hn (by omega)).mono ?_;rintro e w' ⟨rfl, k⟩;exact ⟨rfl, F, hD.below k, Next.of_below F k⟩
end
end Go.Proofs.YtedlibkkeegnaaaGreat
namespace Go.Proofs.YtedlibkkeegnaaaGreat
open Go.RowKit Go.Maps Go.Sort
variable {w w' : World} {n b : Nat}
def camePast (left : Lit -> Bool) (X : List (Str × Fil)) : DiskL := absX (X.filter fun p => !left (.string p.1))
theorem rise_filter {α : Type} {l : List (Str × α)} (h : Rise l) (f : Str × α -> Bool) : Rise (l.filter f) := h.filter _
theorem came_start (X : List (Str × Fil)) : camePast (Maps.has (strP filV X)) X = [] := by
 unfold camePast;rw [List.filter_eq_nil_iff.2]
 ·rfl
 ·intro p hp;rw [strP_has];rcases hg : getK p.1 X with _ | a
  ·exact absurd rfl (getK_none hg p hp)
  ·simp
theorem came_end (left : Lit -> Bool) (X : List (Str × Fil)) (h : ∀ kl, left kl = false) : camePast left X = absX X := by
 unfold camePast;rw [List.filter_eq_self.2];intro p _;simp [h]
theorem came_none {left : Lit -> Bool} {X : List (Str × Fil)} {k : Str} (h : left (.string k) = true) : getK k (camePast left X) = none := by
 unfold camePast;rw [absX_get];rcases hg : getK k (X.filter fun p => !left (.string p.1)) with _ | a
 ·rfl
 ·have := (List.mem_filter.1 (getK_mem hg)).2;simp [h] at this
theorem came_step {left : Lit -> Bool} {X : List (Str × Fil)} {k : Str} {a : Fil} (hr : Rise X) (hg : getK k X = some a) : putK k a.2 (camePast left X) = camePast (fun z => left z && !z.sameKey (.string k)) X := by
 unfold camePast;rw [<- absX_put];congr 1;refine rise_ext (putK_rise (rise_filter hr _)) (rise_filter hr _) fun p => ?_
 rw [mem_putK, List.mem_filter, List.mem_filter];constructor
 ·rintro (rfl | ⟨⟨h1, h2⟩, h3⟩)
  ·exact ⟨getK_mem hg, by simp [Lit.sameKey]⟩
  ·refine ⟨h1, ?_⟩;simp only [Bool.not_eq_true'] at h2;simp [h2]
 ·rintro ⟨h1, h2⟩;by_cases e : p.1 = k
  ·exact .inl (rise_inj hr h1 (getK_mem hg) e)
  ·refine .inr ⟨⟨h1, ?_⟩, e⟩;have h3 : (Lit.string p.1).sameKey (.string k) = false := by simp [Lit.sameKey, e]
   simp only [h3, Bool.not_false, Bool.and_true] at h2;exact h2
theorem sum_filter {α : Type} (g : α -> Nat) (f : Str × α -> Bool) (l : List (Str × α)) : sumK g (l.filter f) <= sumK g l := by
 induction l with
 | nil => exact Nat.le_refl _
 | cons y r ih =>
  unfold sumK at *;rw [List.filter_cons];split
  ·simp only [List.map_cons, List.sum_cons]; omega
  ·simp only [List.map_cons, List.sum_cons]; omega
theorem came_room {left : Lit -> Bool} {X : List (Str × Fil)} {k : Str} {a : Fil} (hr : Rise X) (h : left (.string k) = true) (hg : getK k X = some a) : usedL (camePast left X) + a.2.1.length <= sumK filL X /\ (camePast left X).length < X.length := by
 unfold camePast;rw [absX_used, absX_length];have h1 : X.filter (fun p => !left (.string p.1)) = (delK k X).filter (fun p => !left (.string p.1)) := by
  unfold delK;rw [List.filter_filter];refine List.filter_congr fun p hp => ?_
  by_cases e : p.1 = k
  ·rw [e, h]; simp
  ·simp [e]
 rw [h1];have h2 := sum_filter filL (fun p => !left (.string p.1)) (delK k X);have h3 := sumK_del filL k hr;rw [hg] at h3;have h4 : ((some a).map filL).getD 0 = a.2.1.length := rfl;rw [h4] at h3;have h5 := length_del hr hg;have h6 := List.length_filter_le (fun p => !left (.string p.1)) (delK k X);omega
theorem ranges_turn {S : Nat -> Prop} {P : Program} {k : TypeId} {R : Value -> Option (DataW Value × List MemPlace)} {r : Nat} {D : DataW Value} {left : Lit -> Bool} {cnt : Nat} (h : w.ranges P k R b r n D left cnt) (t : Turn S w w') (hb : ¬ S b) (hr : ¬ S r) : w'.ranges P k R b r n D left cnt := by
 have hlb := h.owns.lt;have hlr := h.lt;obtain ⟨es, clock, since, seen, c0, h1, h2, h3, h4, h5, rest⟩ := h;exact ⟨es, clock, since, seen, c0, by rw [t.block b hlb hb]; exact h1, h2, h3, h4, by rw [t.block r hlr hr]; exact h5, rest⟩
theorem disk_new (w : World) (room : Nat) (hr : room <= 1073741824) : DiskAt (w.alloc (.cells #[.int .i64 (room : Int), .int .i64 0, .map none] 52)) (fun k => k = w.heap.size) w.heap.size room [] := by
 refine ⟨[], rfl, ⟨⟨none, Blk.new (B := 0) w _ _ (Nat.zero_le _), .inl ⟨rfl, rfl⟩⟩, rfl, ?_, hr, Nat.zero_le _, Nat.zero_le _, (fun p hp => by cases hp), List.Pairwise.nil, (fun p hp => by cases hp)⟩, ⟨(fun p hp => by cases hp), fun p hp => by cases hp⟩⟩;rintro k rfl;simp
theorem inv_tok {X : List (Str × Fil)} {k : Str} {c : Value} {yd : DataW Value} {yp : List MemPlace} (hv : tok c = some (yd, yp)) (hat : ∀ zd, (strP filV X).atKey (.string k) zd = yd) : ∃ a, getK k X = some a /\ c = filV a := by
 unfold tok at hv;simp only [Option.some.injEq, Prod.mk.injEq] at hv;obtain ⟨rfl, _⟩ := hv;have h1 := hat .nil;rw [strP_at] at h1;rcases hg : getK k X with _ | a
 ·rw [hg] at h1;simp at h1
 ·rw [hg] at h1;simp only [Option.map_some, Option.getD_some, DataW.held.injEq] at h1;exact ⟨a, rfl, h1.symm⟩
set_option maxRecDepth 100000 in
set_option maxHeartbeats 1600000 in
theorem copy_none (d room : Nat) (w : World) (c0 : w.cell? ⟨d, 0, none⟩ = some (.int .i64 (room : Int))) (c2 : w.cell? ⟨d, 2, none⟩ = some (.map none)) (hd : d < w.heap.size) (hr : room <= 1073741824) :
  Calls Tryz.prog 17 #[.pointer (some ⟨d, 0, none⟩)] w fun e w' => ∃ d' F', e = .returned (.pointer (some ⟨d', 0, none⟩)) /\ DiskAt w' F' d' room [] /\ (∀ k, F' k -> w.heap.size <= k) /\ Below w.heap.size w w' := by
 have k1 := below_alloc w (.cells #[.int .i64 (room : Int), .int .i64 0, .map none] 52);have d1 := disk_new w room hr;have k2 := below_alloc (w.alloc (.cells #[.int .i64 (room : Int), .int .i64 0, .map none] 52)) (.mapIter none 0 #[] 0);have qr := run_range_nilMap (P := Tryz.prog) (w.alloc (.cells #[.int .i64 (room : Int), .int .i64 0, .map none] 52)) 50 _ _ Tryz.underlying50;have qn := fun ty => run_next_nilMap (P := Tryz.prog) (w.alloc (.cells #[.int .i64 (room : Int), .int .i64 0, .map none] 52)) ty 0 0 #[]
 have es : (w.alloc (.cells #[.int .i64 (room : Int), .int .i64 0, .map none] 52)).heap.size = w.heap.size + 1 := by simp
 rw [es] at qr qn;have d2 := d1.below k2;have k3 := below_step k1 k2;obtain ⟨W2, hW2⟩ : ∃ W2, W2 = (w.alloc (.cells #[.int .i64 (room : Int), .int .i64 0, .map none] 52)).alloc (.mapIter none 0 #[] 0) := ⟨_, rfl⟩;rw [<- hW2] at d2 k3 qr qn;have D2 := hide d2;have K3 := hide k3;have HW2 := hide hW2;clear k1 d1 k2 d2 k3 es hW2;go_enter Tryz.func17, Tryz.ntmps17;go_wp2_with fail
 go_loopw [] (fun wr => wr = W2) (fun _ => 0)
 case atStart => rfl
 case round =>
  obtain rfl := hrel;go_wp2_with fail
  go_ret;exact ⟨w.heap.size, _, rfl, D2.out, fun k hk => by omega, K3.out⟩
set_option maxRecDepth 100000 in
set_option maxHeartbeats 3200000 in
theorem copy_some (F : Nat -> Prop) (d room b : Nat) (X : List (Str × Fil)) (w : World) (hS : Shell w F d room X) (hf : Files w F X) (c0 : w.cell? ⟨d, 0, none⟩ = some (.int .i64 (room : Int))) (c2 : w.cell? ⟨d, 2, none⟩ = some (.map (some b))) (hFb : F b) (hm : w.ownsMap Tryz.prog 9 tok b X.length (strP filV X)) :
  Calls Tryz.prog 17 #[.pointer (some ⟨d, 0, none⟩)] w fun e w' => ∃ d' F', e = .returned (.pointer (some ⟨d', 0, none⟩)) /\ DiskAt w' F' d' room (absX X) /\ (∀ k, F' k -> w.heap.size <= k) /\ Below w.heap.size w w' := by
 have hd : d < w.heap.size := hS.low d hS.own;have hbw : b < w.heap.size := hS.low b hFb;have hr := hS.most;have hfew := hS.few;have k1 := below_alloc w (.cells #[.int .i64 (room : Int), .int .i64 0, .map none] 52);have D1 := hide (disk_new w room hr);have M1 := hide (ownsMap_turn (S := fun _ => False) hm (Turn.of_below _ k1) id);have es : (w.alloc (.cells #[.int .i64 (room : Int), .int .i64 0, .map none] 52)).heap.size = w.heap.size + 1 := by simp
 have K1 := hide k1;have ES := hide es;have HS := hide hS;have HF := hide hf;clear hS hf hm k1 es;go_enter Tryz.func17, Tryz.ntmps17;go_wp2_with (first | (at_range; refine wpList_range_own _ rfl _ 50 rfl 9 74 (string_keyed Tryz.underlying9) Tryz.underlying50 tok b X.length (strP filV X) rfl M1.out ?_; intro w0 hrg0 hg0 hs0))
 go_frame
 rw [ES.out] at hrg0 hs0 ⊢;have k2 : Below w.heap.size w w0 := K1.out.trans ⟨hg0.os, hg0.tape, hg0.output, hg0.size, fun i hi => hg0.block i (by rw [ES.out]; omega) (by simp)⟩;have d0 := D1.out.turn (Turn.of_grown hg0) (fun g hg e => by simp at e);have R0 := hide hrg0;have D0 : Hid (DiskAt w0 (fun k => k = w.heap.size) w.heap.size room (camePast (Maps.has (strP filV X)) X)) := by unfold Hid; rw [came_start]; exact d0
 have F0 : Hid (∀ k, k = w.heap.size -> w.heap.size <= k /\ k ≠ w.heap.size + 1) := by unfold Hid; omega
 have K2 := hide k2;clear hrg0 d0 k2 hg0 hs0
 go_loopw [] (fun wr => ∃ (left : Lit -> Bool) (cnt : Nat) (F' : Nat -> Prop), Hid (wr.ranges Tryz.prog 9 tok b (w.heap.size + 1) X.length (strP filV X) left cnt) /\ Hid (DiskAt wr F' w.heap.size room (camePast left X)) /\ Hid (∀ k, F' k -> w.heap.size <= k /\ k ≠ w.heap.size + 1) /\ Hid (Below w.heap.size w wr)) (fun wr => wr.rangeLeft b (w.heap.size + 1))
 case atStart => exact ⟨_, _, _, R0, D0, F0, K2⟩
 case round =>
  obtain ⟨left, cnt, F', hrg, hDc, hFc, hk⟩ := hrel;go_wp2_with (first | (at_next; refine wpList_next_ranges _ rfl _ rfl 9 (string_keyed Tryz.underlying9) tok encStr (fun v : Value => v) (fun key kl hk => by obtain ⟨x, hx, _⟩ := Maps.keyOf_str Tryz.underlying9 hk; exact ⟨x, hx⟩) (fun v y hv => ⟨v, rfl⟩) b (w.heap.size + 1) X.length (strP filV X) left cnt rfl hrg.out ?_ ?_))
  ·intro hc0 hl0;have d1 := hDc.out;rw [came_end left X hl0] at d1;have KE := hide d1;clear d1;go_wp2_with fail
   go_ret;exact ⟨w.heap.size, F', rfl, KE.out, fun k hk' => (hFc.out k hk').1, hk.out⟩
  ·intro x v kl yd yp w2 cnt2 hkey hlk hv hat hrg2 hlt hg2 hs2 hen;obtain ⟨x', ex, rfl, hxl⟩ := Maps.keyOf_str Tryz.underlying9 hkey;obtain rfl : x = x' := encStr_inj ex;obtain ⟨a, hax, rfl⟩ := inv_tok hv hat;obtain ⟨⟨A, cp, ea⟩, hla⟩ := HS.out.shape _ (getK_mem hax);obtain ⟨av, xs, l⟩ := a;simp only at ea hla;subst ea;obtain ⟨n, hn⟩ : ∃ n, n = xs.length := ⟨_, rfl⟩;rw [<- hn] at hax hla hv hen;have k2 : Below w.heap.size w w2 := hk.out.grown hg2 hk.out.size (fun j e => by cases e; omega);have hnF : ¬ F' (w.heap.size + 1) := fun h => (hFc.out _ h).2 rfl
   have dc2 := hDc.out.turn (Turn.of_grown hg2) (fun g hg e => hnF (by
    have e : g = w.heap.size + 1 := by simpa using e
    rw [<- e];exact hg))
   have oa := (HF.out.each _ (getK_mem hax)).1.turn (S := fun _ => False) (Turn.of_below _ k2) (fun _ _ => id);have hen' : (Instr.entry (.pointer (some ⟨w.heap.size + 1, 0, none⟩))).run Tryz.prog w2 = .ok (.tuple #[encStr x, .agg #[.slice A n cp, .int .i64 (l : Int)]]) w2 := hen;obtain ⟨hroom, hfew2⟩ := came_room HS.out.rise hlk hax;have hgn := came_none (X := X) hlk;have hst := came_step (left := left) HS.out.rise hax;have hx64 : x.length <= 64 := HS.out.names _ (getK_mem hax);have hnb : n <= 1073741824 := by
    have h1 := HS.out.used;have h2 := HS.out.most;have h3 : ((Value.slice A n cp, xs, l) : Fil).2.1.length = n := hn.symm;rw [h3] at hroom;omega
   have hroom' : usedL (camePast left X) + n <= room := by
    have h1 := HS.out.used;have h3 : ((Value.slice A n cp, xs, l) : Fil).2.1.length = n := hn.symm;rw [h3] at hroom;omega
   obtain ⟨Y, hY, hSY, hfY, hxY⟩ := disk_missing dc2 hgn;rw [hY, absX_used] at hroom';have hYl : Y.length < 256 := by
    have h1 : (camePast left X).length = Y.length := by rw [hY, absX_length]
    omega
   have hdel := delK_of_none hxY;have RG := hide hrg2;have DC := hide dc2;have K2 := hide k2;have OA := hide oa.isB;have HN := hide hn;have SY := hide hSY;have FY := hide hfY;have HXY := hide hxY;have HY := hide hY;have HST := hide hst;have HB := hide (HF.out.each _ (getK_mem hax)).2.2;have LT := hide hlt;have HDEL := hide hdel;have RM := hide hroom';have hw2 : w.heap.size <= w2.heap.size := k2.size;have OLD := hide hrg.out;clear hrg2 dc2 k2 oa hen hn hSY hfY hxY hY hst hkey hlk hv hat hg2 hs2 hgn hax hdel hroom hroom' hfew2 hlt hDc hrg ex;go_wp2_with fail
   have ka := below_alloc w2 (.cells #[.slice A n cp, .int .i64 (l : Int)] 74);have b2 := Blk.new (B := 0) w2 74 #[.slice A n cp, .int .i64 (l : Int)] (Nat.zero_le _);refine (clone_any A n cp xs _ (OA.out.keep ka) HN.out.symm (by omega)).mono ?_;rintro e w3 ⟨v3, rfl, o3, k3⟩;obtain ⟨A3, c3, rfl, _, _, _⟩ := o3.isB.form (n := n) HN.out.symm;have b3 := b2.keep k3;have x0 : w3.cell? ⟨w2.heap.size, 0, none⟩ = some (.slice A n cp) := b3.cell 0;have x1 : w3.cell? ⟨w2.heap.size, 1, none⟩ = some (.int .i64 (l : Int)) := b3.cell 1;have y0 := b3.frozen 0;have es3 : (w2.alloc (.cells #[.slice A n cp, .int .i64 (l : Int)] 74)).heap.size = w2.heap.size + 1 := by simp
   have g4 := grown_set w3 w2.heap.size 0 (.slice A3 n c3);have k23 : Below w2.heap.size w2 w3 := below_step ka k3;have k4 : Below w2.heap.size w2 (w3.setCell ⟨w2.heap.size, 0, none⟩ (.slice A3 n c3)) := k23.grown g4 k23.size (fun i e => by cases e; exact Nat.le_refl _);have o4 : Own (w3.setCell ⟨w2.heap.size, 0, none⟩ (.slice A3 n c3)) (w2.heap.size + 1) (.slice A3 n c3) xs := by
    rw [es3] at o3;exact o3.turn (Turn.of_grown g4) (fun i hi e => by
     have e : i = w2.heap.size := by simpa using e
     have h1 := (o3.lt i hi).1;omega)
   have o4' := o4.down (Nat.le_succ w2.heap.size);have OO := hide (off_others (k := x) FY.out SY.out.low o4');have S4 := hide ((SY.out.below k4).more (F' := fun g => F' g \/ (Value.slice A3 n c3).ownBlock = some g) (fun g => .inl) (fun g hg => by
    rcases hg with h | h
    ·exact Nat.lt_of_lt_of_le (SY.out.low g h) k4.size
    ·exact (o4.lt g h).2))
   have F4 := hide (((FY.out.turn (S := fun _ => False) (Turn.of_below _ k4) (fun _ _ => id)).sub (fun p (hp : p ∈ delK x Y) => (mem_delK.1 hp).1)).u8 (U8.refl _) (F' := fun g => F' g \/ (Value.slice A3 n c3).ownBlock = some g) (fun g => .inl));have HG : Hid (∀ g, (F' g \/ (Value.slice A3 n c3).ownBlock = some g) -> F' g \/ w2.heap.size <= g) := fun g hg => by
    rcases hg with h | h
    ·exact .inl h
    ·exact .inr (o4'.lt g h).1
   have O4 := hide (o4.down (Nat.zero_le _));have K4 := hide k4;clear ka b2 o3 k3 b3 es3 g4 k23 k4 o4 o4';go_wp2_with fail
   clear x0 x1 y0;refine (lay_name _ w.heap.size room Y x A3 n c3 l xs _ S4.out F4.out hx64 HN.out.symm hla O4.out HB.out (fun g hg => ⟨.inr hg, OO.out g hg⟩) (by rw [HDEL.out]; exact RM.out) (.inr hYl)).mono ?_;rintro e w9 ⟨rfl, F9, d9, n9⟩;have n9' : Next F' w2 F9 w9 := Next.of_more (Turn.of_below F' K4.out) n9 HG.out;rw [<- HY.out] at d9;have d9' : DiskAt w9 F9 w.heap.size room (camePast (fun z => left z && !z.sameKey (.string x)) X) := by
    rw [<- HST.out];exact d9
   have rg9 := ranges_turn RG.out n9'.turn (fun h => by have := (hFc.out _ h).1; omega) hnF;have D9 := hide d9';have R9 := hide rg9;have F9' : Hid (∀ k, F9 k -> w.heap.size <= k /\ k ≠ w.heap.size + 1) := fun k hk' => by
    rcases n9'.foot k hk' with h | h
    ·exact hFc.out k h
    ·have := RG.out.lt;exact ⟨by omega, by omega⟩
   have K9 := hide (K2.out.trans (n9'.below hw2 (fun k h => (hFc.out k h).1)));clear d9 n9 n9' d9' rg9;go_wp2_with fail
   go_roundw
   case rel => exact ⟨_, cnt2, F9, R9, D9, F9', K9⟩
   case measure =>
    rw [R9.out.left_eq, OLD.out.left_eq];exact LT.out
theorem copy_any (F : Nat -> Prop) (d room : Nat) (L : DiskL) (w : World) (hD : DiskAt w F d room L) :
  Calls Tryz.prog 17 #[.pointer (some ⟨d, 0, none⟩)] w fun e w' => ∃ d' F', e = .returned (.pointer (some ⟨d', 0, none⟩)) /\ DiskAt w' F' d' room L /\ (∀ k, F' k -> w.heap.size <= k) /\ Below w.heap.size w w' := by
 obtain ⟨X, rfl, hS, hf⟩ := hD;obtain ⟨mv, hB, hm⟩ := hS.cells;rcases hm with ⟨rfl, rfl⟩ | ⟨b, rfl, hFb, hm⟩
 ·exact copy_none d room w (hB.cell 0) (hB.cell 2) hB.lt hS.most
 ·exact copy_some F d room b X w hS hf (hB.cell 0) (hB.cell 2) hFb hm
end Go.Proofs.YtedlibkkeegnaaaGreat
namespace Go.Proofs.YtedlibkkeegnaaaGreat
open Go.RowKit
theorem getK_one {α : Type} (k : Str) (a : α) : getK k [(k, a)] = some a := by simp [getK]
end Go.Proofs.YtedlibkkeegnaaaGreat
