package tests

import (
	"math"
	"slices"
	"strings"
	"testing"
	"unsafe"

	"loop.example/g00374/impl"
)

// rightLayouts have weights of 0 ahead, in the middle and at the end, one member alone that weighs anything, and the
// greatest weights.
func rightLayouts() [][]int64 {
	l := [][]int64{
		{2, 1, 1}, {1, 1, 1}, {5, 5, 5}, {1, 2, 3}, {5, 0, 1}, {0, 3, 2}, {2, 3, 0}, {0, 0, 4}, {0, 1, 0}, {3, 0, 0},
		{1, 1, 1, 1}, {5, 5, 5, 5}, {4, 3, 2, 1}, {0, 2, 0, 1}, {0, 0, 1, 3}, {2, 0, 0, 3}, {1, 5, 0, 0}, {0, 0, 5, 0}, {0, 0, 0, 1}, {2, 0, 0, 0},
		{1, 1, 1, 1, 1}, {5, 5, 5, 5, 5}, {1, 2, 3, 4, 5}, {0, 0, 2, 1, 3}, {3, 0, 1, 0, 2}, {1, 4, 0, 0, 0}, {0, 1, 2, 3, 0},
		{5, 0, 0, 0, 0}, {0, 0, 3, 0, 0}, {0, 0, 0, 0, 1},
	}
	d := dice(51)
	for len(l) < 60 {
		w := make([]int64, 3+d.below(3))
		for m := range w {
			w[m] = d.below(6)
		}
		w[d.below(int64(len(w)))] = 1 + d.below(5)
		l = append(l, w)
	}
	return l
}

// wrongLayouts are not right, each by one fault alone, under its name.
func wrongLayouts() map[string][]int64 {
	return map[string][]int64{
		"nil": nil, "none": {}, "one member": {1}, "two members": {1, 1}, "six members": {1, 1, 1, 1, 1, 1},
		"six members, the last without weight": {1, 1, 1, 1, 1, 0},
		"a hundred members":                    slices.Repeat([]int64{1}, 100),
		"a weight of -1 ahead":                 {-1, 1, 1}, "a weight of -1 in the middle": {2, -1, 1}, "a weight of -1 at the end": {2, 2, 2, -1},
		"a weight of 6 ahead": {6, 1, 1}, "a weight of 6 in the middle": {1, 6, 1}, "a weight of 6 at the end": {1, 1, 1, 1, 6},
		"a weight of 6 alone": {0, 6, 0},
		"all 0 of three":      {0, 0, 0}, "all 0 of four": {0, 0, 0, 0}, "all 0 of five": {0, 0, 0, 0, 0},
		"1 and -1 and 0": {1, -1, 0}, "the least number": {math.MinInt64, 1, 1}, "the greatest number": {1, 1, math.MaxInt64},
		"numbers that come to 2 together": {math.MaxInt64, math.MaxInt64, 4}, "2 to the 32, and 1": {1<<32 + 1, 1, 1},
	}
}

// parityByHand lays down each member as often as it weighs, and goes round.
func parityByHand(w []int64, stripe int64) int64 {
	var round []int64
	for m, weight := range w {
		round = append(round, slices.Repeat([]int64{int64(m)}, int(weight))...)
	}
	return round[stripe%int64(len(round))]
}

// dataMembers are the members of a stripe but its parity, in order.
func dataMembers(w []int64, stripe int64) []int64 {
	var l []int64
	for m := range int64(len(w)) {
		if m != parityByHand(w, stripe) {
			l = append(l, m)
		}
	}
	return l
}

func sumOf(w []int64) int64 {
	total := int64(0)
	for _, weight := range w {
		total += weight
	}
	return total
}

func TestLayoutConstants(t *testing.T) {
	same(t, "MaxMembers", impl.MaxMembers, 5)
}

func TestLayoutOk(t *testing.T) {
	for _, w := range rightLayouts() {
		if !impl.LayoutOk(w) {
			t.Error(w)
		}
	}
	// Each layout of three members, with weights of -1 .. 6.
	for n := range int64(512) {
		w := []int64{n%8 - 1, n/8%8 - 1, n/64 - 1}
		want := slices.Min(w) >= 0 && slices.Max(w) <= 5 && slices.Max(w) > 0
		if impl.LayoutOk(w) != want {
			t.Error(w, !want)
		}
	}
}

func TestWrongLayouts(t *testing.T) {
	for name, w := range wrongLayouts() {
		t.Run(name, func(t *testing.T) {
			same(t, "LayoutOk", impl.LayoutOk(w), false)
			for _, n := range []int64{0, 1, 2, 7, impl.MaxSeq, -1, impl.MaxSeq + 1, math.MinInt64, math.MaxInt64} {
				same(t, "ParityOf", impl.ParityOf(w, n), int64(-1))
				m, s := impl.PlaceOf(w, n)
				same(t, "PlaceOf", []int64{m, s}, []int64{-1, 0})
				for _, member := range []int64{0, 1, 2, -1, 5} {
					same(t, "LbaOf", impl.LbaOf(w, member, n), int64(-1))
				}
			}
		})
	}
}

// Promise 5: members have parities by their weights.
func TestParitiesByWeights(t *testing.T) {
	for _, w := range rightLayouts() {
		total := sumOf(w)
		for _, first := range []int64{0, 1, 2, 7, total, 1000003, impl.MaxSeq - total + 1} {
			counts := make([]int64, len(w))
			for stripe := first; stripe < first+total; stripe++ {
				m := impl.ParityOf(w, stripe)
				if m < 0 || m >= int64(len(w)) {
					t.Fatal(w, stripe, m)
				}
				counts[m]++
			}
			same(t, "parities of each member", counts, w)
		}
	}
}

func TestParityOfInOrder(t *testing.T) {
	for _, w := range rightLayouts() {
		for stripe := range int64(120) {
			same(t, "parity", impl.ParityOf(w, stripe), parityByHand(w, stripe))
		}
	}
}

func TestParityOfEdges(t *testing.T) {
	for _, w := range rightLayouts() {
		same(t, "stripe 0", impl.ParityOf(w, 0), parityByHand(w, 0))
		same(t, "MaxSeq - 1", impl.ParityOf(w, impl.MaxSeq-1), parityByHand(w, impl.MaxSeq-1))
		same(t, "MaxSeq", impl.ParityOf(w, impl.MaxSeq), parityByHand(w, impl.MaxSeq))
		for _, stripe := range outside(impl.MaxSeq + 1) {
			same(t, "outside", impl.ParityOf(w, stripe), int64(-1))
		}
	}
}

// Promise 5: each block has a place that is no parity's; those of a stripe are its members in order, and each of these
// places has its block.
func TestBlocksHavePlaces(t *testing.T) {
	for _, w := range rightLayouts() {
		width := int64(len(w)) - 1
		for lba := range int64(400) {
			m, s := impl.PlaceOf(w, lba)
			if m < 0 || m == impl.ParityOf(w, s) {
				t.Error(w, lba, "stands at", m, "of stripe", s)
			}
			same(t, "place", []int64{m, s}, []int64{dataMembers(w, lba/width)[lba%width], lba / width})
			same(t, "block of the place", impl.LbaOf(w, m, s), lba)
		}
	}
}

func TestPlacesHaveBlocks(t *testing.T) {
	for _, w := range rightLayouts() {
		for stripe := range int64(120) {
			next := stripe * (int64(len(w)) - 1)
			for m := range int64(len(w)) {
				lba := impl.LbaOf(w, m, stripe)
				if m == parityByHand(w, stripe) {
					same(t, "block of the parity", lba, int64(-1))
					continue
				}
				same(t, "block", lba, next)
				next++
				gotMember, gotStripe := impl.PlaceOf(w, lba)
				same(t, "its place", []int64{gotMember, gotStripe}, []int64{m, stripe})
			}
		}
	}
}

func TestPlaceOfEdges(t *testing.T) {
	for _, w := range rightLayouts() {
		width := int64(len(w)) - 1
		for _, lba := range []int64{0, 1, impl.MaxSeq - 1, impl.MaxSeq} {
			m, s := impl.PlaceOf(w, lba)
			same(t, "place", []int64{m, s}, []int64{dataMembers(w, lba/width)[lba%width], lba / width})
		}
		for _, lba := range outside(impl.MaxSeq + 1) {
			m, s := impl.PlaceOf(w, lba)
			same(t, "outside", []int64{m, s}, []int64{-1, 0})
		}
	}
}

func TestLbaOfEdges(t *testing.T) {
	const last = impl.MaxSeq/4 - 1
	for _, w := range rightLayouts() {
		count := int64(len(w))
		for _, stripe := range []int64{0, 1, last - 1, last} {
			for m := range count {
				want := int64(slices.Index(dataMembers(w, stripe), m))
				if want >= 0 {
					want += stripe * (count - 1)
				}
				same(t, "block", impl.LbaOf(w, m, stripe), want)
			}
			for _, m := range outside(count) {
				same(t, "member outside", impl.LbaOf(w, m, stripe), int64(-1))
			}
		}
		for _, stripe := range append(outside(last+1), impl.MaxSeq, impl.MaxSeq/3, impl.MaxSeq/2) {
			for m := int64(-1); m <= count; m++ {
				same(t, "stripe outside", impl.LbaOf(w, m, stripe), int64(-1))
			}
			for _, m := range outside(count) {
				same(t, "both outside", impl.LbaOf(w, m, stripe), int64(-1))
			}
		}
	}
	// The last block of five members is one below MaxSeq.
	same(t, "the last block", impl.LbaOf([]int64{1, 0, 0, 0, 0}, 4, last), int64(impl.MaxSeq-1))
}

func TestXor(t *testing.T) {
	for _, c := range []struct {
		texts []string
		want  string
	}{
		{[]string{"abcd"}, "abcd"},
		{[]string{"\x00\x00\x00\x00"}, "\x00\x00\x00\x00"},
		{[]string{"\xff\x00\xff\x00"}, "\xff\x00\xff\x00"},
		{[]string{"aaaa", "bbbb"}, "\x03\x03\x03\x03"},
		{[]string{"abcd", "abcd"}, "\x00\x00\x00\x00"},
		{[]string{"\xff\xff\xff\xff", "\xff\xff\xff\xff"}, "\x00\x00\x00\x00"},
		{[]string{"\xff\xff\x00\x00", "\xff\x00\xff\x00"}, "\x00\xff\xff\x00"},
		{[]string{"\x01\x02\x04\x08", "\x10\x20\x40\x80", "\x00\x00\x00\x00"}, "\x11\x22\x44\x88"},
		{[]string{"abcd", "\xff\xff\xff\xff", "abcd"}, "\xff\xff\xff\xff"},
		{[]string{"\x01\x00\x00\x00", "\x00\x02\x00\x00", "\x00\x00\x03\x00", "\x00\x00\x00\x04"}, "\x01\x02\x03\x04"},
		{[]string{"\x01\x00\x00\x00", "\x02\x00\x00\x00", "\x04\x00\x00\x00", "\x08\x00\x00\x00", "\x10\x00\x00\xff"}, "\x1f\x00\x00\xff"},
		{slices.Repeat([]string{"\xc3\xa9\xff\x80"}, 5), "\xc3\xa9\xff\x80"},
	} {
		got, ok := impl.Xor(c.texts)
		same(t, "ok", ok, true)
		same(t, "texts together", got, c.want)
	}
}

func TestXorRefuses(t *testing.T) {
	for name, l := range map[string][]string{
		"nil": nil, "none": {}, "six": slices.Repeat([]string{"abcd"}, 6), "a hundred": slices.Repeat([]string{"abcd"}, 100),
		"an empty one alone": {""}, "three bytes alone": {"abc"}, "five bytes alone": {"abcde"},
		"an empty one first": {"", "abcd"}, "three bytes first": {"abc", "abcd"}, "five bytes first": {"abcde", "abcd"},
		"an empty one last": {"abcd", "abcd", "abcd", "abcd", ""}, "three bytes last": {"abcd", "abcd", "abc"},
		"five bytes last": {"abcd", "abcde"}, "one in the middle": {"abcd", "abcde", "abcd"},
		"all three bytes": {"abc", "abc"}, "all five bytes": {"abcde", "abcde"}, "all empty": {"", "", ""},
		"four letters of more bytes": {"abc\u00e9"}, "six, one of them short": {"abcd", "abcd", "abcd", "abcd", "abcd", "abc"},
	} {
		got, ok := impl.Xor(l)
		same(t, name, ok, false)
		same(t, name, got, "")
	}
}

func TestXorInWhateverOrder(t *testing.T) {
	d := dice(52)
	for range 300 {
		l := make([]string, 1+d.below(5))
		var want [4]byte
		for i := range l {
			var text [4]byte
			for k := range text {
				text[k] = byte(d.below(256))
				want[k] ^= text[k]
			}
			l[i] = string(text[:])
		}
		for range 5 {
			for i := range l {
				j := d.below(int64(len(l)))
				l[i], l[j] = l[j], l[i]
			}
			got, ok := impl.Xor(l)
			same(t, "ok", ok, true)
			same(t, "texts together", got, string(want[:]))
		}
	}
}

// Promise 9: the weights and the room behind them stay as they were, at answers and at refusals.
func TestLayoutsLeaveWeights(t *testing.T) {
	layouts := append(rightLayouts(), []int64{1, 1}, []int64{0, 0, 0}, []int64{1, 6, 1}, []int64{})
	for _, want := range layouts {
		room := append(slices.Clone(want), 77, 78, 79)
		w := room[:len(want)]
		for _, n := range []int64{0, 3, 100, -1, impl.MaxSeq, impl.MaxSeq + 1} {
			for range 2 {
				impl.LayoutOk(w)
				first := impl.ParityOf(w, n)
				same(t, "parity once more", impl.ParityOf(w, n), first)
				m, s := impl.PlaceOf(w, n)
				m2, s2 := impl.PlaceOf(w, n)
				same(t, "place once more", []int64{m2, s2}, []int64{m, s})
				same(t, "block once more", impl.LbaOf(w, 1, n), impl.LbaOf(w, 1, n))
			}
		}
		same(t, "weights", room, append(slices.Clone(want), 77, 78, 79))
	}
}

// Promise 9: a layout is asked anew at each call, so weights that were changed in between count as they are then.
func TestLayoutsKeepNothing(t *testing.T) {
	w := []int64{1, 0, 0}
	same(t, "ahead", impl.ParityOf(w, 1), int64(0))
	w[0], w[2] = 0, 1
	same(t, "behind", impl.ParityOf(w, 1), int64(2))
	w[2] = 0
	same(t, "no weight", impl.ParityOf(w, 1), int64(-1))
	w[1] = 5
	same(t, "one in the middle", impl.ParityOf(w, 1), int64(1))
}

func TestXorLeavesTexts(t *testing.T) {
	for _, want := range [][]string{{"abcd"}, {"abcd", "efgh", "ijkl"}, {"abcd", "abc"}, {}, slices.Repeat([]string{"abcd"}, 6)} {
		room := append(slices.Clone(want), "room", "more")
		l := room[:len(want)]
		first, _ := impl.Xor(l)
		again, _ := impl.Xor(l)
		same(t, "once more", again, first)
		same(t, "texts", room, append(slices.Clone(want), "room", "more"))
	}
	// Bytes under a text are changed behind the call: an answer that shares them would change, too.
	for count := 1; count <= 5; count++ {
		under := []byte("abcd")
		l := slices.Repeat([]string{"\x00\x00\x00\x00"}, count)
		for i := range l {
			l[i] = unsafe.String(&under[0], len(under))
			got, _ := impl.Xor(l)
			want := strings.Clone(got)
			copy(under, "wxyz")
			same(t, "answer behind a change of the text", got, want)
			copy(under, "abcd")
			l[i] = "\x00\x00\x00\x00"
		}
	}
}
