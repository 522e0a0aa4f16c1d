package tests

import (
	"math"
	"reflect"
	"slices"
	"testing"

	"loop.example/g00374/impl"
)

func used(log, seq int64, data string) impl.Page {
	return impl.Page{Used: true, Log: log, Seq: seq, Data: data}
}

// newChip is written without the program, so that a fault of ChipNew does not hide others.
func newChip(blocks int) impl.Chip {
	c := impl.Chip{Blocks: make([]impl.Block, blocks)}
	for b := range c.Blocks {
		c.Blocks[b].Pages = make([]impl.Page, impl.PageCount)
	}
	return c
}

// fillBlock gives the block pages of these logs, with Seqs from first on.
func fillBlock(c impl.Chip, block int, first int64, logs ...int64) {
	for k, log := range logs {
		seq := first + int64(k)
		c.Blocks[block].Pages[k] = used(log, seq, dataOf(seq))
	}
}

// dataOf differs for Seqs below 10000, so that a page tells which one it is.
func dataOf(seq int64) string {
	return string([]byte{byte('0' + seq/1000%10), byte('0' + seq/100%10), byte('0' + seq/10%10), byte('0' + seq%10)})
}

func copyChip(c impl.Chip) impl.Chip {
	d := impl.Chip{Blocks: slices.Clone(c.Blocks)}
	for b := range d.Blocks {
		d.Blocks[b].Pages = slices.Clone(d.Blocks[b].Pages)
	}
	return d
}

func copyMember(f impl.Ftl) impl.Ftl {
	f.Chip = copyChip(f.Chip)
	f.Map = slices.Clone(f.Map)
	return f
}

func same(t *testing.T, what string, got, want any) {
	t.Helper()
	if !reflect.DeepEqual(got, want) {
		t.Errorf("%s: got %v, want %v", what, got, want)
	}
}

// spare is what stands in the room behind an argument's lists; nobody may write there.
var spare = impl.Page{Used: true, Log: 7, Seq: 77777, Data: "room"}

// roomy is the same chip, each of its lists with a piece of room behind it.
func roomy(c impl.Chip) impl.Chip {
	blocks := make([]impl.Block, len(c.Blocks)+1)
	copy(blocks, c.Blocks)
	blocks[len(c.Blocks)] = impl.Block{Wear: 77, Pages: []impl.Page{spare}}
	for b := range c.Blocks {
		pages := make([]impl.Page, len(c.Blocks[b].Pages)+1)
		copy(pages, c.Blocks[b].Pages)
		pages[len(pages)-1] = spare
		blocks[b].Pages = pages[:len(pages)-1]
	}
	return impl.Chip{Blocks: blocks[:len(c.Blocks)]}
}

func roomUntouched(t *testing.T, c impl.Chip) {
	t.Helper()
	n := len(c.Blocks)
	same(t, "room behind the blocks", c.Blocks[:n+1][n], impl.Block{Wear: 77, Pages: []impl.Page{spare}})
	for b := range c.Blocks {
		pages := c.Blocks[b].Pages
		same(t, "room behind the pages", pages[:len(pages)+1][len(pages)], spare)
	}
}

// scribble writes over all that an answer holds, its spare room too: an argument that shares memory with it changes.
func scribble(c impl.Chip) {
	for b := range c.Blocks {
		pages := c.Blocks[b].Pages[:cap(c.Blocks[b].Pages)]
		for k := range pages {
			pages[k] = used(33, 333, "ink.")
		}
		c.Blocks[b].Wear = 333
	}
	blocks := c.Blocks[:cap(c.Blocks)]
	for b := range blocks {
		blocks[b] = impl.Block{Wear: 333}
	}
}

// ownLists asks that writing a block's pages, with the room behind them, changes no other block's.
func ownLists(t *testing.T, c impl.Chip) {
	t.Helper()
	for b := range c.Blocks {
		d := copyChip(c)
		pages := c.Blocks[b].Pages[:cap(c.Blocks[b].Pages)]
		for k := range pages {
			pages[k].Log++
		}
		for o := range c.Blocks {
			if o != b {
				same(t, "another block's pages", c.Blocks[o], d.Blocks[o])
			}
		}
		for k := range pages {
			pages[k].Log--
		}
	}
}

// outside are numbers that are none of 0 .. count - 1.
func outside(count int64) []int64 {
	return []int64{-1, count, count + 1, math.MinInt64, math.MaxInt64, -count, 1 << 32}
}

// dice is a row of numbers that look thrown and are always the same.
type dice uint64

func (d *dice) below(n int64) int64 {
	*d = *d*6364136223846793005 + 1442695040888963407
	return int64(uint64(*d)>>33) % n
}
