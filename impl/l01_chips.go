package impl

import (
	"iter"
	"slices"
)

const (
	PageSize  = 4
	PageCount = 4
	MaxBlocks = 12
	MaxWear   = 1000000000
	MaxSeq    = 1000000000
	MaxLog    = 40
	NdDone    = 0
	NdWrong   = 1
	NdForm    = 2
	NdFull    = 3
	NdWorn    = 4
)

const minBlocks = 4

type Page struct {
	Used bool
	Log  int64
	Seq  int64
	Data string
}

type Block struct {
	Wear  int64
	Pages []Page
}

type Chip struct {
	Blocks []Block
}

// blockCells and chipCells hold a chip in arrays: they are copied as values, so
// a change made in them never reaches the chip that was handed in.
type blockCells struct {
	wear  int64
	pages [PageCount]Page
}

type chipCells struct {
	count  int64
	blocks [MaxBlocks]blockCells
}

func ChipOk(c Chip) bool {
	_, ok := cellsOf(c)
	return ok
}

func ChipNew(blocks int64) (Chip, bool) {
	if !isBlockCount(blocks) {
		return Chip{}, false
	}
	s := chipCells{count: blocks}
	return s.chip(), true
}

func NextOf(c Chip, block int64) int64 {
	s, ok := cellsOf(c)
	if !ok || !s.has(block) {
		return -1
	}
	return s.blocks[block].next()
}

func Programmed(c Chip, block int64, p Page) (Chip, int64) {
	s, ok := cellsOf(c)
	if !ok {
		return Chip{}, NdWrong
	}
	s, code := s.programmed(block, p)
	return s.chip(), code
}

func Erased(c Chip, block int64) (Chip, int64) {
	s, ok := cellsOf(c)
	if !ok {
		return Chip{}, NdWrong
	}
	s, code := s.erased(block)
	return s.chip(), code
}

func FreeOf(c Chip) []int64 {
	s, ok := cellsOf(c)
	if !ok {
		return nil
	}
	return s.freeBlocks()
}

func within(n, low, high int64) bool {
	return low <= n && n <= high
}

func isBlockCount(blocks int64) bool {
	return within(blocks, minBlocks, MaxBlocks)
}

func isRightUsed(p Page) bool {
	return p.Used && within(p.Log, 0, MaxLog-1) && within(p.Seq, 1, MaxSeq) && len(p.Data) == PageSize
}

// cellsOf is false for every chip that is not right, so whoever has cells need
// not ask again.
func cellsOf(c Chip) (chipCells, bool) {
	count := int64(len(c.Blocks))
	if !isBlockCount(count) {
		return chipCells{}, false
	}
	s := chipCells{count: count}
	for b, block := range c.Blocks {
		if len(block.Pages) != PageCount {
			return chipCells{}, false
		}
		s.blocks[b].wear = block.Wear
		copy(s.blocks[b].pages[:], block.Pages)
		if !s.blocks[b].right() {
			return chipCells{}, false
		}
	}
	if !s.seqsDiffer() {
		return chipCells{}, false
	}
	return s, true
}

// chip makes a list of its own for each block: no two lists of an answer may
// share memory.
func (s chipCells) chip() Chip {
	blocks := make([]Block, s.count)
	for b := range blocks {
		pages := make([]Page, PageCount)
		copy(pages, s.blocks[b].pages[:])
		blocks[b] = Block{Wear: s.blocks[b].wear, Pages: pages}
	}
	return Chip{Blocks: blocks}
}

func (s chipCells) programmed(block int64, p Page) (chipCells, int64) {
	if !s.has(block) || !isRightUsed(p) || s.hasSeq(p.Seq) {
		return s, NdForm
	}
	next := s.blocks[block].next()
	if next < 0 {
		return s, NdFull
	}
	s.blocks[block].pages[next] = p
	return s, NdDone
}

func (s chipCells) erased(block int64) (chipCells, int64) {
	if !s.has(block) {
		return s, NdForm
	}
	wear := s.blocks[block].wear
	if wear == MaxWear {
		return s, NdWorn
	}
	s.blocks[block] = blockCells{wear: wear + 1}
	return s, NdDone
}

// usedPages goes through the pages that are Used, by their places.
func usedPages(s chipCells) iter.Seq2[int64, Page] {
	return func(yield func(int64, Page) bool) {
		for b := range s.count {
			for k, p := range s.blocks[b].pages {
				if p.Used && !yield(b*PageCount+int64(k), p) {
					return
				}
			}
		}
	}
}

func (s chipCells) has(block int64) bool {
	return within(block, 0, s.count-1)
}

func (s chipCells) freeBlocks() []int64 {
	var free []int64
	for b := range s.count {
		if s.blocks[b].free() {
			free = append(free, b)
		}
	}
	return free
}

func (s chipCells) seqsDiffer() bool {
	var seqs [MaxBlocks * PageCount]int64
	count := 0
	for _, p := range usedPages(s) {
		if slices.Contains(seqs[:count], p.Seq) {
			return false
		}
		seqs[count] = p.Seq
		count++
	}
	return true
}

func (s chipCells) hasSeq(seq int64) bool {
	for _, p := range usedPages(s) {
		if p.Seq == seq {
			return true
		}
	}
	return false
}

func (s chipCells) worn() bool {
	for b := range s.count {
		if s.blocks[b].wear == MaxWear {
			return true
		}
	}
	return false
}

func (b blockCells) right() bool {
	ended := false
	for _, p := range b.pages {
		if p.Used {
			if ended || !isRightUsed(p) {
				return false
			}
			continue
		}
		if p != (Page{}) {
			return false
		}
		ended = true
	}
	return within(b.wear, 0, MaxWear)
}

func (b blockCells) next() int64 {
	for k, p := range b.pages {
		if !p.Used {
			return int64(k)
		}
	}
	return -1
}

func (b blockCells) free() bool {
	return b.next() == 0
}

func (b blockCells) full() bool {
	return b.next() < 0
}

func (b blockCells) begun() bool {
	return b.next() > 0
}

// room is how many pages more can be programmed.
func (b blockCells) room() int64 {
	if b.full() {
		return 0
	}
	return PageCount - b.next()
}
