package memo

import (
	"bytes"
	"iter"
	"slices"

	"cabinetry/api"
)

const (
	maxBlocks = 4096
	minSize   = 16
	maxSize   = 256
	textHead  = 12 // bytes of an entry before its text
	kindFree  = 0
	kindText  = 1
)

// entry is what one or more blocks have.
type entry struct {
	blocks int
	free   bool
	text   string
}

// file is a memo file without its lock. Entries follow each other from block 1 on.
type file struct {
	size    int
	entries []entry
}

func isSize(size int) bool {
	return size >= minSize && size <= maxSize && size%minSize == 0
}

func needs(size, n int) int {
	return (textHead + n + size - 1) / size
}

func (f *file) copy() file {
	return file{size: f.size, entries: slices.Clone(f.entries)}
}

// all goes through the numbers of entries and their first blocks.
func (f *file) all() iter.Seq2[int, int] {
	return func(yield func(int, int) bool) {
		block := 1
		for i, e := range f.entries {
			if !yield(i, block) {
				return
			}
			block += e.blocks
		}
	}
}

// gaps goes through the free entries, likewise.
func (f *file) gaps() iter.Seq2[int, int] {
	return func(yield func(int, int) bool) {
		for i, block := range f.all() {
			if f.entries[i].free && !yield(i, block) {
				return
			}
		}
	}
}

// blocks is the number of all blocks.
func (f *file) blocks() int {
	n := 1
	for _, e := range f.entries {
		n += e.blocks
	}
	return n
}

// find returns the number of the text that begins at a block.
func (f *file) find(block int) (int, bool) {
	for i, at := range f.all() {
		if at == block && !f.entries[i].free {
			return i, true
		}
	}
	return 0, false
}

func (f *file) put(s string) (int, api.Errno) {
	made := entry{blocks: needs(f.size, len(s)), text: s}
	for i, block := range f.gaps() {
		rest := f.entries[i].blocks - made.blocks
		if rest < 0 {
			continue
		}
		f.entries[i] = made
		if rest > 0 {
			f.entries = slices.Insert(f.entries, i+1, entry{blocks: rest, free: true})
		}
		return block, api.OK
	}
	block := f.blocks()
	if block+made.blocks > maxBlocks {
		return 0, api.ErrLarge
	}
	f.entries = append(f.entries, made)
	return block, api.OK
}

// release makes an entry free, joins it with free ones beside it, and cuts off what is free at the end.
func (f *file) release(i int) {
	f.entries[i] = entry{blocks: f.entries[i].blocks, free: true}
	if i+1 < len(f.entries) && f.entries[i+1].free {
		f.join(i)
	}
	if i > 0 && f.entries[i-1].free {
		f.join(i - 1)
	}
	if last := len(f.entries) - 1; f.entries[last].free {
		f.entries = f.entries[:last]
	}
}

// join makes one entry of a free one and the one behind it.
func (f *file) join(i int) {
	f.entries[i].blocks += f.entries[i+1].blocks
	f.entries = slices.Delete(f.entries, i+1, i+2)
}

func (f *file) bytes() []byte {
	out := make([]byte, f.blocks()*f.size)
	putLow(out, f.blocks(), 4)
	putLow(out[4:], f.size, 2)
	for i, block := range f.all() {
		e, b := f.entries[i], out[block*f.size:]
		putLow(b[4:], e.blocks, 4)
		if e.free {
			continue
		}
		putLow(b, kindText, 4)
		putLow(b[8:], len(e.text), 4)
		copy(b[textHead:], e.text)
	}
	return out
}

func putLow(b []byte, n, size int) {
	for i := range size {
		b[i] = byte(n >> (8 * i))
	}
}

func low(b []byte) int {
	n := 0
	for i, c := range b {
		n += int(c) << (8 * i)
	}
	return n
}

// parse returns the file with these bytes.
func parse(b []byte) (file, bool) {
	if len(b) < minSize {
		return file{}, false
	}
	f := file{size: low(b[4:6])}
	blocks := low(b[:4])
	if !isSize(f.size) || blocks < 1 || blocks > maxBlocks || len(b) != blocks*f.size {
		return file{}, false
	}
	for at := 1; at < blocks; {
		e, ok := f.parseEntry(b[at*f.size:])
		if !ok {
			return file{}, false
		}
		f.entries = append(f.entries, e)
		at += e.blocks
	}
	// Whatever else must be 0 shows here.
	return f, f.isTidy() && bytes.Equal(f.bytes(), b)
}

func (f *file) parseEntry(b []byte) (entry, bool) {
	e := entry{blocks: low(b[4:8])}
	if e.blocks < 1 || e.blocks*f.size > len(b) {
		return entry{}, false
	}
	switch low(b[:4]) {
	case kindFree:
		e.free = true
		return e, true
	case kindText:
		n := low(b[8:textHead])
		if n > api.MaxText || needs(f.size, n) != e.blocks {
			return entry{}, false
		}
		e.text = string(b[textHead : textHead+n])
		return e, true
	}
	return entry{}, false
}

// isTidy tells whether no free entries are next to each other, and the last one is not free.
func (f *file) isTidy() bool {
	for i := range f.gaps() {
		if i+1 == len(f.entries) || f.entries[i+1].free {
			return false
		}
	}
	return true
}
