package tests

import (
	"bytes"
	"slices"

	"loop.example/tally/impl"
)

// The log once more, without the program and in another way: bytes are cut from one long text of all pages.

func rightDisk(d impl.Disk) bool {
	if len(d.Blocks) != 128 || len(d.Waiting) > 200 {
		return false
	}
	for _, w := range d.Waiting {
		if w.Block < 0 || w.Block > 127 || len(w.Bytes) != 64 {
			return false
		}
	}
	return !slices.ContainsFunc(d.Blocks, func(b []byte) bool { return len(b) != 64 })
}

func keepAll(int) bool { return true }

// modelRead is a log of these blocks without Safe.
func modelRead(blocks [][]byte) impl.Log {
	log := impl.Log{Ok: true}
	if head := readPage(blocks[0]); head.Ok && len(head.Bytes) == 0 {
		log.Gen = head.Gen
	}
	var text []byte
	for k := 1; k < 128; k++ {
		p := readPage(blocks[k])
		if log.Gen == 0 || !p.Ok || p.Gen > log.Gen || k > 1 && p.Gen < readPage(blocks[k-1]).Gen {
			break
		}
		text = append(text, p.Bytes...)
		if len(p.Bytes) != 56 {
			break
		}
	}
	for {
		x := readNote(text[log.Len:])
		if !x.Ok {
			return log
		}
		log.Notes = append(log.Notes, x.Note)
		log.Len += x.Len
	}
}

func modelScan(d impl.Disk) impl.Log {
	if !rightDisk(d) {
		return impl.Log{}
	}
	log, safe := modelRead(written(d, keepAll)), modelRead(d.Blocks)
	for log.Safe < len(log.Notes) && log.Safe < len(safe.Notes) && log.Notes[log.Safe] == safe.Notes[log.Safe] {
		log.Safe++
	}
	return log
}

// pageText is what page k of a text holds.
func pageText(text []byte, k int) []byte {
	if k*56 >= len(text) {
		return nil
	}
	return text[k*56 : min(len(text), k*56+56)]
}

func pageBlock(gen int, text []byte) []byte {
	return rawPageOf(impl.Page{Ok: true, Gen: gen, Bytes: text})
}

func textOf(notes ...impl.Note) []byte {
	var text []byte
	for _, n := range notes {
		text = append(text, rawOf(n).bytes()...)
	}
	return text
}

func modelOpen(d impl.Disk) impl.Opened {
	was := modelScan(d)
	if !was.Ok || was.Gen == 1000000000 {
		return impl.Opened{}
	}
	blocks := written(d, keepAll)
	blocks[0] = pageBlock(was.Gen+1, nil)
	if was.Gen == 0 {
		for k := 1; k < 128; k++ {
			blocks[k] = make([]byte, 64)
		}
	} else if k := was.Len / 56; k < 127 {
		blocks[k+1] = make([]byte, 64)
		if part := pageText(textOf(was.Notes...), k); len(part) > 0 {
			blocks[k+1] = pageBlock(was.Gen+1, part)
		}
	}
	after := impl.Disk{Blocks: blocks}
	return impl.Opened{Ok: true, Log: modelScan(after), Disk: after}
}

func rightOpened(o impl.Opened) bool {
	return o.Ok && rightDisk(o.Disk) && sameLog(o.Log, modelScan(o.Disk)) && o.Log.Gen > 0
}

func rightNote(n impl.Note) bool { return readNote(rawOf(n).bytes()).Note == n }

func modelAppend(o impl.Opened, n impl.Note) impl.Opened {
	if !rightOpened(o) || !rightNote(n) {
		return impl.Opened{}
	}
	text := append(textOf(o.Log.Notes...), rawOf(n).bytes()...)
	d := cloneDisk(o.Disk)
	for k := o.Log.Len / 56; len(pageText(text, k)) > 0; k++ {
		d.Waiting = append(d.Waiting, impl.Write{Block: k + 1, Bytes: pageBlock(o.Log.Gen, pageText(text, k))})
	}
	if len(text) > 7112 || len(d.Waiting) > 200 {
		return impl.Opened{}
	}
	return impl.Opened{Ok: true, Log: modelScan(d), Disk: d}
}

func modelCommit(o impl.Opened) impl.Opened {
	if !rightOpened(o) {
		return impl.Opened{}
	}
	d := impl.Disk{Blocks: written(o.Disk, keepAll)}
	return impl.Opened{Ok: true, Log: modelScan(d), Disk: d}
}

func modelRoom(o impl.Opened) int {
	if !rightOpened(o) {
		return -1
	}
	return 7112 - o.Log.Len
}

// sameLog takes an empty list and nil for the same.
func sameLog(a, b impl.Log) bool {
	return a.Ok == b.Ok && slices.Equal(a.Notes, b.Notes) && a.Len == b.Len && a.Gen == b.Gen && a.Safe == b.Safe
}

func sameOpened(a, b impl.Opened) bool {
	return a.Ok == b.Ok && sameLog(a.Log, b.Log) && sameDisk(a.Disk, b.Disk)
}

func cloneOpened(o impl.Opened) impl.Opened {
	c := impl.Opened{Ok: o.Ok, Log: o.Log, Disk: cloneDisk(o.Disk)}
	c.Log.Notes = slices.Clone(o.Log.Notes)
	return c
}

// logDisk is a disk whose first block says this generation, with these blocks behind it, and zeros behind those.
func logDisk(gen int, blocks ...[]byte) impl.Disk {
	d := impl.Disk{Blocks: [][]byte{pageBlock(gen, nil)}}
	for _, b := range blocks {
		d.Blocks = append(d.Blocks, bytes.Clone(b))
	}
	for len(d.Blocks) < 128 {
		d.Blocks = append(d.Blocks, make([]byte, 64))
	}
	return d
}

// pagesOf cuts a text into pages of one generation.
func pagesOf(gen int, text []byte) [][]byte {
	var blocks [][]byte
	for part := range slices.Chunk(text, 56) {
		blocks = append(blocks, pageBlock(gen, part))
	}
	return blocks
}

// openedOn is what is there when a disk is taken for one that was opened.
func openedOn(d impl.Disk) impl.Opened {
	return impl.Opened{Ok: true, Log: modelScan(d), Disk: d}
}

// noteOf is a note whose frame has this many bytes (17 to 217), and which no other mark has.
func noteOf(size, mark int) impl.Note {
	text := make([]byte, size-17)
	for i := range text {
		text[i] = byte(mark*31 + i)
	}
	return impl.Note{Tick: mark, Kind: mark % 101, Who: mark % 1001, N: int64(mark) * -7, Text: string(text)}
}

func notesOf(sizes ...int) []impl.Note {
	var notes []impl.Note
	for i, size := range sizes {
		notes = append(notes, noteOf(size, i+1))
	}
	return notes
}
