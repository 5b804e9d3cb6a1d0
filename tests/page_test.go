package tests

import (
	"bytes"
	"encoding/binary"
	"math"
	"math/rand"
	"testing"

	"loop.example/tally/impl"
)

// rawPage is a block written field by field, without the program, with a right check whatever the fields are.
type rawPage struct {
	sign  byte
	gen   uint32
	count byte
	zero  byte
	rest  string
}

func (r rawPage) block() []byte {
	b := []byte{r.sign, 0}
	b = binary.LittleEndian.AppendUint32(b, r.gen)
	b = append(b, r.count, r.zero)
	b = append(b, r.rest...)
	b = append(b, make([]byte, 64-len(b))...)
	checked(b)
	return b
}

// checked gives a block the check that it ought to have.
func checked(b []byte) {
	sum := 0
	for i, v := range b {
		if i != 1 {
			sum += int(v)
		}
	}
	b[1] = byte(sum % 256)
}

func goodPages() []impl.Page {
	var all []impl.Page
	for _, gen := range []int{1, 2, 255, 256, 258, 65536, 0x01020304, 1 << 24, 999999999, 1000000000} {
		for _, text := range []string{"", "\x00", "\x01", "\xff", "rain", "L", everyByte(55), everyByte(56), string(make([]byte, 56)), string(filled(255)[:56]), string(filled(0)[:55]) + "\x01"} {
			all = append(all, impl.Page{Ok: true, Gen: gen, Bytes: []byte(text)})
		}
	}
	return all
}

func badPages() []impl.Page {
	return []impl.Page{
		{},
		{Gen: 1},
		{Gen: 1000000000, Bytes: []byte("rain")},
		{Ok: true},
		{Ok: true, Gen: 0, Bytes: []byte("rain")},
		{Ok: true, Gen: -1},
		{Ok: true, Gen: 1000000001},
		{Ok: true, Gen: 1000000001, Bytes: []byte("rain")},
		{Ok: true, Gen: 1<<32 + 1},
		{Ok: true, Gen: math.MinInt},
		{Ok: true, Gen: math.MaxInt},
		{Ok: true, Gen: 1, Bytes: make([]byte, 57)},
		{Ok: true, Gen: 1, Bytes: filled(1)},
		{Ok: true, Gen: 1, Bytes: make([]byte, 256)},
		{Ok: true, Gen: 1, Bytes: make([]byte, 300)},
		{Ok: true, Gen: 1, Bytes: make([]byte, 100000)},
		{Gen: 0, Bytes: make([]byte, 57)},
	}
}

func rawPageOf(p impl.Page) []byte {
	return rawPage{'L', uint32(p.Gen), byte(len(p.Bytes)), 0, string(p.Bytes)}.block()
}

func samePage(a, b impl.Page) bool {
	return a.Ok == b.Ok && a.Gen == b.Gen && bytes.Equal(a.Bytes, b.Bytes)
}

func TestPageBlockHasEachFieldAtItsPlace(t *testing.T) {
	b := impl.PageBlock(impl.Page{Ok: true, Gen: 0x01020304, Bytes: []byte{9, 8, 7}})
	// 76 + 4 + 3 + 2 + 1 + 3 + 9 + 8 + 7 = 113
	want := append([]byte("L\x71\x04\x03\x02\x01\x03\x00\x09\x08\x07"), make([]byte, 53)...)
	if !bytes.Equal(b, want) {
		t.Errorf("%x, not %x", b, want)
	}
}

func TestPageBlockAtTheEdges(t *testing.T) {
	for _, c := range []struct {
		page impl.Page
		want string
	}{
		{impl.Page{Ok: true, Gen: 1}, "L\x4d\x01\x00\x00\x00\x00\x00"},
		// 1000000000 is 0x3b9aca00; 76 + 0xca + 0x9a + 0x3b = 491, which is 0xeb past 256.
		{impl.Page{Ok: true, Gen: 1000000000}, "L\xeb\x00\xca\x9a\x3b\x00\x00"},
		// 76 + 1 + 1 + 178 is 256 itself, with one more and one less beside it.
		{impl.Page{Ok: true, Gen: 1, Bytes: []byte{177}}, "L\xff\x01\x00\x00\x00\x01\x00\xb1"},
		{impl.Page{Ok: true, Gen: 1, Bytes: []byte{178}}, "L\x00\x01\x00\x00\x00\x01\x00\xb2"},
		{impl.Page{Ok: true, Gen: 1, Bytes: []byte{179}}, "L\x01\x01\x00\x00\x00\x01\x00\xb3"},
		// 76 + 1 + 56 + 56 * 255 = 14413, which is 56 * 256 + 77.
		{impl.Page{Ok: true, Gen: 1, Bytes: filled(255)[:56]}, "L\x4d\x01\x00\x00\x00\x38\x00" + string(filled(255)[:56])},
		{impl.Page{Ok: true, Gen: 1, Bytes: make([]byte, 55)}, "L\x84\x01\x00\x00\x00\x37\x00"},
		{impl.Page{Ok: true, Gen: 1, Bytes: make([]byte, 56)}, "L\x85\x01\x00\x00\x00\x38\x00"},
	} {
		want := append([]byte(c.want), make([]byte, 64-len(c.want))...)
		if b := impl.PageBlock(c.page); !bytes.Equal(b, want) {
			t.Errorf("%#v: %x, not %x", c.page, b, want)
		}
		if p := impl.PageOf(want); !samePage(p, c.page) {
			t.Errorf("%x: %#v", want, p)
		}
	}
}

func TestPagesAreReadBack(t *testing.T) {
	for _, p := range goodPages() {
		b := impl.PageBlock(p)
		if !bytes.Equal(b, rawPageOf(p)) {
			t.Errorf("%#v: %x", p, b)
		}
		if got := impl.PageOf(rawPageOf(p)); !samePage(got, p) {
			t.Errorf("%#v is read back as %#v", p, got)
		}
	}
}

func TestPageBlockOfNoPageIsNothing(t *testing.T) {
	for i, p := range badPages() {
		if b := impl.PageBlock(p); len(b) != 0 {
			t.Errorf("page %d: %x", i, b)
		}
		if got := impl.PageOf(impl.PageBlock(p)); !samePage(got, impl.Page{}) {
			t.Errorf("page %d: %#v", i, got)
		}
	}
}

func TestPageOfAWrongSize(t *testing.T) {
	b := impl.PageBlock(impl.Page{Ok: true, Gen: 1, Bytes: []byte("rain")})
	for _, x := range [][]byte{nil, {}, {'L'}, b[:8], b[:12], b[:63], b[1:], append(bytes.Clone(b), 0), append([]byte{0}, b...), append(bytes.Clone(b), b...)} {
		if p := impl.PageOf(x); !samePage(p, impl.Page{}) {
			t.Errorf("%d bytes: %#v", len(x), p)
		}
	}
}

func TestPageWithOneByteChanged(t *testing.T) {
	for _, p := range goodPages() {
		b := impl.PageBlock(p)
		for place := range b {
			was := b[place]
			for v := range 256 {
				if b[place] = byte(v); byte(v) == was {
					continue
				}
				if got := impl.PageOf(b); !samePage(got, impl.Page{}) {
					t.Fatalf("%#v, byte %d is %d: %#v", p, place, v, got)
				}
			}
			b[place] = was
		}
		if got := impl.PageOf(b); !samePage(got, p) {
			t.Errorf("%#v is read back as %#v", p, got)
		}
	}
}

func TestPageWithARightCheckAlone(t *testing.T) {
	full := string(filled(3)[:56])
	var blocks []rawPage
	for _, gen := range []uint32{0, 1000000001, math.MaxInt32, math.MaxInt32 + 1, math.MaxUint32} {
		blocks = append(blocks, rawPage{'L', gen, 0, 0, ""}, rawPage{'L', gen, 4, 0, "rain"})
	}
	for count := 57; count < 256; count++ {
		blocks = append(blocks, rawPage{'L', 1, byte(count), 0, ""}, rawPage{'L', 1, byte(count), 0, full})
	}
	for v := 1; v < 256; v++ {
		blocks = append(blocks, rawPage{'L', 1, 0, byte(v), ""}, rawPage{'L', 1, 4, byte(v), "rain"}, rawPage{'L', 1, 56, byte(v), full})
	}
	for sign := range 256 {
		if sign != 'L' {
			blocks = append(blocks, rawPage{byte(sign), 1, 4, 0, "rain"})
		}
	}
	for count := range 56 {
		for place := count; place < 56; place++ {
			rest := []byte(full[:count] + string(make([]byte, 56-count)))
			rest[place] = 1
			blocks = append(blocks, rawPage{'L', 1, byte(count), 0, string(rest)})
		}
		blocks = append(blocks, rawPage{'L', 1, byte(count), 0, full})
	}
	for _, r := range blocks {
		if p := impl.PageOf(r.block()); !samePage(p, impl.Page{}) {
			t.Errorf("%#v: %#v", r, p)
		}
	}
	if p := impl.PageOf(make([]byte, 64)); !samePage(p, impl.Page{}) {
		t.Errorf("zeros: %#v", p)
	}
}

// The source is seeded: the blocks are the same at every run.
func TestPageOfAnyBlock(t *testing.T) {
	rnd := rand.New(rand.NewSource(3))
	pages := 0
	for range 50000 {
		b := make([]byte, 64)
		b[0] = 'L'
		rnd.Read(b[2:5])
		b[5] = byte(rnd.Intn(64))
		b[6] = byte(rnd.Intn(60))
		rnd.Read(b[8:min(64, 8+int(b[6]))])
		if rnd.Intn(4) == 0 {
			b[rnd.Intn(64)] = byte(rnd.Intn(256))
		}
		if rnd.Intn(6) > 0 {
			checked(b)
		}
		want := readPage(b)
		if want.Ok {
			pages++
		}
		if got := impl.PageOf(b); !samePage(got, want) {
			t.Fatalf("%x: %#v, not %#v", b, got, want)
		}
	}
	if pages < 10000 {
		t.Errorf("only %d pages among the blocks", pages)
	}
}

// readPage reads a block of 64 bytes without the program.
func readPage(b []byte) impl.Page {
	again := bytes.Clone(b)
	checked(again)
	gen, count := binary.LittleEndian.Uint32(b[2:]), int(b[6])
	if b[0] != 'L' || again[1] != b[1] || gen < 1 || gen > 1000000000 || count > 56 || b[7] != 0 || len(bytes.Trim(b[8+count:], "\x00")) > 0 {
		return impl.Page{}
	}
	return impl.Page{Ok: true, Gen: int(gen), Bytes: bytes.Clone(b[8 : 8+count])}
}

func TestPagesShareNoMemory(t *testing.T) {
	for _, p := range goodPages() {
		arg := impl.Page{Ok: true, Gen: p.Gen, Bytes: bytes.Clone(p.Bytes)}
		b := impl.PageBlock(arg)
		if !samePage(arg, p) {
			t.Fatalf("%#v became %#v", p, arg)
		}
		clear(arg.Bytes)
		if !bytes.Equal(b, rawPageOf(p)) {
			t.Fatalf("%#v: the block changed with the page", p)
		}
		first, second := impl.PageOf(b), impl.PageOf(b)
		if !bytes.Equal(b, rawPageOf(p)) {
			t.Fatalf("%#v: PageOf wrote into its argument", p)
		}
		clear(first.Bytes[:cap(first.Bytes)])
		if !bytes.Equal(b, rawPageOf(p)) || !samePage(second, p) {
			t.Fatalf("%#v: a page that was read shares memory", p)
		}
		clear(b)
		if !samePage(second, p) || !bytes.Equal(impl.PageBlock(p), rawPageOf(p)) {
			t.Fatalf("%#v: a page that was read changed with its block", p)
		}
	}
}

func TestPageFunctionsLeaveWrongArguments(t *testing.T) {
	for i, p := range badPages() {
		was := bytes.Clone(p.Bytes)
		if impl.PageBlock(p); !bytes.Equal(p.Bytes, was) {
			t.Errorf("page %d changed", i)
		}
	}
	for _, b := range [][]byte{filled(0), filled('L'), filled(255), filled(1)[:63], append(filled(1), 1)} {
		was := bytes.Clone(b)
		if impl.PageOf(b); !bytes.Equal(b, was) {
			t.Errorf("%x became %x", was, b)
		}
	}
}
