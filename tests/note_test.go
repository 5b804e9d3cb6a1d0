package tests

import (
	"bytes"
	"encoding/binary"
	"math"
	"math/rand"
	"strings"
	"testing"

	"loop.example/tally/impl"
)

// raw is a frame written field by field, without the program, so that fields past their limits can stand in it too.
type raw struct {
	sign byte
	size int
	tick uint32
	kind byte
	who  uint16
	n    int64
	text string
}

func (r raw) bytes() []byte {
	b := []byte{r.sign, byte(r.size)}
	b = binary.LittleEndian.AppendUint32(b, r.tick)
	b = append(b, r.kind)
	b = binary.LittleEndian.AppendUint16(b, r.who)
	b = binary.LittleEndian.AppendUint64(b, uint64(r.n))
	return append(b, r.text...)
}

func rawOf(n impl.Note) raw {
	return raw{sign: 'N', size: len(n.Text), tick: uint32(n.Tick), kind: byte(n.Kind), who: uint16(n.Who), n: n.N, text: n.Text}
}

// everyByte is a text of all bytes from 255 down, as many as are wanted: zeros, frame signs and broken runes among them.
func everyByte(size int) string {
	b := make([]byte, size)
	for i := range b {
		b[i] = byte(255 - i)
	}
	return string(b)
}

func plainNote() impl.Note {
	return impl.Note{Tick: 0x01020304, Kind: 5, Who: 0x0206, N: 0x1112131415161718, Text: "rain"}
}

func goodNotes() []impl.Note {
	return []impl.Note{
		{},
		plainNote(),
		{Tick: impl.MaxTick},
		{Kind: impl.MaxKind},
		{Who: impl.MaxWho},
		{N: math.MinInt64},
		{N: math.MaxInt64},
		{N: -1},
		{Text: "N"},
		{Text: "\x00"},
		{Text: "\xff\xfe\x80"},
		{Text: "\u00e4\u20ac"},
		{Text: strings.Repeat("x", 199)},
		{Text: strings.Repeat("x", 200)},
		{Text: strings.Repeat("\x00", 200)},
		{Text: everyByte(200)},
		{Tick: impl.MaxTick, Kind: impl.MaxKind, Who: impl.MaxWho, N: math.MinInt64, Text: strings.Repeat("\xff", impl.MaxText)},
	}
}

func badNotes() []impl.Note {
	return []impl.Note{
		{Tick: -1},
		{Tick: impl.MaxTick + 1},
		{Tick: 1 << 32},
		{Tick: math.MinInt},
		{Tick: math.MaxInt},
		{Kind: -1},
		{Kind: impl.MaxKind + 1},
		{Kind: 256},
		{Kind: math.MinInt},
		{Kind: math.MaxInt},
		{Who: -1},
		{Who: impl.MaxWho + 1},
		{Who: 65536},
		{Who: math.MinInt},
		{Who: math.MaxInt},
		{Text: strings.Repeat("x", 201)},
		{Text: strings.Repeat("\x00", 201)},
		{Text: everyByte(201)},
		{Text: strings.Repeat("\u00e4", 101)},
		{Text: strings.Repeat("x", 256)},
		{Text: strings.Repeat("x", 100000)},
	}
}

func TestLimitsAreThoseOfTheDocument(t *testing.T) {
	if impl.MaxTick != 1000000000 || impl.MaxKind != 100 || impl.MaxWho != 1000 || impl.MaxText != 200 {
		t.Error(impl.MaxTick, impl.MaxKind, impl.MaxWho, impl.MaxText)
	}
}

func TestNoteOk(t *testing.T) {
	for i, n := range goodNotes() {
		if !impl.NoteOk(n) {
			t.Errorf("good note %d is refused", i)
		}
	}
	for i, n := range badNotes() {
		if impl.NoteOk(n) {
			t.Errorf("bad note %d is accepted", i)
		}
	}
}

func TestFrameHasEachFieldAtItsPlace(t *testing.T) {
	f := impl.Frame(plainNote())
	fields := []struct {
		name     string
		from, to int
		want     string
	}{
		{"sign", 0, 1, "N"},
		{"size", 1, 2, "\x04"},
		{"tick", 2, 6, "\x04\x03\x02\x01"},
		{"kind", 6, 7, "\x05"},
		{"who", 7, 9, "\x06\x02"},
		{"n", 9, 17, "\x18\x17\x16\x15\x14\x13\x12\x11"},
		{"text", 17, 21, "rain"},
	}
	if len(f) != 21 {
		t.Fatalf("%d bytes: %x", len(f), f)
	}
	for _, x := range fields {
		if got := string(f[x.from:x.to]); got != x.want {
			t.Errorf("%s: %x, not %x", x.name, got, x.want)
		}
	}
}

func TestFrameOfGoodNotes(t *testing.T) {
	for i, n := range goodNotes() {
		if got, want := impl.Frame(n), rawOf(n).bytes(); !bytes.Equal(got, want) {
			t.Errorf("note %d: %x, not %x", i, got, want)
		}
	}
}

func TestFrameOfBadNotesIsNothing(t *testing.T) {
	for i, n := range badNotes() {
		if f := impl.Frame(n); len(f) != 0 {
			t.Errorf("note %d: %x", i, f)
		}
	}
}

func TestReadFrameOfGoodNotes(t *testing.T) {
	for i, n := range goodNotes() {
		want := impl.Framed{Ok: true, Note: n, Len: 17 + len(n.Text)}
		if got := impl.ReadFrame(rawOf(n).bytes()); got != want {
			t.Errorf("note %d: %#v", i, got)
		}
	}
}

func TestBytesBehindAFrameAreLeftAlone(t *testing.T) {
	for i, n := range goodNotes() {
		want := impl.Framed{Ok: true, Note: n, Len: 17 + len(n.Text)}
		for _, behind := range []string{"\x00", "N", "x", "\xff\xff", strings.Repeat("N", 300), string(impl.Frame(plainNote()))} {
			if got := impl.ReadFrame(append(rawOf(n).bytes(), behind...)); got != want {
				t.Errorf("note %d, behind it %.20q: %#v", i, behind, got)
			}
		}
	}
}

func TestFramesOneAfterTheOther(t *testing.T) {
	var all []byte
	for _, n := range goodNotes() {
		all = append(all, impl.Frame(n)...)
	}
	at := 0
	for i, n := range goodNotes() {
		x := impl.ReadFrame(all[at:])
		if !x.Ok || x.Note != n {
			t.Fatalf("note %d: %#v", i, x)
		}
		at += x.Len
	}
	if at != len(all) {
		t.Errorf("%d of %d bytes", at, len(all))
	}
	if x := impl.ReadFrame(all[at:]); x != (impl.Framed{}) {
		t.Errorf("behind the last one: %#v", x)
	}
}

func TestReadFrameThatIsCutOff(t *testing.T) {
	for i, n := range goodNotes() {
		f := impl.Frame(n)
		for size := range f {
			if x := impl.ReadFrame(f[:size]); x != (impl.Framed{}) {
				t.Errorf("note %d, %d of %d bytes: %#v", i, size, len(f), x)
			}
		}
	}
}

// What lies behind a list's end, but within its capacity, is none of its bytes.
func TestReadFrameKeepsToTheLength(t *testing.T) {
	f := impl.Frame(plainNote())
	if x := impl.ReadFrame(f[: len(f)-1 : len(f)]); x != (impl.Framed{}) {
		t.Errorf("%#v", x)
	}
}

func TestReadFrameOfNoBytes(t *testing.T) {
	for _, b := range [][]byte{nil, {}} {
		if x := impl.ReadFrame(b); x != (impl.Framed{}) {
			t.Errorf("%#v", x)
		}
	}
}

func TestReadFrameWithAnotherSign(t *testing.T) {
	f := impl.Frame(plainNote())
	for sign := range 256 {
		if sign == 'N' {
			continue
		}
		f[0] = byte(sign)
		if x := impl.ReadFrame(f); x != (impl.Framed{}) {
			t.Errorf("sign %d: %#v", sign, x)
		}
	}
	if x := impl.ReadFrame(append([]byte{0}, impl.Frame(plainNote())...)); x != (impl.Framed{}) {
		t.Errorf("a frame that is not at the beginning: %#v", x)
	}
}

func TestReadFrameWithFieldsAtTheirLimits(t *testing.T) {
	for i, r := range []raw{
		{sign: 'N', tick: 1000000000},
		{sign: 'N', kind: 100},
		{sign: 'N', who: 1000},
		{sign: 'N', size: 200, text: strings.Repeat("x", 200)},
	} {
		want := impl.Note{Tick: int(r.tick), Kind: int(r.kind), Who: int(r.who), Text: r.text}
		if x := impl.ReadFrame(r.bytes()); !x.Ok || x.Note != want {
			t.Errorf("case %d: %#v", i, x)
		}
	}
}

func TestReadFrameWithFieldsPastTheirLimits(t *testing.T) {
	long := strings.Repeat("x", 300)
	for i, r := range []raw{
		{sign: 'N', tick: 1000000001},
		{sign: 'N', tick: math.MaxInt32},
		{sign: 'N', tick: math.MaxInt32 + 1},
		{sign: 'N', tick: math.MaxUint32},
		{sign: 'N', kind: 101},
		{sign: 'N', kind: 128},
		{sign: 'N', kind: 255},
		{sign: 'N', who: 1001},
		{sign: 'N', who: 32768},
		{sign: 'N', who: 65535},
		{sign: 'N', size: 201, text: long[:201]},
		{sign: 'N', size: 201, text: long},
		{sign: 'N', size: 255, text: long},
		{sign: 'N', size: 255, text: long[:255]},
		{sign: 'N', size: 255},
		{sign: 'N', size: 1, tick: 1000000001, n: 7, text: "x"},
	} {
		if x := impl.ReadFrame(r.bytes()); x != (impl.Framed{}) {
			t.Errorf("case %d: %#v", i, x)
		}
	}
}

// Each byte of a frame's head, at each of its values, is held against what the fields then say.
func TestReadFrameAtEveryByteOfTheHead(t *testing.T) {
	for place := range 17 {
		for v := range 256 {
			b := append(impl.Frame(plainNote()), strings.Repeat("y", 200)...)
			b[place] = byte(v)
			checkRead(t, b)
		}
	}
}

// The source is seeded: the bytes are the same at every run.
func TestReadFrameOfAnyBytes(t *testing.T) {
	rnd := rand.New(rand.NewSource(1))
	for range 20000 {
		b := make([]byte, rnd.Intn(300))
		rnd.Read(b)
		if len(b) > 17 && rnd.Intn(8) > 0 {
			b[0] = 'N'
			b[5] %= 64
			b[6] %= 110
			b[8] %= 5
		}
		checkRead(t, b)
	}
}

// readNote reads the fields of a frame without the program.
func readNote(b []byte) impl.Framed {
	if len(b) < 17 || len(b) < 17+int(b[1]) || b[0] != 'N' {
		return impl.Framed{}
	}
	tick, who := binary.LittleEndian.Uint32(b[2:]), binary.LittleEndian.Uint16(b[7:])
	if tick > 1000000000 || b[6] > 100 || who > 1000 || b[1] > 200 {
		return impl.Framed{}
	}
	size := 17 + int(b[1])
	n := impl.Note{Tick: int(tick), Kind: int(b[6]), Who: int(who), N: int64(binary.LittleEndian.Uint64(b[9:])), Text: string(b[17:size])}
	return impl.Framed{Ok: true, Note: n, Len: size}
}

func checkRead(t *testing.T, b []byte) {
	t.Helper()
	got := impl.ReadFrame(b)
	if want := readNote(b); got != want {
		t.Fatalf("%x: %#v, not %#v", b, got, want)
	}
	if got.Ok && !bytes.Equal(impl.Frame(got.Note), b[:got.Len]) {
		t.Fatalf("%x is not the frame of %#v", b, got.Note)
	}
}

func TestReadFrameLeavesItsArgument(t *testing.T) {
	for i, b := range [][]byte{
		append(impl.Frame(plainNote()), 1, 2, 3),
		impl.Frame(plainNote())[:20],
		impl.Frame(impl.Note{Text: everyByte(200)}),
		[]byte("M and something"),
		{'N'},
	} {
		was := bytes.Clone(b)
		first := impl.ReadFrame(b)
		if !bytes.Equal(b, was) {
			t.Errorf("case %d: %x became %x", i, was, b)
		}
		if again := impl.ReadFrame(b); again != first {
			t.Errorf("case %d: %#v, then %#v", i, first, again)
		}
	}
}

func TestAnswersAreNewMemory(t *testing.T) {
	b := impl.Frame(plainNote())
	x := impl.ReadFrame(b)
	other := impl.Frame(plainNote())
	clear(b)
	if x.Note != plainNote() {
		t.Errorf("a note that was read changed with the bytes: %#v", x.Note)
	}
	if !bytes.Equal(other, rawOf(plainNote()).bytes()) || !bytes.Equal(impl.Frame(plainNote()), other) {
		t.Error("two frames share memory")
	}
}
