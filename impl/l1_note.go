package impl

const (
	MaxTick = 1000000000
	MaxWho  = 1000
	MaxText = 200
	MaxKind = 100
)

// A frame begins with its sign, then come the fields of these many bytes each, then the text.
const (
	frameSign byte = 'N'
	signBytes      = 1
	sizeBytes      = 1
	tickBytes      = 4
	kindBytes      = 1
	whoBytes       = 2
	nBytes         = 8
	headBytes      = signBytes + sizeBytes + tickBytes + kindBytes + whoBytes + nBytes
)

// Note is one thing that happened: when, of which kind, whose, a number and a text.
type Note struct {
	Tick int
	Kind int
	Who  int
	N    int64
	Text string
}

// NoteOk tells whether each field of a note is within its limits.
func NoteOk(n Note) bool {
	return upTo(n.Tick, MaxTick) && upTo(n.Kind, MaxKind) && upTo(n.Who, MaxWho) && len(n.Text) <= MaxText
}

func upTo(v, most int) bool { return v >= 0 && v <= most }

// cursor is a place in some bytes, for what writes there as for what reads there.
type cursor struct {
	bytes []byte
	at    int
}

// next moves on by one byte and tells the place of that byte; at the end it stays and is not ok.
func (c *cursor) next() (place int, ok bool) {
	if c.at >= len(c.bytes) {
		return 0, false
	}
	c.at++
	return c.at - 1, true
}

// writer fills bytes whose number is known ahead.
type writer struct {
	cursor
}

func (w *writer) put(b byte) {
	if i, ok := w.next(); ok {
		w.bytes[i] = b
	}
}

func (w *writer) putText(s string) {
	for i := range len(s) {
		w.put(s[i])
	}
}

// reader remembers that it came short, so that a whole frame can be read ahead of one single question.
type reader struct {
	cursor
	short bool
}

func (r *reader) take() byte {
	i, ok := r.next()
	if !ok {
		r.short = true
		return 0
	}
	return r.bytes[i]
}

func (r *reader) takeText(size int) string {
	text := make([]byte, size)
	for i := range text {
		text[i] = r.take()
	}
	return string(text)
}

// number is what the fields of a frame are made of.
type number interface {
	int | int64
}

func putNumber[T number](put func(byte), v T, size int) {
	rest := uint64(v)
	for range size {
		put(byte(rest))
		rest >>= 8
	}
}

func takeNumber[T number](take func() byte, size int) T {
	var v uint64
	for i := range size {
		v |= uint64(take()) << (8 * i)
	}
	return T(v)
}

// Frame is a note as bytes; nothing for a note that is none.
func Frame(n Note) []byte {
	if !NoteOk(n) {
		return nil
	}
	w := writer{cursor{bytes: make([]byte, headBytes+len(n.Text))}}
	put := w.put
	put(frameSign)
	putNumber(put, len(n.Text), sizeBytes)
	putNumber(put, n.Tick, tickBytes)
	putNumber(put, n.Kind, kindBytes)
	putNumber(put, n.Who, whoBytes)
	putNumber(put, n.N, nBytes)
	w.putText(n.Text)
	return w.bytes
}

// Framed is the note of a frame, and how many bytes it has.
type Framed struct {
	Ok   bool
	Note Note
	Len  int
}

// ReadFrame is the note whose frame these bytes begin with; the zero value when there is none.
func ReadFrame(b []byte) Framed {
	r := reader{cursor: cursor{bytes: b}}
	take := r.take
	if take() != frameSign {
		return Framed{}
	}
	size := takeNumber[int](take, sizeBytes)
	var n Note
	n.Tick = takeNumber[int](take, tickBytes)
	n.Kind = takeNumber[int](take, kindBytes)
	n.Who = takeNumber[int](take, whoBytes)
	n.N = takeNumber[int64](take, nBytes)
	n.Text = r.takeText(size)
	if r.short || !NoteOk(n) {
		return Framed{}
	}
	return Framed{Ok: true, Note: n, Len: r.at}
}
