package wire

import (
	"math"
	"slices"
	"strconv"
	"testing"

	"mizzen/api"
)

// encoded is a frame's bytes.
func encoded(t *testing.T, f api.Frame) []byte {
	t.Helper()
	b, e := Encode(f)
	if e != api.OK {
		t.Fatalf("Encode of %v: got %v", f, e)
	}
	return b
}

// told is a number as so many bytes, by what 256 leaves of it.
func told(number uint64, size int) []byte {
	var b []byte
	for range size {
		b = append([]byte{byte(number % 256)}, b...)
		number /= 256
	}
	return b
}

// summed writes the sum of 26 bytes at its place.
func summed(b []byte) []byte {
	total := 0
	for i := range 26 {
		total += int(b[i])
	}
	b[3] = byte((total - int(b[3])) % 256)
	return b
}

// slowly is the bytes of a frame, whether it may be or not, as the chapter's sentence has them one after the other.
func slowly(f api.Frame) []byte {
	return summed(slices.Concat(told(uint64(f.Kind), 1), told(uint64(f.Src*16+f.Dst), 1), told(uint64(f.Prio), 1), []byte{0},
		told(f.Msg, 8), told(uint64(f.Off), 4), told(uint64(f.Total), 4), told(uint64(f.Len), 2), told(uint64(f.Num), 4), f.Data))
}

// refused holds that no frame's bytes are these.
func refused(t *testing.T, what string, b []byte) {
	t.Helper()
	f, e := Decode(b)
	equal(t, what+": Decode", e, api.ErrBad)
	frames(t, what+": beside an error", f, api.Frame{})
	h, ok := Trim(b)
	equal(t, what+": Trim", ok, false)
	bytesOf(t, what+": beside a false", h, nil)
}

// reads holds that Decode reads these bytes, and that they are written again as they were.
func reads(t *testing.T, what string, b []byte, want api.Frame) {
	t.Helper()
	f, e := Decode(b)
	equal(t, what+": Decode", e, api.OK)
	frames(t, what, f, want)
	equal(t, what+": Same", Same(f, want), true)
	bytesOf(t, what+": Encode again", encoded(t, f), b)
}

// some is a frame that may be, with fields drawn, often at their ends.
func some(d *draws) api.Frame {
	number := func(most int) int {
		return []int{0, most, d.below(most + 1), d.below(min(most, 9) + 1)}[d.below(4)]
	}
	f := api.Frame{Kind: 1 + d.below(12), Src: number(7), Dst: number(7), Prio: number(7), Len: number(1500), Num: number(1 << 30)}
	f.Msg = uint64(number(1<<30))<<30 | uint64(d.below(1<<30))
	if d.below(8) == 0 {
		f.Msg = 1 << 60
	}
	f.Msg = min(f.Msg, 1<<60)
	f.Off, f.Total = number(1<<30), number(1<<30)
	if f.Off+f.Len > f.Total && (f.Kind == api.FData || f.Kind == api.FHeader) {
		f.Off = d.below(1<<30 - 1500)
		f.Total = f.Off + f.Len
	}
	if f.Kind == api.FData {
		for range f.Len {
			f.Data = append(f.Data, byte(d.below(256)))
		}
	}
	return f
}

// TestP102Encode: the bytes of one frame, written out.
func TestP102Encode(t *testing.T) {
	f := api.Frame{Kind: api.FData, Src: 7, Dst: 4, Prio: 6, Msg: 0x0fedcba987654321, Off: 0x01020304, Len: 2, Total: 0x3a2b1c0d, Num: 0x2f3e4d5c, Data: []byte{0xff, 0x80}}
	want := []byte{1, 0x74, 6, 0,
		0x0f, 0xed, 0xcb, 0xa9, 0x87, 0x65, 0x43, 0x21,
		1, 2, 3, 4, 0x3a, 0x2b, 0x1c, 0x0d, 0, 2, 0x2f, 0x3e, 0x4d, 0x5c, 0xff, 0x80}
	bytesOf(t, "Encode", encoded(t, f), summed(want))
	equal(t, "the sum", encoded(t, f)[3], byte((1+0x74+6+960+10+142+2+278)%256))
	bytesOf(t, "Encode of nothing but a Kind", encoded(t, api.Frame{Kind: api.FAck}), append([]byte{5, 0, 0, 5}, make([]byte, 22)...))
	equal(t, "an FAck frame", len(encoded(t, frame(api.FAck))), 26)
	kinds(func(kind int) {
		bytesOf(t, "Encode", encoded(t, frame(kind)), slowly(frame(kind)))
	})
	f = api.Frame{Kind: api.FStop, Src: 7, Dst: 7, Prio: 7, Msg: 1 << 60, Off: 1 << 30, Len: 1500, Total: 1 << 30, Num: 1 << 30}
	bytesOf(t, "Encode of the greatest", encoded(t, f), summed([]byte{12, 0x77, 7, 0, 0x10, 0, 0, 0, 0, 0, 0, 0, 0x40, 0, 0, 0, 0x40, 0, 0, 0, 5, 0xdc, 0x40, 0, 0, 0}))
}

// TestP102Drawn: frames of all kinds, against the slow way.
func TestP102Drawn(t *testing.T) {
	d := draws(10)
	for i := range 20000 {
		f := some(&d)
		b := encoded(t, f)
		bytesOf(t, "Encode", b, slowly(f))
		reads(t, "drawn", b, f)
		if t.Failed() {
			t.Fatalf("frame %d: %v", i, f)
		}
	}
}

// TestP102EachByte: with any one byte of a head changed, bytes are none's; with one of its data changed, another's.
func TestP102EachByte(t *testing.T) {
	kinds(func(kind int) {
		b := encoded(t, frame(kind))
		for i := range b {
			for change := 1; change < 256; change += 1 + i/26*50 {
				c := slices.Clone(b)
				c[i] += byte(change)
				if i < 26 {
					refused(t, "a byte changed", c)
					continue
				}
				f := frame(kind)
				f.Data[i-26] += byte(change)
				reads(t, "a byte of data changed", c, f)
			}
		}
	})
}

// TestP102Sum: two bytes changed so that the sum stays; the bytes are a frame's where its fields may be, and nowhere else.
func TestP102Sum(t *testing.T) {
	kinds(func(kind int) {
		b := encoded(t, frame(kind))
		for i := range 26 {
			for change := range 256 {
				c := slices.Clone(b)
				c[i] += byte(change)
				f := plainly(summed(c))
				if Check(f) == api.OK {
					reads(t, "with the sum right", c, f)
				} else {
					refused(t, "with the sum right", c)
				}
			}
		}
	})
}

// plainly is what stands in 26 bytes and more, whether it may be or not.
func plainly(b []byte) api.Frame {
	number := func(from, to int) uint64 {
		n := uint64(0)
		for _, c := range b[from:to] {
			n = n*256 + uint64(c)
		}
		return n
	}
	return api.Frame{Kind: int(b[0]), Src: int(b[1] / 16), Dst: int(b[1] % 16), Prio: int(b[2]), Msg: number(4, 12),
		Off: int(number(12, 16)), Total: int(number(16, 20)), Len: int(number(20, 22)), Num: int(number(22, 26)), Data: b[26:]}
}

// TestP102Bad: fields that may not be, with the sum right.
func TestP102Bad(t *testing.T) {
	for _, x := range []struct {
		what string
		f    api.Frame
	}{
		{"Kind 0", api.Frame{}},
		{"Kind 13", api.Frame{Kind: 13}},
		{"Kind 255", api.Frame{Kind: 255}},
		{"Src 8", api.Frame{Kind: 5, Src: 8}},
		{"Src 15", api.Frame{Kind: 5, Src: 15}},
		{"Dst 8", api.Frame{Kind: 5, Dst: 8}},
		{"Dst 15", api.Frame{Kind: 5, Dst: 15}},
		{"Prio 8", api.Frame{Kind: 5, Prio: 8}},
		{"Prio 255", api.Frame{Kind: 5, Prio: 255}},
		{"Msg", api.Frame{Kind: 5, Msg: 1<<60 + 1}},
		{"Msg", api.Frame{Kind: 5, Msg: 1<<63 + 5}},
		{"Msg", api.Frame{Kind: 5, Msg: math.MaxUint64}},
		{"Off", api.Frame{Kind: 5, Off: 1<<30 + 1}},
		{"Off", api.Frame{Kind: 5, Off: 1<<31 + 1}},
		{"Off", api.Frame{Kind: 5, Off: 1<<32 - 1}},
		{"Total", api.Frame{Kind: 5, Total: 1<<30 + 1}},
		{"Total", api.Frame{Kind: 5, Total: 1<<32 - 1}},
		{"Len", api.Frame{Kind: 5, Len: 1501}},
		{"Len", api.Frame{Kind: 5, Len: 65535}},
		{"Len with data", api.Frame{Kind: 1, Len: 1501, Total: 9999, Data: data(1501)}},
		{"Num", api.Frame{Kind: 5, Num: 1<<30 + 1}},
		{"Num", api.Frame{Kind: 5, Num: 1<<32 - 1}},
		{"Off and Len", api.Frame{Kind: 1, Off: 8, Len: 3, Total: 10, Data: data(3)}},
		{"Off and Len of a header", api.Frame{Kind: 7, Off: 8, Len: 3, Total: 10}},
		{"Off alone", api.Frame{Kind: 7, Off: 11, Total: 10}},
		{"data that is none's", api.Frame{Kind: 7, Off: 8, Len: 2, Total: 10, Data: data(2)}},
		{"data that is none's", api.Frame{Kind: 5, Len: 2, Data: data(2)}},
		{"data too short", api.Frame{Kind: 1, Len: 3, Total: 10, Data: data(2)}},
		{"no data", api.Frame{Kind: 1, Len: 3, Total: 10}},
		{"data too long", api.Frame{Kind: 1, Len: 3, Total: 10, Data: data(4)}},
		{"data by its length mod 65536", api.Frame{Kind: 1, Len: 3, Total: 10, Data: data(65539)}},
	} {
		refused(t, x.what, slowly(x.f))
	}
}

// TestP102Noise: bytes of all lengths, of which few are a frame's; what is read, is written the same.
func TestP102Noise(t *testing.T) {
	refused(t, "nil", nil)
	refused(t, "none", []byte{})
	d := draws(3)
	read, pieces := 0, 0
	for range 50000 {
		b := make([]byte, 26+d.below(3)*d.below(6))
		for i := range b {
			b[i] = byte(d.below(256))
		}
		// Most of what stands in a head must be small, or else hardly any is a frame's.
		for _, i := range []int{0, 1, 2, 4, 12, 16, 20, 22} {
			b[i] = byte(d.below(14))
		}
		if d.below(4) == 0 {
			b[0] = api.FData
		}
		if d.below(2) == 0 {
			b[20], b[21] = 0, byte(len(b)-26)
		}
		summed(b)
		if f := plainly(b); Check(f) == api.OK {
			read++
			if f.Kind == api.FData {
				pieces++
			}
			reads(t, "noise", b, f)
		} else {
			refused(t, "noise", b)
		}
		b[3]++
		refused(t, "noise with a wrong sum", b)
	}
	if read < 2000 || pieces < 200 {
		t.Errorf("only %d are a frame's, and %d have data", read, pieces)
	}
}

// TestP103Trim: all fields but Kind and Prio stay; what is no FData frame has nothing to trim.
func TestP103Trim(t *testing.T) {
	d := draws(77)
	for range 5000 {
		f := some(&d)
		b := encoded(t, f)
		h, ok := Trim(b)
		equal(t, "Trim of kind "+strconv.Itoa(f.Kind), ok, f.Kind == api.FData)
		if f.Kind != api.FData {
			bytesOf(t, "beside a false", h, nil)
			continue
		}
		f.Kind, f.Prio, f.Data = api.FHeader, 0, nil
		bytesOf(t, "Trim", h, slowly(f))
		equal(t, "how many bytes", len(h), 26)
		reads(t, "trimmed", h, f)
		_, again := Trim(h)
		equal(t, "Trim again", again, false)
	}
	empty := api.Frame{Kind: api.FData, Src: 1, Dst: 2, Prio: 7, Msg: 9}
	h, ok := Trim(encoded(t, empty))
	equal(t, "Trim of one with no bytes", ok, true)
	reads(t, "trimmed of none", h, api.Frame{Kind: api.FHeader, Src: 1, Dst: 2, Msg: 9})
	for _, f := range []api.Frame{
		{Kind: api.FData, Src: 7, Dst: 7, Prio: 7, Msg: 1 << 60, Off: 1<<30 - 1500, Len: 1500, Total: 1 << 30, Num: 1 << 30, Data: data(1500)},
		{Kind: api.FData, Off: 1 << 30, Total: 1 << 30},
	} {
		h, ok := Trim(encoded(t, f))
		equal(t, "Trim at the ends", ok, true)
		f.Kind, f.Prio, f.Data = api.FHeader, 0, nil
		reads(t, "trimmed at the ends", h, f)
	}
}

// TestP104Lengths: cut to any other length, or with more behind, bytes are none's.
func TestP104Lengths(t *testing.T) {
	kinds(func(kind int) {
		for _, size := range []int{0, 1, 2, 300, 1500} {
			f := frame(kind)
			f.Len, f.Data = size, nil
			if kind == api.FData {
				f.Data = data(size)
			}
			b := encoded(t, f)
			reads(t, "whole", b, f)
			for n := range len(b) {
				refused(t, "cut to "+strconv.Itoa(n), b[:n])
				// Beyond the cut, what is there is not asked.
				refused(t, "cut to "+strconv.Itoa(n), b[:n:n])
			}
			for _, more := range []int{1, 2, 26, 300, 1 << 16, 1 << 20} {
				refused(t, "with more behind", append(slices.Clone(b), make([]byte, more)...))
			}
		}
	})
}

// room is these bytes with spare room behind them, all of it 0xee.
func room(b []byte) []byte {
	r := slices.Repeat([]byte{0xee}, len(b)+64)
	copy(r, b)
	return r[:len(b)]
}

// untouched holds that these bytes with their spare room are as room made them.
func untouched(t *testing.T, got, want []byte) {
	t.Helper()
	bytesOf(t, "what was handed in", got[:cap(got)], room(want)[:len(want)+64])
}

// TestP104Own: what is handed in is neither changed nor kept, what is answered new.
func TestP104Own(t *testing.T) {
	f := frame(api.FData)
	f.Data = room(f.Data)
	b := encoded(t, f)
	untouched(t, f.Data, data(300))
	want := slices.Clone(b)
	clear(f.Data[:cap(f.Data)])
	bytesOf(t, "bytes that were answered", b, want)
	clear(encoded(t, frame(api.FData)))
	bytesOf(t, "bytes that were answered", b, want)

	b = room(b)
	g, _ := Decode(b)
	h, _ := Trim(b)
	again, _ := Decode(b)
	untouched(t, b, want)
	clear(again.Data[:cap(again.Data)])
	untouched(t, b, want)
	clear(b[:cap(b)])
	frames(t, "a frame that was answered", g, frame(api.FData))
	x, e := Decode(h)
	equal(t, "bytes that were answered", e, api.OK)
	equal(t, "bytes that were answered", x.Kind, api.FHeader)

	b = room(want)
	h, _ = Trim(b)
	clear(h[:cap(h)])
	g, _ = Decode(b)
	g.Data = append(g.Data, 1, 2, 3)
	untouched(t, b, want)
	Same(g, g)
	Check(g)
	Size(g)
	untouched(t, b, want)
	wrong := room(want[:len(want)-1])
	refused(t, "cut", wrong)
	untouched(t, wrong, want[:len(want)-1])
}

// TestP104NoData: of a frame without data none is answered.
func TestP104NoData(t *testing.T) {
	for _, kind := range []int{api.FData, api.FHeader, api.FStop} {
		b := encoded(t, api.Frame{Kind: kind})
		f, e := Decode(room(b))
		equal(t, "Decode", e, api.OK)
		frames(t, "no data", f, api.Frame{Kind: kind})
	}
}
