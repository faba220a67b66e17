package wire

import (
	"math"
	"slices"
	"strconv"
	"testing"

	"mizzen/api"
)

func equal[T comparable](t *testing.T, what string, got, want T) {
	t.Helper()
	if got != want {
		t.Errorf("%s: got %v, want %v", what, got, want)
	}
}

// bytesOf holds bytes, of which nil is as good as none.
func bytesOf(t *testing.T, what string, got, want []byte) {
	t.Helper()
	if !slices.Equal(got, want) {
		t.Errorf("%s: got %d: %v, want %d: %v", what, len(got), short(got), len(want), short(want))
	}
}

// short is the first ones of a list, so that what fails is told in a few lines.
func short(list []byte) []byte {
	return list[:min(len(list), 40)]
}

// frames holds a frame, told field by field by this test's own means.
func frames(t *testing.T, what string, got, want api.Frame) {
	t.Helper()
	equal(t, what+": Kind", got.Kind, want.Kind)
	equal(t, what+": Src", got.Src, want.Src)
	equal(t, what+": Dst", got.Dst, want.Dst)
	equal(t, what+": Prio", got.Prio, want.Prio)
	equal(t, what+": Msg", got.Msg, want.Msg)
	equal(t, what+": Off", got.Off, want.Off)
	equal(t, what+": Len", got.Len, want.Len)
	equal(t, what+": Total", got.Total, want.Total)
	equal(t, what+": Num", got.Num, want.Num)
	bytesOf(t, what+": Data", got.Data, want.Data)
}

// draws is a rule for numbers.
type draws uint64

func (d *draws) below(n int) int {
	*d = *d*6364136223846793005 + 1442695040888963407
	return int(uint64(*d)>>33) % n
}

// data is so many bytes, each another than its neighbours.
func data(n int) []byte {
	b := make([]byte, n)
	for i := range b {
		b[i] = byte(7*i + i/256 + 1)
	}
	return b
}

// frame is one of that Kind with nothing at an edge.
func frame(kind int) api.Frame {
	f := api.Frame{Kind: kind, Src: 3, Dst: 6, Prio: 5, Msg: 0x0123456789abcdef, Off: 70000, Len: 300, Total: 0x12345678, Num: 0x0a0b0c0d}
	if kind == api.FData {
		f.Data = data(300)
	}
	return f
}

// kinds calls for each Kind.
func kinds(each func(kind int)) {
	for kind := 1; kind <= 12; kind++ {
		each(kind)
	}
}

// checks holds what Check tells, and that Encode tells the same.
func checks(t *testing.T, what string, f api.Frame, want api.Errno) {
	t.Helper()
	what += " of kind " + strconv.Itoa(f.Kind)
	equal(t, what+": Check", Check(f), want)
	b, e := Encode(f)
	equal(t, what+": Encode", e, want)
	if e != api.OK {
		bytesOf(t, what+": beside an error", b, nil)
	}
}

func TestP101Kind(t *testing.T) {
	kinds(func(kind int) {
		checks(t, "one with nothing at an edge", frame(kind), api.OK)
		checks(t, "one with nothing but a Kind", api.Frame{Kind: kind}, api.OK)
	})
	for _, kind := range []int{0, 13, 14, -1, -12, 255, 256, 257, 1<<32 + 1, math.MinInt, math.MinInt + 1, math.MaxInt} {
		checks(t, "no Kind", api.Frame{Kind: kind}, api.ErrArg)
		f := frame(api.FData)
		f.Kind = kind
		checks(t, "no Kind, with data", f, api.ErrArg)
	}
	checks(t, "no field", api.Frame{}, api.ErrArg)
}

// field is one of a frame's numbers, and the greatest that it may be.
type field struct {
	name string
	most int
	set  func(f *api.Frame, n int)
}

func fields() []field {
	return []field{
		{"Src", 7, func(f *api.Frame, n int) { f.Src = n }},
		{"Dst", 7, func(f *api.Frame, n int) { f.Dst = n }},
		{"Prio", 7, func(f *api.Frame, n int) { f.Prio = n }},
		{"Off", 1 << 30, func(f *api.Frame, n int) { f.Off = n }},
		{"Total", 1 << 30, func(f *api.Frame, n int) { f.Total = n }},
		{"Len", 1500, func(f *api.Frame, n int) { f.Len = n }},
		{"Num", 1 << 30, func(f *api.Frame, n int) { f.Num = n }},
	}
}

// TestP101Fields: each field at its ends, and beyond, also by what a few bytes would cut off.
func TestP101Fields(t *testing.T) {
	for _, x := range fields() {
		kinds(func(kind int) {
			for _, n := range []int{0, 1, 2, x.most / 2, x.most - 1, x.most} {
				f := frame(kind)
				// With the others so, nothing but the field itself could be wrong.
				f.Off, f.Len, f.Total, f.Data = 0, 0, 1<<30, nil
				x.set(&f, n)
				if kind == api.FData {
					f.Data = data(f.Len)
				}
				checks(t, x.name+" "+strconv.Itoa(n), f, api.OK)
			}
			for _, n := range []int{-1, -2, -256, -1 << 32, math.MinInt, math.MinInt + 1, x.most + 1, x.most + 2, 1<<16 + 1, 1 << 31, 1 << 32, 1<<32 + 1, 1 << 61, math.MaxInt - 1, math.MaxInt} {
				if n >= 0 && n <= x.most {
					continue
				}
				f := frame(kind)
				x.set(&f, n)
				checks(t, x.name+" "+strconv.Itoa(n), f, api.ErrArg)
				f.Data = nil
				checks(t, x.name+" "+strconv.Itoa(n)+" without data", f, api.ErrArg)
			}
		})
	}
}

func TestP101Msg(t *testing.T) {
	kinds(func(kind int) {
		for _, msg := range []uint64{0, 1, 1 << 32, 1<<60 - 1, 1 << 60} {
			f := frame(kind)
			f.Msg = msg
			checks(t, "Msg", f, api.OK)
		}
		for _, msg := range []uint64{1<<60 + 1, 1<<60 + 2, 1 << 61, 1 << 63, math.MaxUint64} {
			f := frame(kind)
			f.Msg = msg
			checks(t, "Msg", f, api.ErrArg)
		}
	})
}

// TestP101Range: Off and Len together, which only a frame of bytes of a message asks.
func TestP101Range(t *testing.T) {
	for _, r := range []struct {
		off, size, total int
		fits             bool
	}{
		{0, 0, 0, true}, {0, 1, 1, true}, {0, 1, 0, false}, {1, 0, 1, true}, {1, 0, 0, false}, {5, 5, 10, true}, {5, 6, 10, false}, {6, 5, 10, false},
		{5, 5, 9, false}, {1, 1500, 1501, true}, {2, 1500, 1501, false}, {1 << 30, 0, 1 << 30, true}, {1 << 30, 1, 1 << 30, false},
		{1 << 30, 0, 1<<30 - 1, false}, {1 << 30, 1500, 1 << 30, false}, {1<<30 - 1500, 1500, 1 << 30, true}, {1<<30 - 1499, 1500, 1 << 30, false}, {1 << 30, 1500, 0, false},
	} {
		kinds(func(kind int) {
			f := frame(kind)
			f.Off, f.Len, f.Total = r.off, r.size, r.total
			want := api.OK
			if kind == api.FData {
				f.Data = data(r.size)
			}
			if (kind == api.FData || kind == api.FHeader) && !r.fits {
				want = api.ErrArg
			}
			checks(t, "Off "+strconv.Itoa(r.off)+", Len "+strconv.Itoa(r.size)+", Total "+strconv.Itoa(r.total), f, want)
		})
	}
}

func TestP101Data(t *testing.T) {
	for _, size := range []int{0, 1, 2, 299, 300, 301, 1499, 1500, 1501, 1 << 16, 1<<16 + 1, 1<<16 + 300} {
		for _, told := range []int{0, 1, 300, 1500} {
			kinds(func(kind int) {
				f := frame(kind)
				f.Len, f.Data = told, data(size)
				want := api.ErrArg
				if kind == api.FData && size == told || kind != api.FData && size == 0 {
					want = api.OK
				}
				checks(t, "Len "+strconv.Itoa(told)+", "+strconv.Itoa(size)+" of data", f, want)
			})
		}
	}
	kinds(func(kind int) {
		f := frame(kind)
		f.Len, f.Data = 0, []byte{}
		checks(t, "an empty list", f, api.OK)
		f.Data = nil
		checks(t, "no list", f, api.OK)
	})
}

func TestP103Size(t *testing.T) {
	equal(t, "Head", Head, 26)
	kinds(func(kind int) {
		for _, size := range []int{0, 1, 300, 1500} {
			f := frame(kind)
			f.Len, f.Data = size, nil
			want := 26
			if kind == api.FData {
				want, f.Data = 26+size, data(size)
			}
			equal(t, "Size", Size(f), want)
			b, e := Encode(f)
			equal(t, "Encode", e, api.OK)
			equal(t, "how many bytes", len(b), want)
		}
	})
	// It is asked of frames that may not be, too.
	equal(t, "Size by Len, not by what is there", Size(api.Frame{Kind: api.FData, Len: 4, Data: data(9)}), 30)
	equal(t, "Size of a great Len", Size(api.Frame{Kind: api.FData, Len: 1501}), 1527)
	equal(t, "Size that does not run over", Size(api.Frame{Kind: api.FData, Len: math.MaxInt}), math.MaxInt)
	equal(t, "Size that does not run over", Size(api.Frame{Kind: api.FData, Len: math.MaxInt - 26}), math.MaxInt)
	equal(t, "Size that does not run over", Size(api.Frame{Kind: api.FData, Len: math.MaxInt - 27}), math.MaxInt-1)
	equal(t, "Size of no Kind", Size(api.Frame{Len: 7, Data: data(7)}), 26)
	equal(t, "Size of data that is too much", Size(api.Frame{Kind: api.FAck, Len: 7, Data: data(7)}), 26)
}

// TestP103Same: each field counts, and of Data what it holds.
func TestP103Same(t *testing.T) {
	kinds(func(kind int) {
		equal(t, "Same", Same(frame(kind), frame(kind)), true)
		kinds(func(other int) {
			f := frame(kind)
			f.Kind = other
			equal(t, "Same of Kinds", Same(frame(kind), f), kind == other)
		})
		for _, x := range append(fields(), field{"Msg", 0, func(f *api.Frame, n int) { f.Msg = uint64(n) }}) {
			for _, n := range []int{0, 1, -1, 1 << 32, math.MinInt, math.MaxInt} {
				f := frame(kind)
				x.set(&f, n)
				equal(t, "Same with another "+x.name, Same(frame(kind), f), false)
				equal(t, "Same with another "+x.name, Same(f, frame(kind)), false)
				equal(t, "Same of one that may not be", Same(f, f), true)
			}
		}
	})
	lists := [][]byte{{1}, {2}, {1, 2}, {1, 2, 3}, {1, 2, 4}, {0, 2, 3}, {0}}
	for i, a := range lists {
		for j, b := range lists {
			f, g := frame(api.FData), frame(api.FData)
			f.Data, g.Data = a, slices.Clone(b)
			equal(t, "Same of Data", Same(f, g), i == j)
			f.Data = []byte{}
			equal(t, "Same with none", Same(f, g), false)
			g.Data = nil
			equal(t, "Same of none", Same(f, g), true)
			equal(t, "Same of none", Same(g, f), true)
		}
	}
	equal(t, "Same of no fields", Same(api.Frame{}, api.Frame{}), true)
}
