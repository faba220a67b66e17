package wire

import (
	"mizzen/api"
)

// sumAt is which byte of a head is the sum of the others.
const sumAt = 3

// sum is that of a head's other bytes, mod 256.
func sum(head []byte) byte {
	var s byte
	for i, c := range head {
		if i != sumAt {
			s += c
		}
	}
	return s
}

// put writes a number as so many bytes, the greatest first, behind b.
func put(b []byte, number uint64, size int) []byte {
	for i := size - 1; i >= 0; i-- {
		b = append(b, byte(number>>(8*i)))
	}
	return b
}

// Encode writes one.
func Encode(f api.Frame) ([]byte, api.Errno) {
	if e := Check(f); e != api.OK {
		return nil, e
	}
	b := make([]byte, 0, Size(f))
	b = put(b, uint64(f.Kind), 1)
	b = put(b, uint64(f.Src*16+f.Dst), 1)
	b = put(b, uint64(f.Prio), 1)
	b = put(b, 0, 1) // the sum's place
	b = put(b, f.Msg, 8)
	b = put(b, uint64(f.Off), 4)
	b = put(b, uint64(f.Total), 4)
	b = put(b, uint64(f.Len), 2)
	b = put(b, uint64(f.Num), 4)
	b[sumAt] = sum(b)
	return append(b, f.Data...), api.OK
}

// reader takes numbers from bytes, one behind the other.
type reader struct {
	left  []byte // what was not read yet
	short bool   // whether more was asked for than was left
}

// take reads a number of so many bytes, the greatest first; 0, if there are not so many.
func (r *reader) take(size int) uint64 {
	if len(r.left) < size {
		r.short = true
		return 0
	}
	var number uint64
	for _, c := range r.left[:size] {
		number = number<<8 | uint64(c)
	}
	r.left = r.left[size:]
	return number
}

// head reads the fields, in their order.
func (r *reader) head() api.Frame {
	var f api.Frame
	f.Kind = int(r.take(1))
	hosts := int(r.take(1))
	f.Src, f.Dst = hosts/16, hosts%16
	f.Prio = int(r.take(1))
	r.take(1) // the sum
	f.Msg = r.take(8)
	f.Off = int(r.take(4))
	f.Total = int(r.take(4))
	f.Len = int(r.take(2))
	f.Num = int(r.take(4))
	return f
}

// read is the frame whose bytes b are, and whether there is one. Its Data is a piece of b.
func read(b []byte) (api.Frame, bool) {
	r := reader{left: b}
	f := r.head()
	f.Data = r.left
	if r.short || sum(b[:Head]) != b[sumAt] || Check(f) != api.OK {
		return api.Frame{}, false
	}
	return f, true
}

// Decode reads one.
func Decode(b []byte) (api.Frame, api.Errno) {
	f, ok := read(b)
	if !ok {
		return api.Frame{}, api.ErrBad
	}
	f.Data = append([]byte(nil), f.Data...)
	return f, api.OK
}

// Trim takes the data off.
func Trim(b []byte) ([]byte, bool) {
	f, ok := read(b)
	if !ok || f.Kind != api.FData {
		return nil, false
	}
	f.Kind, f.Prio, f.Data = api.FHeader, 0, nil
	head, e := Encode(f)
	return head, e == api.OK
}
