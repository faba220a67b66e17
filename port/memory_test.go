package port

import (
	"testing"

	"mizzen/api"
)

// roomy is data with room behind it, all of the same byte.
func roomy(fill byte) []byte {
	b := make([]byte, 10, 30)
	for k := range b[:30] {
		b[:30][k] = fill
	}
	return b
}

// write writes into all of an item's data, the room behind it, too.
func write(l ...Item) {
	for _, i := range l {
		all := i.Frame.Data[:cap(i.Frame.Data)]
		for k := range all {
			all[k] = 'z'
		}
	}
}

func roomyItem(kind int, fill byte) Item {
	return Item{api.Frame{Kind: kind, Prio: 1, Len: 10, Data: roomy(fill)}, 5}
}

// TestP132HandedIn: nothing of what is put in is changed, nor kept.
func TestP132HandedIn(t *testing.T) {
	p := made(t, 26+10+26+26, 1, true)
	for n, kind := range []int{api.FData, api.FAck, api.FData, api.FCredit, api.FCredit, api.FAck} {
		i := roomyItem(kind, 'a')
		done := p.Put(i)
		equal(t, "Put", done, [6]int{Queued, Queued, Trimmed, Queued, Dropped, Dropped}[n])
		equal(t, "not changed", told(i), told(roomyItem(kind, 'a')))
		equal(t, "the room behind it", string(i.Frame.Data[:30]), string(roomy('a')[:30]))
		write(i)
	}
	data, ack, last := roomyItem(api.FData, 'a'), roomyItem(api.FAck, 'a'), roomyItem(api.FCredit, 'a')
	stands(t, "not kept", p, 88, 1, head(data), data, ack, last)
}

// TestP132NewMemory: what is done to an answer is not done to the port, nor to another answer.
func TestP132NewMemory(t *testing.T) {
	p := made(t, 1000, 4, false)
	a, b, c := data(3, 10, 1), data(3, 20, 2), data(3, 30, 3)
	last := credit(4)
	last.Frame.Data = []byte("abc")
	puts(t, p, a, b, c, last)
	one, other := p.Waiting(), p.Waiting()
	write(one...)
	clear(one)
	_ = append(one[:cap(one)], Item{})
	items(t, "another answer", other, []Item{a, b, c, last})
	stands(t, "Waiting was written", p, 138, 1, a, b, c, last)
	for k := range p.Len() {
		i, _ := p.At(k)
		write(i)
	}
	stands(t, "At's were written", p, 138, 1, a, b, c, last)

	equal(t, "Double", p.Double(0), true)
	equal(t, "Double", p.Double(4), true)
	for _, k := range []int{0, 3} {
		i, _ := p.Drop(k)
		write(i)
	}
	stands(t, "one of two was written", p, 138, 1, b, c, a, last)
	items(t, "an answer of earlier", other, []Item{a, b, c, last})
	for range 2 {
		i, _ := p.Take(0)
		write(i)
	}
	stands(t, "Take's was written", p, 92, 0, c, a)
	items(t, "an answer of earlier", other, []Item{a, b, c, last})
}

// TestP132Apart: ports have nothing in common.
func TestP132Apart(t *testing.T) {
	p, q := made(t, 100, 2, true), made(t, 100, 2, true)
	i, c := data(3, 10, 1), credit(2)
	puts(t, p, i, c, c)
	stands(t, "the other one", q, 0, 0)
	puts(t, q, i, c)
	equal(t, "a credit of one", take(p, 50), yes(c))
	equal(t, "one of the other", take(q, 0), yes(c))
	taken, _ := p.Take(50)
	write(taken)
	stands(t, "the other one", q, 36, 0, i)
	stands(t, "one", p, 0, 1, c)
}
