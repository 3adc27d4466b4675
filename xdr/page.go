package xdr

import (
	"undercroft/num"
)

// unit is what the bytes of all elements are a multiple of.
const unit = 4

// padding tells how many noughts stand behind n bytes.
func padding(n int) int { return (unit - n%unit) % unit }

// truthNumber is a truth as it stands in a row.
func truthNumber(is bool) uint64 {
	if is {
		return 1
	}
	return 0
}

// page is bytes that are written one behind the other.
type page struct {
	all []byte
}

func (p *page) numbers(n int, l ...uint64) {
	b, _ := num.PutBe(nil, n, l...)
	p.all = append(p.all, b...)
}

// padded writes bytes and the noughts behind them.
func (p *page) padded(b []byte) {
	var noughts [unit]byte
	p.all = append(p.all, b...)
	p.all = append(p.all, noughts[:padding(len(b))]...)
}
