// Package vec has resources: three numbers that are reckoned with side by side.
package vec

import "reeve/api"

// May tells whether each of v's numbers is from 0 to MaxRes.
func May(v api.Vec) bool {
	return Fits(api.Vec{}, v) && Fits(v, alike(api.MaxRes))
}

// Add answers a and b together, or ErrOver.
func Add(a, b api.Vec) (api.Vec, api.Errno) {
	return beside(widen(a), widen(b), wide.plus).narrow()
}

// Sub answers a without b, or ErrOver.
func Sub(a, b api.Vec) (api.Vec, api.Errno) {
	return beside(widen(a), widen(b), wide.minus).narrow()
}

// Times answers v n times, or ErrOver.
func Times(v api.Vec, n int64) (api.Vec, api.Errno) {
	return beside(widen(v), widen(alike(n)), wide.times).narrow()
}

// Sum answers all of l together, or ErrOver.
func Sum(l []api.Vec) (api.Vec, api.Errno) {
	var total triple
	for _, v := range l {
		// Stays wide up to the end: only the whole sum may be too great.
		total = beside(total, widen(v), wide.plus)
	}
	return total.narrow()
}

// Fits tells whether none of a's numbers is above b's.
func Fits(a, b api.Vec) bool {
	return Min(a, b) == a
}

// Max answers number by number the greater.
func Max(a, b api.Vec) api.Vec {
	// One of two numbers that int64 has: there is no error to tell.
	v, _ := beside(widen(a), widen(b), wide.greater).narrow()
	return v
}

// Min answers number by number the lesser.
func Min(a, b api.Vec) api.Vec {
	// No error here either, as in Max.
	v, _ := beside(widen(a), widen(b), wide.lesser).narrow()
	return v
}

func alike(n int64) api.Vec {
	return api.Vec{Cpu: n, Mem: n, Disk: n}
}
