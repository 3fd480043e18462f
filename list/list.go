// Package list: what several layers do with lists, whatever stands in them.
package list

import "slices"

// Fresh is a list in memory of its own, like another one.
func Fresh[T any](list []T) []T {
	out := make([]T, len(list))
	copy(out, list)
	return out
}

// Each is what comes of each thing in a list.
func Each[T, U any](list []T, of func(T) U) []U {
	out := make([]U, len(list))
	for i, x := range list {
		out[i] = of(x)
	}
	return out
}

// These are the things with these numbers.
func These[T any](all []T, at []int) []T {
	return Each(at, func(k int) T { return all[k] })
}

// Others are the numbers from 0 on, below many, that no list has.
func Others(many int, lists ...[]int) []int {
	out := []int{}
	for k := range many {
		if !slices.ContainsFunc(lists, func(list []int) bool { return slices.Contains(list, k) }) {
			out = append(out, k)
		}
	}
	return out
}

// Pieces are what a list is cut into: so many, as even as can be. They share its memory.
func Pieces[T any](list []T, many int) [][]T {
	out := make([][]T, many)
	for p := range out {
		out[p] = list[p*len(list)/many : (p+1)*len(list)/many]
	}
	return out
}

// Picker tells, whenever it is asked, which one of so many is next: as picks say, from the first one on again and again; without picks the first of them.
func Picker(picks []int) func(many int) int {
	asked := 0
	return func(many int) int {
		if len(picks) == 0 {
			return 0
		}
		number := picks[asked%len(picks)]
		asked++
		return (number%many + many) % many
	}
}
