// Package disk is layer 24. See shared/doc/24-disk.md.
package disk

import "cleanroom/api"

// Disk is specified in shared/doc/24-disk.md.
type Disk struct{}

// New is specified in shared/doc/24-disk.md.
func New(size int) (*Disk, api.Errno) { return nil, 0 }

// Write is specified in shared/doc/24-disk.md.
func (d *Disk) Write(off int, s string) api.Errno { return 0 }

// Sync is specified in shared/doc/24-disk.md.
func (d *Disk) Sync() api.Errno { return 0 }

// Read is specified in shared/doc/24-disk.md.
func (d *Disk) Read(off int, n int) (string, api.Errno) { return "", 0 }

// Pending is specified in shared/doc/24-disk.md.
func (d *Disk) Pending() int { return 0 }

// Cut is specified in shared/doc/24-disk.md.
func (d *Disk) Cut(n int) api.Errno { return 0 }

// Crash is specified in shared/doc/24-disk.md.
func (d *Disk) Crash(keep []int, torn int) api.Errno { return 0 }

// Size is specified in shared/doc/24-disk.md.
func (d *Disk) Size() int { return 0 }
