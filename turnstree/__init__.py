"""Fractions in a tree."""
